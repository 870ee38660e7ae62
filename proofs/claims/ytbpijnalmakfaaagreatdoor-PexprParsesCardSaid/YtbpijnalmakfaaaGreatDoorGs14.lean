/-
  Plain: an expression's text, form by form.
-/
import Derived.Test.YtbpijnalmakfaaaGreatDoorGs05
import Derived.Test.YtbpijnalmakfaaaGreatDoorGs13
import Derived.Deep.RegionHeld3
import Derived.Deep.RegionLaw
import Derived.Lib.Strings
import Derived.Maps.AppendAt
set_option maxHeartbeats 40000000
set_option maxRecDepth 100000
namespace Go.Proofs.YtbpijnalmakfaaaGreatDoor
section
variable {nk lg:ByteArray→Bool} {nb:Int→ByteArray}
theorem vT (a:Tk) {y:List Tk} (h:y≠[]):jT (a::y)=a.s.data.toList++32::jT y:=by
 cases y with
 | nil=>exact absurd rfl h
 | cons b r=>rfl
theorem jP {l:List Te} (h:l≠[]):tks l≠[]:=by
 cases l with
 | nil=>exact absurd rfl h
 | cons a r=>intro e;cases e
theorem mE (b:Bool) (ts:List Te):tks (wie b ts)=wi b (tks ts):=by
 cases b with
 | false=>rfl
 | true=>
  show ky kOpen::tks (ts++[ke kShut])=_
  rw[yP]
  rfl
def txE (nb:Int→ByteArray) (t:Tr):ByteArray:=tB (tks (tkE nb t))
def atX (nb:Int→ByteArray) (t:Tr) (r:Nat):ByteArray:=if low t.1 r then ⟨#[40,32]⟩++txE nb t++⟨#[32,41]⟩ else txE nb t
theorem yXv {t:Tr} (h:isT nk lg t 2=true) (r:Nat):tB (wi (low t.1 r) (tks (tkE nb t)))=atX nb t r:=by
 unfold atX
 cases low t.1 r with
 | false=>rfl
 | true=>exact zPn (jP (yR h))
theorem nG {t:Tr} (h:isT nk lg t 2=true) (r:Nat):jT (wi (low t.1 r) (tks (tkE nb t)))=(atX nb t r).data.toList:=by rw[←yXv h r];rfl
theorem jX (t:Tr):jT (tks (tkE nb t))=(txE nb t).data.toList:=rfl
theorem wne {t:Tr} (h:isT nk lg t 2=true) (b:Bool):wi b (tks (tkE nb t))≠[]:=zPo (jP (yR h))
theorem zHc (n:Int):txE nb (⟨20,n,nob,nob⟩,.nil)=nb n:=zR _ _ rfl
theorem zSz (n:Int):txE nb (⟨21,n,nob,nob⟩,.nil)=if n=1 then kTrue else yH:=by
 unfold txE;rw[rZ]
 split<;>exact zR _ _ rfl
theorem zPq:txE nb (nd 22 nob .nil)=⟨#[40,32,41]⟩:=zR _ _ rfl
theorem zHd (s:ByteArray):txE nb (nd 23 s .nil)=s:=zR _ _ rfl
theorem zHe {s:ByteArray} {a b:Tr} (ha:isT nk lg a 1=true) (hb:isT nk lg b 2=true):txE nb (nd 24 s (fr2 a b))=⟨#[102,110,32,40,32]⟩++s++⟨#[32,58,32]⟩++tB (tkT a)++⟨#[32,41,32,61,62,32]⟩++txE nb b:=by
 refine zR _ _ ?_;unfold txE;rw[dA ha hb,jJ]
 show jT (ky kFn::ky kOpen::nmT s::ky zQ::tks (tyE (tkT a)++ke kShut::ke kFat::tkE nb b))=_
 rw[yP,tP]
 show jT (ky kFn::ky kOpen::nmT s::ky zQ::(tkT a++ky kShut::ky kFat::tks (tkE nb b)))=_
 have h1:=bC ha;have h2:=jP (yR (nb:=nb) hb);rw[vT _ (by simp),vT _ (by simp),vT _ (by simp),vT _ (by simp),kX _ _ h1 (by simp),vT _ (by simp),vT _ h2];simp only[qN,List.append_assoc]
 rfl
theorem zSm {a b:Tr} (ha:isT nk lg a 2=true) (hb:isT nk lg b 2=true):txE nb (nd 25 nob (fr2 a b))=atX nb a 4++⟨#[32]⟩++atX nb b 5:=by
 refine zR _ _ ?_
 conv=>lhs;unfold txE
 rw[dB ha hb,jJ,yP,mE,mE,kX _ _ (wne ha _) (wne hb _),nG ha,nG hb];simp only[qN,List.append_assoc]
 rfl
theorem zPr {a b:Tr} (ha:isT nk lg a 2=true) (hb:isT nk lg b 2=true):txE nb (nd 26 nob (fr2 a b))=⟨#[40,32]⟩++txE nb a++⟨#[32,44,32]⟩++txE nb b++⟨#[32,41]⟩:=by
 refine zR _ _ ?_
 conv=>lhs;unfold txE
 rw[nX ha hb,jJ]
 show jT (ky kOpen::tks (tkE nb a++ke qJ::(tkE nb b++[ke kShut])))=_
 rw[yP]
 show jT (ky kOpen::(tks (tkE nb a)++ky qJ::tks (tkE nb b++[ke kShut])))=_
 rw[yP];have h1:=jP (yR (nb:=nb) ha);have h2:=jP (yR (nb:=nb) hb);rw[vT _ (by simp),kX _ _ h1 (by simp),vT _ (by simp[h2]),kX _ _ h2 (by intro e;cases e),jX,jX];simp only[qN,List.append_assoc]
 rfl
theorem zXa {k:Int} (hk:k=27∨k=28) {a:Tr} (ha:isT nk lg a 2=true):txE nb (nd k nob (fr1 a))=(if k=27 then ⟨#[35,49,32]⟩ else ⟨#[35,50,32]⟩)++atX nb a 5:=by
 refine zR _ _ ?_
 conv=>lhs;unfold txE
 rw[dC hk ha,jJ]
 show jT (ky (kSel k)::tks (wie (low a.1 5) (tkE nb a)))=_
 rw[mE,vT _ (wne ha _),nG ha,qN]
 rcases hk with rfl | rfl<;>rfl
theorem zHf {s:ByteArray} {a b:Tr} (ha:isT nk lg a 2=true) (hb:isT nk lg b 2=true):txE nb (nd 29 s (fr2 a b))=⟨#[108,101,116,32]⟩++s++⟨#[32,61,32]⟩++txE nb a++⟨#[32,105,110,32]⟩++txE nb b++⟨#[32,101,110,100]⟩:=by
 refine zR _ _ ?_
 conv=>lhs;unfold txE
 rw[dD ha hb,jJ]
 show jT (ky kLet::nmT s::ky kEq::tks (tkE nb a++ke kIn::(tkE nb b++[ke kEnd])))=_
 rw[yP]
 show jT (ky kLet::nmT s::ky kEq::(tks (tkE nb a)++ky kIn::tks (tkE nb b++[ke kEnd])))=_
 rw[yP];have h1:=jP (yR (nb:=nb) ha);have h2:=jP (yR (nb:=nb) hb);rw[vT _ (by simp),vT _ (by simp),vT _ (by simp),kX _ _ h1 (by simp),vT _ (by simp[h2]),kX _ _ h2 (by intro e;cases e),jX,jX];simp only[qN,List.append_assoc]
 rfl
theorem yYh {a b c:Tr} (ha:isT nk lg a 2=true) (hb:isT nk lg b 2=true) (hc:isT nk lg c 2=true):txE nb (nd 30 nob (fr3 a b c))=⟨#[105,102,32]⟩++txE nb a++⟨#[32,116,104,101,110,32]⟩++txE nb b++⟨#[32,101,108,115,101,32]⟩++txE nb c:=by
 refine zR _ _ ?_
 conv=>lhs;unfold txE
 rw[zZ8 ha hb hc,jJ]
 show jT (ky kIf::tks (tkE nb a++ke kThen::(tkE nb b++ke kElse::tkE nb c)))=_
 rw[yP]
 show jT (ky kIf::(tks (tkE nb a)++ky kThen::tks (tkE nb b++ke kElse::tkE nb c)))=_
 rw[yP]
 show jT (ky kIf::(tks (tkE nb a)++ky kThen::(tks (tkE nb b)++ky kElse::tks (tkE nb c))))=_
 have h1:=jP (yR (nb:=nb) ha);have h2:=jP (yR (nb:=nb) hb);have h3:=jP (yR (nb:=nb) hc);rw[vT _ (by simp),kX _ _ h1 (by simp),vT _ (by simp),kX _ _ h2 (by simp),vT _ h3,jX,jX,jX];simp only[qN,List.append_assoc]
 rfl
def sgB (k:Int):ByteArray:=if k=1 then ⟨#[32,43,32]⟩ else if k=2 then ⟨#[32,45,32]⟩ else if k=3 then ⟨#[32,42,32]⟩ else if k=4 then ⟨#[32,61,32]⟩ else ⟨#[32,60,32]⟩
theorem zVr (k:Int):(sgB k).data.toList=32::((signB k).data.toList++[32]):=by
 unfold sgB signB
 repeat' split
 all_goals rfl
theorem zZa {k:Int} {a b:Tr} (ha:isT nk lg a 2=true) (hb:isT nk lg b 2=true):txE nb (opN k,fr2 a b)=atX nb a (lft (opN k))++sgB k++atX nb b (lvl (opN k)+1):=by
 refine zR _ _ ?_
 conv=>lhs;unfold txE
 rw[zZ9 ha hb,jJ,yP,mE]
 show jT (wi _ (tks (tkE nb a))++ky (signB k)::tks (wie _ (tkE nb b)))=_
 rw[mE,kX _ _ (wne ha _) (by simp),vT _ (wne hb _),nG ha,nG hb];simp only[qN,List.append_assoc];rw[zVr]
 show _=(atX nb a (lft (opN k))).data.toList++(32::((signB k).data.toList++[32])++(atX nb b (lvl (opN k)+1)).data.toList)
 rw[List.cons_append,List.append_assoc]
 rfl
def txA (nb:Int→ByteArray) (f:Fr):ByteArray:=tB (tks (barsE (yQ nb f)))
theorem iI {f:Fr} (h0:0<f.len) (h:ArmOk nk lg f):barsE (yQ nb f)≠[]:=by
 cases f with
 | nil=>exact absurd h0 (Nat.lt_irrefl _)
 | cons x k r=>
  obtain⟨h9,hr⟩:=zVp h;obtain⟨c,y,b,hxb,hc,hy,hb⟩:=jW h9;injection hxb with e1 e2;subst e1;subst e2;have es:yQ nb (.cons ⟨34,0,c,y⟩ (fr1 b) r)=(ne c::ne y::ke kFat::tkE nb b)::yQ nb r:=by unfold yQ;rw[sG hb];rfl
  rw[es]
  cases yQ nb r with
  | nil=>intro e;cases e
  | cons _ _=>intro e;cases e
theorem zPs {a:Tr} (ha:isT nk lg a 2=true) {k:Fr} (h0:0<k.len) (hk:ArmOk nk lg k):txE nb (nd 32 nob (.cons a.1 a.2 k))=⟨#[99,97,115,101,32]⟩++txE nb a++⟨#[32,111,102,32]⟩++(txA nb k++⟨#[32,101,110,100]⟩):=by
 refine zR _ _ ?_
 conv=>lhs;unfold txE
 rw[nY ha,jJ]
 show jT (ky kCase::tks (tkE nb a++ke kOf::(barsE (yQ nb k)++[ke kEnd])))=_
 rw[yP]
 show jT (ky kCase::(tks (tkE nb a)++ky kOf::tks (barsE (yQ nb k)++[ke kEnd])))=_
 rw[yP];have h1:=jP (yR (nb:=nb) ha);have h2:=jP (iI (nb:=nb) h0 hk);rw[vT _ (by simp),kX _ _ h1 (by simp),vT _ (by simp[h2]),kX _ _ h2 (by intro e;cases e),jX];simp only[qN,List.append_assoc]
 rfl
theorem zPt {a t:Tr} (ha:isT nk lg a 2=true) (ht:isT nk lg t 1=true) {k:Fr} (h0:0<k.len) (hk:ArmOk nk lg k):txE nb (nd 33 nob (.cons a.1 a.2 (.cons t.1 t.2 k)))=⟨#[102,111,108,100,32]⟩++txE nb a++⟨#[32,116,111,32]⟩++tB (tkT t)++⟨#[32,111,102,32]⟩++(txA nb k++⟨#[32,101,110,100]⟩):=by
 refine zR _ _ ?_
 conv=>lhs;unfold txE
 rw[nZ ha ht,jJ]
 show jT (ky kFold::tks (tkE nb a++ke kTo::(tyE (tkT t)++ke kOf::(barsE (yQ nb k)++[ke kEnd]))))=_
 rw[yP]
 show jT (ky kFold::(tks (tkE nb a)++ky kTo::tks (tyE (tkT t)++ke kOf::(barsE (yQ nb k)++[ke kEnd]))))=_
 rw[yP,tP]
 show jT (ky kFold::(tks (tkE nb a)++ky kTo::(tkT t++ky kOf::tks (barsE (yQ nb k)++[ke kEnd]))))=_
 rw[yP];have h1:=jP (yR (nb:=nb) ha);have h2:=jP (iI (nb:=nb) h0 hk);have h3:=bC ht;rw[vT _ (by simp),kX _ _ h1 (by simp),vT _ (by simp),kX _ _ h3 (by simp),vT _ (by simp[h2]),kX _ _ h2 (by intro e;cases e),jX];simp only[qN,List.append_assoc]
 rfl
def tx1 (nb:Int→ByteArray) (c x:ByteArray) (b:Tr):ByteArray:=c++⟨#[32]⟩++x++⟨#[32,61,62,32]⟩++txE nb b
theorem zHg {c x:ByteArray} {b:Tr} (hb:isT nk lg b 2=true):jT (tks (ne c::ne x::ke kFat::tkE nb b))=(tx1 nb c x b).data.toList:=by
 show jT (nmT c::nmT x::ky kFat::tks (tkE nb b))=_
 rw[vT _ (by simp),vT _ (by simp),vT _ (jP (yR hb)),jX];unfold tx1;simp only[qN,List.append_assoc]
 rfl
theorem zZb (x:Nod) (k r:Fr):yQ nb (.cons x k r)=(if x.k<20 then tyE (tkT (x,k)) else tkEN nb x (tkEF nb k))::yQ nb r:=by
 conv=>lhs;unfold yQ tkEF
 rfl
theorem zHh (f g:Fr):yQ nb (f.app g)=yQ nb f++yQ nb g:=by
 induction f with
 | nil=>rfl
 | cons x k r _ ih=>
  show yQ nb (.cons x k (r.app g))=yQ nb (.cons x k r)++_
  rw[zZb,zZb,ih]
  rfl
theorem iJ:∀(l:List (List Te)) (a:List Te),l≠[]→barsE (l++[a])=barsE l++ke kBar::a
 | [],_,h=>absurd rfl h
 | [b],a,_=>rfl
 | b::c::r,a,_=>by
  show b++ke kBar::barsE ((c::r)++[a])=(b++ke kBar::barsE (c::r))++ke kBar::a
  rw[iJ (c::r) a (by simp),List.append_assoc]
  rfl
theorem zPu {c x:ByteArray} {b:Tr} (hb:isT nk lg b 2=true):txA nb (fr1 (⟨34,0,c,x⟩,fr1 b))=tx1 nb c x b:=by
 have es:yQ nb (fr1 (⟨34,0,c,x⟩,fr1 b))=[ne c::ne x::ke kFat::tkE nb b]:=by
  have e:=sG (nb:=nb) (c:=c) (x:=x) (r:=.nil) hb;unfold yQ
  show List.map _ (tkEF nb (.cons ⟨34,0,c,x⟩ (fr1 b) .nil))=_
  rw[e]
  rfl
 unfold txA;rw[es];exact zR _ _ (zHg hb)
theorem zVs {f:Fr} (h0:0<f.len) (hf:ArmOk nk lg f) {c x:ByteArray} {b:Tr} (hb:isT nk lg b 2=true):txA nb (f.app (fr1 (⟨34,0,c,x⟩,fr1 b)))=txA nb f++⟨#[32,124,32]⟩++tx1 nb c x b:=by
 have es:yQ nb (fr1 (⟨34,0,c,x⟩,fr1 b))=[ne c::ne x::ke kFat::tkE nb b]:=by
  have e:=sG (nb:=nb) (c:=c) (x:=x) (r:=.nil) hb;unfold yQ
  show List.map _ (tkEF nb (.cons ⟨34,0,c,x⟩ (fr1 b) .nil))=_
  rw[e]
  rfl
 have h1:=iI (nb:=nb) h0 hf;have h2:yQ nb f≠[]:=fun e=>h1 (by rw[e];rfl)
 refine zR _ _ ?_
 conv=>lhs;unfold txA
 rw[zHh,es,iJ _ _ h2,jJ,yP]
 show jT (tks (barsE (yQ nb f))++ky kBar::tks (ne c::ne x::ke kFat::tkE nb b))=_
 rw[kX _ _ (jP h1) (by simp),vT _ (by intro e;cases e),zHg hb];simp only[qN,List.append_assoc]
 rfl
end
section
variable {nk lg:ByteArray→Bool} {nb:Int→ByteArray}
def jQ (ts:List Te) (n:Nat):Prop:=Few (tks ts) n
theorem jQ.more {ts:List Te} {n m:Nat} (h:jQ ts n) (hm:n≤m):jQ ts m:=Few.more h hm
theorem jQ.one {x:Te} (h:x.t.s.size≤128):jQ [x] 1:=Few.one h
theorem jQ.app {a b:List Te} {n m:Nat} (ha:jQ a n) (hb:jQ b m):jQ (a++b) (n+m):=by
 unfold jQ;rw[yP];exact Few.app ha hb
theorem jQ.cons {x:Te} {b:List Te} {m:Nat} (h:x.t.s.size≤128) (hb:jQ b m):jQ (x::b) (m+1):=Few.cons (x:=x.t) h hb
theorem jQ.wi {b:Bool} {ts:List Te} {n:Nat} (h:jQ ts n):jQ (wie b ts) (n+2):=by
 unfold jQ;rw[mE];exact Few.wi h
theorem tT:∀(f:Fr),ArmOk nk lg f→(∀s,nk s=true→s.size≤128)→(∀t,szT t<f.sz→isT nk lg t 2=true→jQ (tkE nb t) (10*szT t))→jQ (barsE (yQ nb f)) (10*f.sz)
 | .nil,_,_,_=>⟨Nat.le_refl _,fun _ h=>by cases h⟩
 | .cons x k r,hok,hn,ih=>by
  obtain⟨h9,hr⟩:=zVp hok;obtain⟨c,y,b,hxb,hc,hy,hb⟩:=jW h9;injection hxb with e1 e2;subst e1;subst e2;have hz:(Fr.cons ⟨34,0,c,y⟩ (fr1 b) r).sz=1+szT b+r.sz:=by unfold szT;simp only[fr1,Fr.sz];omega
  have fu:=ih b (by omega) hb;have es:yQ nb (.cons ⟨34,0,c,y⟩ (fr1 b) r)=(ne c::ne y::ke kFat::tkE nb b)::yQ nb r:=by unfold yQ;rw[sG hb];rfl
  rw[es];have f1:jQ (ne c::ne y::ke kFat::tkE nb b) (10*szT b+3):=((fu.cons (by decide:(ke kFat).t.s.size≤128)).cons (hn y hy:(ne y).t.s.size≤128)).cons (hn c hc:(ne c).t.s.size≤128)
  cases r with
  | nil=>exact f1.more (by rw[hz];omega)
  | cons z m q=>
   have f2:=tT (.cons z m q) hr hn (fun t ht=>ih t (by omega));exact(f1.app (f2.cons (by decide:(ke kBar).t.s.size≤128))).more (by rw[hz];omega)
theorem zBb (k:Int):(ke (signB k)).t.s.size≤128:=by
 show(signB k).size≤128
 unfold signB
 repeat' split
 all_goals decide
theorem zHi (hn:∀s,nk s=true→s.size≤128) (hg:∀s,lg s=true→s.size≤128) {t:Tr} (h:isT nk lg t 1=true):jQ (tyE (tkT t)) (5*szT t):=by
 unfold jQ;rw[tP];exact tR hn hg _ t (Nat.le_refl _) h
theorem nH (hn:∀s,nk s=true→s.size≤128) (hg:∀s,lg s=true→s.size≤128) (hb:∀k:Int,-1073741824≤k→k≤1073741824→(nb k).size≤128):∀(n:Nat) (t:Tr),szT t≤n→isT nk lg t 2=true→jQ (tkE nb t) (10*szT t)
 | 0,t,h,_=>absurd h (by unfold szT;omega)
 | n+1,t,h,ht=>by
  have ih:=nH hn hg hb n
  cases vQ ht with
  | num k h1 h2=>
   rw[iF,kB];exact(jQ.one (hb k h1 h2:(⟨⟨2,nb k⟩,k⟩:Te).t.s.size≤128)).more (by omega)
  | boo k hk=>
   rw[rZ,kB];refine jQ.more (jQ.one ?_) (by omega)
   split<;>decide
  | unit=>
   rw[tQ];exact((jQ.one (by decide:(ke kShut).t.s.size≤128)).cons (by decide:(ke kOpen).t.s.size≤128)).more (by show 2≤10*1;omega)
  | var s hs=>
   rw[iG];exact(jQ.one (hg s hs:(ne s).t.s.size≤128)).more (by show 1≤10*1;omega)
  | lam s hs a b hA hB=>
   have hz:szT (nd 24 s (fr2 a b))=1+(szT a+szT b):=qT _ a b;rw[dA hA hB];exact(((((zHi hn hg hA).app (((ih b (by omega) hB).cons (by decide:(ke kFat).t.s.size≤128)).cons (by decide:(ke kShut).t.s.size≤128))).cons (by decide:(ke zQ).t.s.size≤128)).cons (hn s hs:(ne s).t.s.size≤128)).cons (by decide:(ke kOpen).t.s.size≤128)).cons (by decide:(ke kFn).t.s.size≤128) |>.more (by omega)
  | app a b hA hB=>
   have hz:szT (nd 25 nob (fr2 a b))=1+(szT a+szT b):=qT _ a b;rw[dB hA hB];exact((ih a (by omega) hA).wi.app (ih b (by omega) hB).wi).more (by omega)
  | pair a b hA hB=>
   have hz:szT (nd 26 nob (fr2 a b))=1+(szT a+szT b):=qT _ a b;rw[nX hA hB];exact(((ih a (by omega) hA).app (((ih b (by omega) hB).app (jQ.one (by decide:(ke kShut).t.s.size≤128))).cons (by decide:(ke qJ).t.s.size≤128))).cons (by decide:(ke kOpen).t.s.size≤128)).more (by omega)
  | sel k hk a hA=>
   have hz:szT (nd k nob (fr1 a))=1+szT a:=vY _ a;rw[dC hk hA];refine((ih a (by omega) hA).wi.cons ?_).more (by omega)
   show(kSel k).size≤128
   rcases hk with rfl | rfl<;>decide
  | letE s hs a b hA hB=>
   have hz:szT (nd 29 s (fr2 a b))=1+(szT a+szT b):=qT _ a b;rw[dD hA hB];exact(((((ih a (by omega) hA).app (((ih b (by omega) hB).app (jQ.one (by decide:(ke kEnd).t.s.size≤128))).cons (by decide:(ke kIn).t.s.size≤128))).cons (by decide:(ke kEq).t.s.size≤128)).cons (hn s hs:(ne s).t.s.size≤128)).cons (by decide:(ke kLet).t.s.size≤128)).more (by omega)
  | ifE a b c hA hB hC=>
   have hz:szT (nd 30 nob (fr3 a b c))=1+(szT a+szT b+szT c):=nE _ a b c;rw[zZ8 hA hB hC];exact(((ih a (by omega) hA).app (((ih b (by omega) hB).app ((ih c (by omega) hC).cons (by decide:(ke kElse).t.s.size≤128))).cons (by decide:(ke kThen).t.s.size≤128))).cons (by decide:(ke kIf).t.s.size≤128)).more (by omega)
  | op k h1 h2 a b hA hB=>
   have hz:szT (opN k,fr2 a b)=1+(szT a+szT b):=qT _ a b;rw[zZ9 hA hB];exact((ih a (by omega) hA).wi.app ((ih b (by omega) hB).wi.cons (zBb k))).more (by omega)
  | caseE a hA k hk h0=>
   have hz:szT (nd 32 nob (.cons a.1 a.2 k))=1+(szT a+k.sz):=rfl;rw[nY hA];have fk:=tT (nb:=nb) k hk hn fun t ht h=>ih t (by omega) h
   exact(((ih a (by omega) hA).app ((fk.app (jQ.one (by decide:(ke kEnd).t.s.size≤128))).cons (by decide:(ke kOf).t.s.size≤128))).cons (by decide:(ke kCase).t.s.size≤128)).more (by omega)
  | foldE a t hA hT k hk h0=>
   have hz:szT (nd 33 nob (.cons a.1 a.2 (.cons t.1 t.2 k)))=1+(szT a+(szT t+k.sz)):=rfl;rw[nZ hA hT];have fk:=tT (nb:=nb) k hk hn fun t ht h=>ih t (by omega) h
   exact(((ih a (by omega) hA).app (((zHi hn hg hT).app ((fk.app (jQ.one (by decide:(ke kEnd).t.s.size≤128))).cons (by decide:(ke kOf).t.s.size≤128))).cons (by decide:(ke kTo).t.s.size≤128))).cons (by decide:(ke kFold).t.s.size≤128)).more (by omega)
theorem zVt {ts:List Te} {n:Nat} (h:jQ ts n):(tB (tks ts)).size≤129*n:=by
 have h1:=zPp (m:=128) (tks ts) h.2;have e:(tB (tks ts)).size=(jT (tks ts)).length:=by show(jT (tks ts)).toArray.size=_;simp
 have h2:=h.1;rw[e];omega
theorem zXb (hn:∀s,nk s=true→s.size≤128) (hg:∀s,lg s=true→s.size≤128) (hb:∀k:Int,-1073741824≤k→k≤1073741824→(nb k).size≤128) {t:Tr} (h:isT nk lg t 2=true):(txE nb t).size≤1290*szT t:=by
 have:=zVt (nH hn hg hb _ t (Nat.le_refl _) h);unfold txE;omega
end
end Go.Proofs.YtbpijnalmakfaaaGreatDoor
namespace Go.Proofs.YtbpijnalmakfaaaGreatDoor
open Go.RowKit
theorem chn {w w1 w2:World} (h:Below w.heap.size w w1) (h':Below w1.heap.size w1 w2):Below w.heap.size w w2:=h.trans (h'.mono h.size)
theorem yG {a b:Int} (h:a=b):Value.int .i64 a = .int .i64 b:=by rw[h]
theorem bT {a b:Int} (h:a=b):Ending.returned (.int .i64 b) = .returned (.int .i64 a):=by rw[h]
theorem kY {a b:Bool} (h:a=b):Ending.returned (.bool b) = .returned (.bool a):=by rw[h]
theorem qF {B:Nat} {a w:World} (h:Below B a w) (n:Nat):Below B a (w.drewN n):=h.trans ⟨rfl,rfl,rfl,Nat.le_refl _,fun _ _=>rfl⟩
theorem fW (a:Addr) (n:Nat):(a.add n).block=a.block:=by unfold Addr.add;split<;>rfl
theorem yM {w:World} {a:Addr} {v:Value} (h:w.cell? a=some v):a.block<w.heap.size:=by
 rcases Nat.lt_or_ge a.block w.heap.size with h' | h'
 ·exact h'
 ·simp[World.cell?,Array.getElem?_eq_none h'] at h
theorem qC {w:World} {g:Nat} {o:Obj} (h:w.heap[g]? = some o):g<w.heap.size:=by
 rcases Nat.lt_or_ge g w.heap.size with h' | h'
 ·exact h'
 ·rw[Array.getElem?_eq_none h'] at h;cases h
theorem qZ {w w':World} {g:Nat} {o:Obj} (h:w.heap[g]? = some o) (hb:Below w.heap.size w w'):w'.heap[g]? = some o:=(hb.block g (qC h)).trans h
def Pln (w:World) (b:Nat):Prop:=∃cs e,w.heap[b]? = some (.cells cs e (0,0))
def Nd (w:World) (S:Nat→Prop) (v:Value) (x:Nod) (n:Nat) (K:Nat→Nat→Prop):Prop:=
 ∃q p A c,v = .pointer (some ⟨q,p,none⟩)∧S q∧Pln w q∧w.cell? ⟨q,p,none⟩=some (.int .i64 x.k)∧w.cell? ⟨q,p+1,none⟩=some (.int .i64 x.n)∧w.cell? ⟨q,p+2,none⟩=some (.string x.a)∧
  w.cell? ⟨q,p+3,none⟩=some (.string x.m)∧w.cell? ⟨q,p+4,none⟩=some (.slice A n c)∧n≤c∧(0<n→∃kb ko,A=some ⟨kb,ko,none⟩∧S kb∧K kb ko)
def InF (w:World) (S:Nat→Prop):Fr→Nat→Nat→Prop
 | .nil,_,_=>True
 | .cons x ks rs,b,o=>(∃v,w.cell? ⟨b,o,none⟩=some v∧Nd w S v x ks.len (InF w S ks))∧InF w S rs b (o+1)
def InT (w:World) (S:Nat→Prop) (v:Value) (t:Tr):Prop:=Nd w S v t.1 t.2.len (InF w S t.2)
def InO (w:World) (S:Nat→Prop) (v:Value):Option Tr→Prop
 | none=>v = .pointer none
 | some t=>InT w S v t
theorem InF.keep {w w':World} {S S':Nat→Prop} {t:Fr} (hS:∀q,S q→S' q) (hk:∀b,S b→w'.heap[b]? = w.heap[b]?):∀{b o:Nat},S b→InF w S t b o→InF w' S' t b o:=by
 induction t with
 | nil=>intro b o _ _;trivial
 | cons x ks rs ihk ihr=>
  intro b o hb h;have hk':=fun(p:Addr) (hp:S p.block)=>World.cell?_of_block (w:=w) (w':=w') (hk p.block hp)
  obtain⟨⟨v,hv,q,p,A,c,e,hq,⟨xs,te,hx⟩,h0,h1,h2,h3,h4,hc,hkids⟩,hr⟩:=h;refine⟨⟨v,(hk' ⟨b,o,none⟩ hb).trans hv,q,p,A,c,e,hS q hq,⟨xs,te,(hk q hq).trans hx⟩,(hk' ⟨q,p,none⟩ hq).trans h0,(hk' ⟨q,p+1,none⟩ hq).trans h1,(hk' ⟨q,p+2,none⟩ hq).trans h2,(hk' ⟨q,p+3,none⟩ hq).trans h3,(hk' ⟨q,p+4,none⟩ hq).trans h4,hc,fun hn=>?_⟩,ihr hb hr⟩;obtain⟨kb,ko,hA,h5,h7⟩:=hkids hn;exact⟨kb,ko,hA,hS kb h5,ihk h5 h7⟩
theorem InT.keep {w w':World} {S S':Nat→Prop} {v:Value} {t:Tr} (h:InT w S v t) (hS:∀q,S q→S' q) (hk:∀b,S b→w'.heap[b]? = w.heap[b]?):InT w' S' v t:=by
 have hk':=fun(p:Addr) (hp:S p.block)=>World.cell?_of_block (w:=w) (w':=w') (hk p.block hp)
 obtain⟨q,p,A,c,e,hq,⟨xs,te,hx⟩,h0,h1,h2,h3,h4,hc,hkids⟩:=h;refine⟨q,p,A,c,e,hS q hq,⟨xs,te,(hk q hq).trans hx⟩,(hk' ⟨q,p,none⟩ hq).trans h0,(hk' ⟨q,p+1,none⟩ hq).trans h1,(hk' ⟨q,p+2,none⟩ hq).trans h2,(hk' ⟨q,p+3,none⟩ hq).trans h3,(hk' ⟨q,p+4,none⟩ hq).trans h4,hc,fun hn=>?_⟩;obtain⟨kb,ko,hA,h5,h7⟩:=hkids hn;exact⟨kb,ko,hA,hS kb h5,InF.keep hS hk h5 h7⟩
def Bel (S:Nat→Prop) (B:Nat):Prop:=∀q,S q→q<B
theorem InT.below {w w':World} {S:Nat→Prop} {B:Nat} {v:Value} {t:Tr} (h:InT w S v t) (hS:Bel S B) (hb:Below B w w'):InT w' S v t:=h.keep (fun _ h=>h) fun _ hp=>hb.block _ (hS _ hp)
theorem InO.keep {w w':World} {S S':Nat→Prop} {v:Value} {t:Option Tr} (h:InO w S v t) (hS:∀q,S q→S' q) (hk:∀b,S b→w'.heap[b]? = w.heap[b]?):InO w' S' v t:=by
 cases t with
 | none=>exact h
 | some t=>exact InT.keep h hS hk
def Kid (w:World) (S:Nat→Prop) (A:Option Addr) (rest:Fr) (i:Nat):Prop:=0<rest.len→∃kb ko,A=some ⟨kb,ko,none⟩∧S kb∧InF w S rest kb (ko+i)
theorem Kid.next {w:World} {S:Nat→Prop} {A:Option Addr} {x:Nod} {k r:Fr} {i:Nat} (h:Kid w S A (.cons x k r) i) :
  ∃kb ko v,A=some ⟨kb,ko,none⟩∧S kb∧w.cell? ⟨kb,ko+i,none⟩=some v∧InT w S v (x,k)∧Kid w S A r (i+1):=by
 obtain⟨kb,ko,hA,h1,⟨v,hv,hn⟩,hr⟩:=h (Nat.succ_pos _);exact⟨kb,ko,v,hA,h1,hv,hn,fun _=>⟨kb,ko,hA,h1,hr⟩⟩
theorem Kid.keep {w w':World} {S S':Nat→Prop} {A:Option Addr} {r:Fr} {i:Nat} (h:Kid w S A r i) (hS:∀q,S q→S' q) (hk:∀b,S b→w'.heap[b]? = w.heap[b]?):Kid w' S' A r i:=by
 intro h0;obtain⟨kb,ko,hA,h1,h3⟩:=h h0;exact⟨kb,ko,hA,hS kb h1,InF.keep hS hk h1 h3⟩
theorem Fr.cut {f:Fr} (h:0<f.len):∃x k r,f = .cons x k r:=by
 cases f with
 | nil=>exact absurd h (Nat.lt_irrefl _)
 | cons x k r=>exact⟨x,k,r,rfl⟩
theorem Fr.app_cons (a:Fr) (x:Nod) (k r:Fr):a.app (.cons x k r)=(a.app (.cons x k .nil)).app r:=by rw[Fr.app_assoc];rfl
theorem InT.open {w:World} {S:Nat→Prop} {v:Value} {x:Nod} {ks:Fr} (h:InT w S v (x,ks)) :
  ∃q p A c,v = .pointer (some ⟨q,p,none⟩)∧S q∧w.cell? ⟨q,p,none⟩=some (.int .i64 x.k)∧w.cell? ⟨q,p+1,none⟩=some (.int .i64 x.n)∧w.cell? ⟨q,p+2,none⟩=some (.string x.a)∧
  w.cell? ⟨q,p+3,none⟩=some (.string x.m)∧w.cell? ⟨q,p+4,none⟩=some (.slice A ks.len c)∧ks.len≤c∧Kid w S A ks 0:=by
 obtain⟨q,p,A,c,hv,hq,_,h⟩:=h;exact⟨q,p,A,c,hv,hq,h⟩
theorem InT.ptr {w:World} {S:Nat→Prop} {v:Value} {t:Tr} (h:InT w S v t):∃q p,v = .pointer (some ⟨q,p,none⟩):=by
 obtain⟨q,p,_,_,hv,_⟩:=h;exact⟨q,p,hv⟩
def zXc (n:Nat) (w:World) (e:Ending) (w':World):Prop:=e = .returned (.int .i64 (n:Int))∧w=w'
theorem zPv {n:Nat} {z:Int} {w:World} (h:z=(n:Int)):zXc n w (.returned (.int .i64 z)) w:=⟨by rw[h],rfl⟩
theorem zXd:∀(n:Nat) (t:Tr),szT t≤n→n≤1000000000→∀(w:World) (Sq:Nat→Prop) (v:Value),InT w Sq v t→
  Calls Tryz.prog 141 #[v] w (zXc (szT t) w)
 | 0,t,h,_,_,_,_,_=>absurd h (by unfold szT;omega)
 | n+1,(x,ks),hn,hbig,w,Sq,v,hin=>by
  have ih:=zXd n;obtain⟨q,p,A,c,rfl,hq1,c0,c1,c2,c3,c4,hc,hkid⟩:=hin.open;have HK:=Lib.hid hkid;have hsz:szT (x,ks)=1+ks.sz:=rfl;have hll:=Fr.len_le ks;obtain⟨S,hS⟩:∃S,szT (x,ks)=S:=⟨_,rfl⟩;rw[hS] at hn hsz ⊢;obtain⟨N,hN⟩:∃N,ks.len=N:=⟨_,rfl⟩;rw[hN] at c4 hll;have hN1:N≤1000000000:=by omega
  have HNN:=Lib.hid hN;have HSZ:=Lib.hid hsz;clear hin hkid hS hc hN hsz
  go_enter Tryz.func141,Tryz.ntmps141
  go_wp2_with fail
  go_loop [3,4] (fun s i=>∃(k:Nat) (done rest:Fr),i = .int .i64 k∧k=done.len∧ks=done.app rest∧s = .int .i64 ((1+done.sz:Nat):Int)∧Kid w Sq A rest k) (fun _ i=>N-(intOf i).toNat)
  case atStart=>exact⟨0,.nil,ks,rfl,rfl,rfl,rfl,HK.out⟩
  case round=>
   obtain⟨k,done,rest,rfl,hk,hks,rfl,hkid⟩:=hrel;have hl:N=done.len+rest.len:=by rw[←HNN.out,hks,Fr.len_app]
   have hs:ks.sz=done.sz+rest.sz:=by rw[hks,Fr.sz_app]
   have hsz:=HSZ.out;have HKS:=Lib.hid hks
   by_cases hlt:0<rest.len
   ·obtain⟨y,l,r,rfl⟩:=Fr.cut hlt
    obtain⟨kb,ko,u,rfl,hkb,hcell,hu,hnext⟩:=hkid.next;have hyl:szT (y,l)=1+l.sz:=rfl;have hsr:(Fr.cons y l r).sz=1+l.sz+r.sz:=rfl;have hlr:(Fr.cons y l r).len=r.len+1:=rfl;have cI:=ih (y,l) (by omega) (by omega) w Sq u hu;have HN:=Lib.hid hnext;have hkN:k<N:=by omega
    have hkz:(k:Int)<(N:Int):=by omega
    have hb1:done.sz+szT (y,l)≤1000000000:=by omega
    have HK1:=Lib.hid hk;obtain⟨Z,hZ⟩:∃Z,szT (y,l)=Z:=⟨_,rfl⟩;rw[hZ] at cI hb1 hyl;have HZ:=Lib.hid hyl;clear hkid hnext hu hks ih hk hl hs hlr hsr hsz hyl hZ
    go_wp2_with (go_at_call 141;refine cI.mono ?_;rintro e w' ⟨rfl,rfl⟩)
    go_round
    case rel=>exact⟨k+1,done.app (.cons y l .nil),r,by go_num,by rw[Fr.len_app,HK1.out];rfl,by rw[HKS.out,Fr.app_cons],yG (by rw[Fr.sz_app,HZ.out];simp only[Fr.sz];omega),HN.out⟩
    case measure=>simp[intOf];omega
   ·have h0:rest = .nil:=by
     cases rest with
     | nil=>rfl
     | cons y l r=>exact absurd (Nat.succ_pos _) hlt
    subst h0;have hl':N=done.len:=by simpa [Fr.len] using hl
    have hs':ks.sz=done.sz:=by simpa [Fr.sz] using hs
    have hkz:¬(k:Int)<(N:Int):=by omega
    have HE:Hid (S=1+done.sz):=Lib.hid (by omega);clear hkid hks ih hk hl hl' hs hs' hsz;go_wp2_with fail
    go_ret
    exact zPv (by rw[HE.out];omega)
theorem zPw:∀(n:Nat) (t:Tr),szT t≤n→n≤1000000000→∀(w:World) (Sq:Nat→Prop) (v:Value),InT w Sq v t→
  Calls Tryz.prog 80 #[v] w (zXc (dpT t) w)
 | 0,t,h,_,_,_,_,_=>absurd h (by unfold szT;omega)
 | n+1,(x,ks),hn,hbig,w,Sq,v,hin=>by
  have ih:=zPw n;obtain⟨q,p,A,c,rfl,hq1,c0,c1,c2,c3,c4,hc,hkid⟩:=hin.open;have HK:=Lib.hid hkid;have hsz:szT (x,ks)=1+ks.sz:=rfl;have hdp:dpT (x,ks)=1+ks.dp:=rfl;have hll:=Fr.len_le ks;have hdl:=Fr.dp_le ks;obtain⟨S,hS⟩:∃S,szT (x,ks)=S:=⟨_,rfl⟩;obtain⟨D,hD⟩:∃D,dpT (x,ks)=D:=⟨_,rfl⟩;rw[hS] at hn hsz;rw[hD] at hdp ⊢;obtain⟨N,hN⟩:∃N,ks.len=N:=⟨_,rfl⟩;rw[hN] at c4 hll;have hN1:N≤1000000000:=by omega
  have HNN:=Lib.hid hN;have HSZ:=Lib.hid hsz;have HDP:=Lib.hid hdp;have HDL:=Lib.hid hdl;clear hin hkid hS hc hN hsz hD hdp hdl
  go_enter Tryz.func80,Tryz.ntmps80
  go_wp2_with fail
  go_loop [3,4,5] (fun s i _=>∃(k:Nat) (done rest:Fr),i = .int .i64 k∧k=done.len∧ks=done.app rest∧s = .int .i64 ((done.dp:Nat):Int)∧Kid w Sq A rest k) (fun _ i _=>N-(intOf i).toNat)
  case atStart=>exact⟨0,.nil,ks,rfl,rfl,rfl,rfl,HK.out⟩
  case round=>
   obtain⟨k,done,rest,rfl,hk,hks,rfl,hkid⟩:=hrel;have hl:N=done.len+rest.len:=by rw[←HNN.out,hks,Fr.len_app]
   have hs:ks.sz=done.sz+rest.sz:=by rw[hks,Fr.sz_app]
   have hd:ks.dp=max done.dp rest.dp:=by rw[hks,Fr.dp_app]
   have hsz:=HSZ.out;have hdd:=Fr.dp_le done;have HKS:=Lib.hid hks
   by_cases hlt:0<rest.len
   ·obtain⟨y,l,r,rfl⟩:=Fr.cut hlt
    obtain⟨kb,ko,u,rfl,hkb,hcell,hu,hnext⟩:=hkid.next;have hyl:szT (y,l)=1+l.sz:=rfl;have hyd:dpT (y,l)=1+l.dp:=rfl;have hll2:=Fr.dp_le l;have hsr:(Fr.cons y l r).sz=1+l.sz+r.sz:=rfl;have hlr:(Fr.cons y l r).len=r.len+1:=rfl;have cI:=ih (y,l) (by omega) (by omega) w Sq u hu;have HN:=Lib.hid hnext;have hkN:k<N:=by omega
    have hkz:(k:Int)<(N:Int):=by omega
    have hb1:done.dp≤1000000000∧dpT (y,l)≤1000000000:=by omega
    have HK1:=Lib.hid hk;obtain⟨Z,hZ⟩:∃Z,dpT (y,l)=Z:=⟨_,rfl⟩;rw[hZ] at cI hb1 hyd;have HZ:=Lib.hid hyd;obtain⟨E,hE⟩:∃E,done.dp=E:=⟨_,rfl⟩;rw[hE] at hb1 ⊢;have HE:=Lib.hid hE;clear hkid hnext hu hks ih hk hl hs hlr hsr hsz hyl hZ hd hdd hyd hll2 hE;have hnew:(done.app (.cons y l .nil)).dp=max E Z:=by rw[Fr.dp_app,HE.out,HZ.out];simp only[Fr.dp];omega
    have HNEW:=Lib.hid hnew;clear hnew
    by_cases hgt:E<Z
    ·have hgz:(E:Int)<(Z:Int):=by omega
     go_wp2_with (go_at_call 80;refine cI.mono ?_;rintro e w' ⟨rfl,rfl⟩)
     go_round
     case rel=>exact⟨k+1,done.app (.cons y l .nil),r,by go_num,by rw[Fr.len_app,HK1.out];rfl,by rw[HKS.out,Fr.app_cons],yG (by rw[HNEW.out];omega),HN.out⟩
     case measure=>simp[intOf];omega
    ·have hgz:¬(E:Int)<(Z:Int):=by omega
     go_wp2_with (go_at_call 80;refine cI.mono ?_;rintro e w' ⟨rfl,rfl⟩)
     go_round
     case rel=>exact⟨k+1,done.app (.cons y l .nil),r,by go_num,by rw[Fr.len_app,HK1.out];rfl,by rw[HKS.out,Fr.app_cons],yG (by rw[HNEW.out];omega),HN.out⟩
     case measure=>simp[intOf];omega
   ·have h0:rest = .nil:=by
     cases rest with
     | nil=>rfl
     | cons y l r=>exact absurd (Nat.succ_pos _) hlt
    subst h0;have hl':N=done.len:=by simpa [Fr.len] using hl
    have hd':ks.dp=done.dp:=by simpa [Fr.dp] using hd
    have hdz:done.dp≤1000000000:=by have:=HDL.out;have:=HSZ.out;omega
    have hkz:¬(k:Int)<(N:Int):=by omega
    have HE:Hid (D=1+done.dp):=Lib.hid (by have:=HDP.out;omega);clear hkid hks ih hk hl hl' hs hsz hd hd' hdd;go_wp2_with fail
    go_ret
    exact zPv (by rw[HE.out];omega)
theorem yYi {s t:ByteArray} (h:s.data.toList=t.data.toList):s=t:=by
 apply ByteArray.ext
 exact Array.ext' h
theorem sH {x y:ByteArray} (h:x=y):(x.toList==y.toList)=true∧(x.toList != y.toList)=false:=by subst h;simp
theorem iL {x y:ByteArray} (h:x≠y):(x.toList==y.toList)=false∧(x.toList != y.toList)=true:=by
 have:(x.toList==y.toList)=false:=by
  rw[beq_eq_false_iff_ne];intro e;rw[Lib.toList_data,Lib.toList_data] at e;exact h (yYi e)
 exact⟨this,by unfold bne;rw[this];rfl⟩
theorem yS {b:Bool} {P:Prop} (h:b=true↔P) (hn:¬P):b=false:=by cases b;rfl;exact absurd (h.1 rfl) hn
theorem zBc {b:Bool} {w:World} (h:b=false):(fun e w'=>e=Ending.returned (.bool false)∧w=w') (.returned (.bool b)) w:=⟨by rw[h],rfl⟩
theorem zXe:∀(n:Nat) (t:Tr),szT t≤n→n≤1000000000→∀(w:World) (Sq:Nat→Prop) (v:Value),InT w Sq v t→
  Calls Tryz.prog 140 #[v] w fun e w'=>e = .returned (.bool false)∧w=w'
 | 0,t,h,_,_,_,_,_=>absurd h (by unfold szT;omega)
 | n+1,(x,ks),hn,hbig,w,Sq,v,hin=>by
  have ih:=zXe n;obtain⟨q,p,A,c,rfl,hq1,c0,c1,c2,c3,c4,hc,hkid⟩:=hin.open;have HK:=Lib.hid hkid;have hsz:szT (x,ks)=1+ks.sz:=rfl;have hll:=Fr.len_le ks;rw[hsz] at hn;obtain⟨N,hN⟩:∃N,ks.len=N:=⟨_,rfl⟩;rw[hN] at c4 hll;have hN1:N≤1000000000:=by omega
  have HNN:=Lib.hid hN;have HSZ:=Lib.hid hn;clear hin hkid hc hN hsz hn
  go_enter Tryz.func140,Tryz.ntmps140
  go_wp2_with fail
  go_loop [3] (fun i=>∃(k:Nat) (done rest:Fr),i = .int .i64 k∧k=done.len∧ks=done.app rest∧Kid w Sq A rest k) (fun i=>N-(intOf i).toNat)
  case atStart=>exact⟨0,.nil,ks,rfl,rfl,rfl,HK.out⟩
  case round=>
   obtain⟨k,done,rest,rfl,hk,hks,hkid⟩:=hrel;have hl:N=done.len+rest.len:=by rw[←HNN.out,hks,Fr.len_app]
   have hs:ks.sz=done.sz+rest.sz:=by rw[hks,Fr.sz_app]
   have hsz:=HSZ.out;have HKS:=Lib.hid hks
   by_cases hlt:0<rest.len
   ·obtain⟨y,l,r,rfl⟩:=Fr.cut hlt
    obtain⟨kb,ko,u,rfl,hkb,hcell,hu,hnext⟩:=hkid.next;have hyl:szT (y,l)=1+l.sz:=rfl;have hsr:(Fr.cons y l r).sz=1+l.sz+r.sz:=rfl;have hlr:(Fr.cons y l r).len=r.len+1:=rfl;have cI:=ih (y,l) (by omega) (by omega) w Sq u hu;have HN:=Lib.hid hnext;have hkN:k<N:=by omega
    have hkz:(k:Int)<(N:Int):=by omega
    have HK1:=Lib.hid hk;clear hkid hnext hu hks ih hk hl hs hlr hsr hsz hyl
    go_wp2_with (go_at_call 140;refine cI.mono ?_;rintro e w' ⟨rfl,rfl⟩)
    go_round
    case rel=>exact⟨k+1,done.app (.cons y l .nil),r,by go_num,by rw[Fr.len_app,HK1.out];rfl,by rw[HKS.out,Fr.app_cons],HN.out⟩
    case measure=>simp[intOf];omega
   ·have h0:rest = .nil:=by
     cases rest with
     | nil=>rfl
     | cons y l r=>exact absurd (Nat.succ_pos _) hlt
    subst h0;have hl':N=done.len:=by simpa [Fr.len] using hl
    have hkz:¬(k:Int)<(N:Int):=by omega
    clear hkid hks ih hk hl hl' hs hsz;go_wp2_with fail
    go_ret
    exact zBc rfl
def Sp (w:World) (B:Nat) (v:Value) (l:List Int):Prop:=
 ∃A c,v = .slice A l.length c∧l.length≤c∧∀(j:Nat) (u:Int),l[j]? = some u→∃b o,A=some ⟨b,o,none⟩∧b<B∧w.cell? ⟨b,o+j,none⟩=some (.int .i64 u)
theorem Sp.keep {w w':World} {B B':Nat} {v:Value} {l:List Int} (h:Sp w B v l) (hB:B≤B') (hk:∀p:Addr,p.block<B→w'.cell? p=w.cell? p):Sp w' B' v l:=by
 obtain⟨A,c,hv,hlc,hc⟩:=h;refine⟨A,c,hv,hlc,fun j u hu=>?_⟩;obtain⟨b,o,hA,hlt,hcell⟩:=hc j u hu;exact⟨b,o,hA,by omega,(hk _ hlt).trans hcell⟩
theorem InF.at {w:World} {Sq:Nat→Prop}:∀{f:Fr} {b o i:Nat} {t:Tr},InF w Sq f b o→f.get i=some t→∃v,w.cell? ⟨b,o+i,none⟩=some v∧InT w Sq v t
 | .nil,_,_,_,_,_,h=>by cases h
 | .cons x k r,b,o,0,t,⟨⟨v,hv,hn⟩,_⟩,h=>by injection h with h;subst h;exact⟨v,hv,hn⟩
 | .cons x k r,b,o,i+1,t,⟨_,hr⟩,h=>by
  obtain⟨v,hv,hn⟩:=InF.at (f:=r) hr h;refine⟨v,?_,hn⟩;rw[show o+(i+1)=o+1+i by omega];exact hv
theorem yT {w w':World} {base:Nat} {e:TypeId} {size:Nat} {v:Value} {n:Nat} {xs:List Value} (h:w.ownsRow base e size v n xs) (hb:Below w.heap.size w w'):w'.ownsRow base e size v n xs:=by
 refine⟨h.1,?_⟩
 rcases h.2 with h2 | ⟨g,cap,cur,hv,hbg,hh,d⟩
 ·exact .inl h2
 ·exact .inr ⟨g,cap,cur,hv,hbg,qZ hh hb,d⟩
def PtF (w:World) (S:Nat→Prop):List Value→Fr→Prop
 | [],.nil=>True
 | v::vs,.cons x ks rs=>InT w S v (x,ks)∧PtF w S vs rs
 | _,_=>False
theorem PtF.len {w:World} {S:Nat→Prop}:∀{vs:List Value} {f:Fr},PtF w S vs f→vs.length=f.len
 | [],.nil,_=>rfl
 | [],.cons _ _ _,h=>h.elim
 | _::_,.nil,h=>h.elim
 | v::vs,.cons x ks rs,h=>by simp only[List.length_cons,Fr.len,PtF.len (vs:=vs) (f:=rs) h.2]
theorem PtF.keep {w w':World} {S S':Nat→Prop} (hS:∀q,S q→S' q) (hk:∀b,S b→w'.heap[b]? = w.heap[b]?):∀{vs:List Value} {f:Fr},PtF w S vs f→PtF w' S' vs f
 | [],.nil,_=>trivial
 | [],.cons _ _ _,h=>h.elim
 | _::_,.nil,h=>h.elim
 | _::vs,.cons _ _ rs,h=>⟨h.1.keep hS hk,PtF.keep hS hk (vs:=vs) (f:=rs) h.2⟩
theorem PtF.snoc {w:World} {S:Nat→Prop} {v:Value} {t:Tr} (hv:InT w S v t):∀{vs:List Value} {f:Fr},PtF w S vs f→PtF w S (vs++[v]) (f.app (.cons t.1 t.2 .nil))
 | [],.nil,_=>⟨hv,trivial⟩
 | [],.cons _ _ _,h=>h.elim
 | _::_,.nil,h=>h.elim
 | _::vs,.cons _ _ rs,h=>⟨h.1,PtF.snoc hv (vs:=vs) (f:=rs) h.2⟩
theorem PtF.row {w:World} {S:Nat→Prop} {b:Nat}:∀{vs:List Value} {f:Fr} {o:Nat},PtF w S vs f→(∀(j:Nat) u,vs[j]? = some u→w.cell? ⟨b,o+j,none⟩=some u)→InF w S f b o
 | [],.nil,_,_,_=>trivial
 | [],.cons _ _ _,_,h,_=>h.elim
 | _::_,.nil,_,h,_=>h.elim
 | v::vs,.cons x ks rs,o,h,hc=>by
  refine⟨⟨v,by have:=hc 0 v rfl;rwa [Nat.add_zero] at this,h.1⟩,PtF.row (vs:=vs) (f:=rs) h.2 fun j u hu=>?_⟩;rw[show o+1+j=o+(j+1) by omega];exact hc (j+1) u hu
def OwnT (w:World) (base:Nat) (e:TypeId) (v:Value) (S:Nat→Prop) (f:Fr):Prop:=∃ps,w.ownsRow base e 1 v f.len ps∧PtF w S ps f
theorem OwnT.tree {w:World} {base:Nat} {e e':TypeId} {v:Value} {S:Nat→Prop} {f:Fr} {x:Nod} {b:Nat} (h:OwnT w base e v S f)
  (hb:w.heap[b]? = some (.cells #[.int .i64 x.k,.int .i64 x.n,.string x.a,.string x.m,v] e' (0,0))) (hS:S b) (hg:∀g,v.ownBlock=some g→S g):InT w S (.pointer (some ⟨b,0,none⟩)) (x,f):=by
 have c:∀i u,(#[Value.int .i64 x.k,.int .i64 x.n,.string x.a,.string x.m,v]:Array Value)[i]? = some u→w.cell? ⟨b,i,none⟩=some u:=by
  intro i u hu;rw[cell_of_row w b i _ _ _ hb];exact hu
 obtain⟨ps,ho,hp⟩:=h;have hl:=ho.1;rw[Nat.mul_one] at hl
 rcases ho.2 with ⟨hv,h0⟩ | ⟨g,cap,cur,hv,_,hh,hc,_⟩
 ·subst hv
  refine⟨b,0,none,0,rfl,hS,⟨_,_,hb⟩,c 0 _ rfl,c 1 _ rfl,c 2 _ rfl,c 3 _ rfl,?_,by simp only;omega,fun hn=>?_⟩
  ·simp only
   rw[h0];exact c 4 _ rfl
  ·simp only at hn;omega
 ·subst hv
  refine⟨b,0,some ⟨g,0,none⟩,cap,rfl,hS,⟨_,_,hb⟩,c 0 _ rfl,c 1 _ rfl,c 2 _ rfl,c 3 _ rfl,c 4 _ rfl,hc,fun _=>⟨g,0,rfl,hg g rfl,hp.row fun j u hu=>?_⟩⟩;have h1:=ho.cells (g:=g) rfl j u hu;have e1:(⟨g,0,none⟩:Addr).add j=⟨g,0+j,none⟩:=by unfold Addr.add;split<;>simp_all
  rwa [e1] at h1
def Nb (w:World) (b:Nat) (x:Nod) (v:Value):Prop:=w.heap[b]? = some (.cells #[.int .i64 x.k,.int .i64 x.n,.string x.a,.string x.m,v] 57 (0,0))
theorem Nb.cell {w:World} {b:Nat} {x:Nod} {v:Value} (h:Nb w b x v):w.cell? ⟨b,4,none⟩=some v∧w.frozen? ⟨b,4,none⟩=false:=⟨cell_of_row w b 4 _ _ _ h,frozen_of_row w b 4 _ _ h⟩
theorem Nb.far {w w4:World} {b:Nat} {x:Nod} {v:Value} {ob:Obj} (h:Nb w b x v) (hg:(w.alloc ob).grownBy w4 v.ownBlock) (hv:v.ownBlock≠some b):Nb w4 b x v:=by
 have hb:=qC h;have hasz:(w.alloc ob).heap.size=w.heap.size+1:=by simp
 exact((hg.block b (by omega) fun e=>hv e.symm).trans (((Below.refl w.heap.size w).alloc (Nat.le_refl _) ob).block b hb)).trans h
theorem Nb.store {w:World} {b:Nat} {x:Nod} {v:Value} (h:Nb w b x v) (u:Value):Nb (w.setCell ⟨b,4,none⟩ u) b x u:=by
 unfold Nb at h ⊢
 simp[World.setCell,Array.getElem?_modify,h]
theorem zG {w:World} {base:Nat} {e:TypeId} {size:Nat} {v:Value} {n:Nat} {xs:List Value} (h:w.ownsRow base e size v n xs) (a:Addr) (u:Value) (ha:∀g,v.ownBlock=some g→g≠a.block):(w.setCell a u).ownsRow base e size v n xs:=by
 refine⟨h.1,?_⟩
 rcases h.2 with h2 | ⟨g,cap,cur,hv,hbg,hh,d⟩
 ·exact .inl h2
 ·refine .inr ⟨g,cap,cur,hv,hbg,?_,d⟩
  rw[Below.heap_setCell _ _ _ _ (ha g (by rw[hv];rfl))];exact hh
theorem xU {w:World} (a p:Addr) (u:Value) (h:p.block≠a.block):(w.setCell a u).cell? p=w.cell? p:=World.cell?_of_block (Below.heap_setCell _ _ _ _ h)
theorem mF:(Tryz.prog.info? 24).map (fun i=>(i.zero,i.size,i.bytes))=some (some (.pointer none),1,8):=by kernel_rfl
def CelAt (w:World) (B b o:Nat) (c:Cel):Prop:=
 w.cell? ⟨b,o,none⟩=some (.int .i64 c.x.k)∧w.cell? ⟨b,o+1,none⟩=some (.int .i64 c.x.n)∧w.cell? ⟨b,o+2,none⟩=some (.string c.x.a)∧w.cell? ⟨b,o+3,none⟩=some (.string c.x.m)∧
  ∃kv,w.cell? ⟨b,o+4,none⟩=some kv∧Sp w B kv c.ks
def Cls (w:World) (B:Nat) (v:Value) (cs:List Cel):Prop:=
 ∃A c,v = .slice A cs.length c∧cs.length≤c∧∀(j:Nat) (u:Cel),cs[j]? = some u→∃b o,A=some ⟨b,o,none⟩∧b<B∧CelAt w B b (o+j*5) u
theorem CelAt.keep {w w':World} {B B' b o:Nat} {c:Cel} (h:CelAt w B b o c) (hb:b<B) (hB:B≤B') (hk:∀p:Addr,p.block<B→w'.cell? p=w.cell? p):CelAt w' B' b o c:=by
 obtain⟨h0,h1,h2,h3,kv,h4,h5⟩:=h;exact⟨(hk _ hb).trans h0,(hk _ hb).trans h1,(hk _ hb).trans h2,(hk _ hb).trans h3,kv,(hk _ hb).trans h4,h5.keep hB hk⟩
theorem Cls.keep {w w':World} {B B':Nat} {v:Value} {cs:List Cel} (h:Cls w B v cs) (hB:B≤B') (hk:∀p:Addr,p.block<B→w'.cell? p=w.cell? p):Cls w' B' v cs:=by
 obtain⟨A,c,hv,hc,hcl⟩:=h;refine⟨A,c,hv,hc,fun j u hu=>?_⟩;obtain⟨b,o,hA,hb,h1⟩:=hcl j u hu;exact⟨b,o,hA,by omega,h1.keep hb hB hk⟩
theorem Cls.below {w w':World} {B:Nat} {v:Value} {cs:List Cel} (h:Cls w B v cs) (hb:Below B w w'):Cls w' B v cs:=h.keep (Nat.le_refl _) fun _ hp=>hb.cell hp
theorem wH (w:World) (o1 o2 o3:Obj) {H:Nat} (hH:w.heap.size=H):(((w.alloc o1).alloc o2).alloc o3).heap[H]? = some o1∧(((w.alloc o1).alloc o2).alloc o3).heap[H+1]? = some o2∧(((w.alloc o1).alloc o2).alloc o3).heap[H+2]? = some o3∧
  Below H w (((w.alloc o1).alloc o2).alloc o3)∧(((w.alloc o1).alloc o2).alloc o3).heap.size=H+3:=by
 have s1:(w.alloc o1).heap.size=H+1:=by simp;omega
 have s2:((w.alloc o1).alloc o2).heap.size=H+2:=by simp;omega
 have a1:(w.alloc o1).heap[H]? = some o1:=by rw[←hH];exact heap_alloc_new w o1
 have a2:((w.alloc o1).alloc o2).heap[H+1]? = some o2:=by rw[←s1];exact heap_alloc_new _ o2
 have a3:(((w.alloc o1).alloc o2).alloc o3).heap[H+2]? = some o3:=by rw[←s2];exact heap_alloc_new _ o3
 refine⟨?_,?_,a3,((((Below.refl H w).alloc (by omega) o1).alloc (by omega) o2).alloc (by omega) o3),by simp;omega⟩
 ·rw[Below.heap_alloc _ _ _ (by omega),Below.heap_alloc _ _ _ (by omega)];exact a1
 ·rw[Below.heap_alloc _ _ _ (by omega)];exact a2
def Up (W w:World):Prop:=Below W.heap.size W w
theorem Up.refl (W:World):Up W W:=Below.refl _ _
theorem Up.trans {W a b:World} (h:Up W a) (k:Up a b):Up W b:=Below.trans h (Below.mono k h.size)
theorem Up.of {W a b:World} (h:Up W a) (k:Below a.heap.size a b):Up W b:=h.trans k
theorem Up.drew {W a:World} (h:Up W a):Up W a.drew:=Below.drew h
theorem Up.drewN {W a:World} (h:Up W a) (q:Nat):Up W (a.drewN q):=qF h q
theorem Up.alloc {W a:World} (h:Up W a) (o:Obj):Up W (a.alloc o):=Below.alloc h h.size o
theorem Up.cell {W a:World} (h:Up W a) {p:Addr} {v:Value} (k:W.cell? p=some v):a.cell? p=some v:=(Below.cell h (yM k)).trans k
theorem Up.row {W a:World} (h:Up W a) {b:Nat} {o:Obj} (k:W.heap[b]? = some o):a.heap[b]? = some o:=(h.block b (qC k)).trans k
def HasT (w:World) (v:Value) (o:Option Tr):Prop:=InO w (fun q=>q<w.heap.size) v o
theorem HasT.of {w:World} {S:Nat→Prop} {v:Value} {o:Option Tr} (h:InO w S v o) (hb:Bel S w.heap.size):HasT w v o:=h.keep hb fun _ _=>rfl
theorem HasT.up {W w:World} {v:Value} {o:Option Tr} (h:HasT W v o) (u:Up W w):HasT w v o:=InO.keep h (fun _ hq=>Nat.lt_of_lt_of_le hq u.size) fun b hb=>u.block b hb
theorem HasT.bel {w:World}:Bel (fun q=>q<w.heap.size) w.heap.size:=fun _ h=>h
structure Upw (W:World) where
 w:World
 h:Up W w
instance (W:World):Nonempty (Upw W):=⟨⟨W,Up.refl W⟩⟩
theorem Upw.cell {W:World} {p:Addr} {v:Value} (k:W.cell? p=some v) (u:Upw W):u.w.cell? p=some v:=u.h.cell k
theorem Calls.upw {P:Program} {f:FuncId} {args:Array Value} {W:World} {u:Upw W} {v:Value} (h:Calls P f args u.w fun e w'=>e = .returned v∧Up W w') :
  Calls P f args u.w fun e w''=>e = .returned v∧∃u':Upw W,w''=u'.w:=h.mono fun _ w' ⟨he,hu⟩=>⟨he,⟨w',hu⟩,rfl⟩
theorem qE {P:Program} {id:Nat} {Q:Exit→Act→World→Prop} {a:Act} {W w:World} {l:List Oper} (hu:Up W w) (hm:P.follows .mixedOrders=true) (hB:Region.lexB .any l.toArray=true)
  (h:wpQuiet P l.toArray (fun w'=>∃u:Upw W,w'=u.w) (fun a'=>∀w',(∃u:Upw W,w'=u.w)→Q .normal a' w') l a):(Code.region id l.toArray true).wp P Q a w:=
 wp_region_quiet (C:=fun w'=>∃u:Upw W,w'=u.w) hm hB ⟨⟨_,hu.drew⟩,rfl⟩ (by simpa using h)
def BoP (b:Bool) (W:World) (e:Ending) (w':World):Prop:=e = .returned (.bool b)∧Up W w'
def NuP (n:Nat) (W:World) (e:Ending) (w':World):Prop:=e = .returned (.int .i64 (n:Int))∧Up W w'
def qD (n:Int):ByteArray:=B.T (B.numb n)
theorem pS:∀s,B.nck s=true→s.size≤128:=fun s h=>by have:=(B.eO h).2;omega
theorem gH:∀s,B.long s=true→s.size≤128:=fun _ h=>(B.nV.1 h).1
theorem xV (k:Int) (h1 : -1073741824≤k) (h2:k≤1073741824):(qD k).size≤128:=by
 unfold qD;rw[B.qV];have:=B.zVe k ⟨h1,h2⟩;omega
def xM:Nat→Fr→Fr
 | 0,_=>.nil
 | _+1,.nil=>.nil
 | j+1,.cons x k r=>.cons x k (xM j r)
theorem dE:∀{f:Fr} {j:Nat} {t:Tr},f.get j=some t→xM (j+1) f=(xM j f).app (fr1 t)
 | .nil,j,_,h=>by cases j<;>cases h
 | .cons x k r,0,t,h=>by injection h with h;subst h;cases r<;>rfl
 | .cons x k r,j+1,t,h=>by
  show Fr.cons x k (xM (j+1) r)=Fr.cons x k ((xM j r).app (fr1 t))
  rw[dE (f:=r) (j:=j) h]
theorem iM:∀(f:Fr),xM f.len f=f
 | .nil=>rfl
 | .cons x k r=>by
  show Fr.cons x k (xM r.len r)=_
  rw[iM r]
theorem iO:∀(f:Fr) (j:Nat),j≤f.len→(xM j f).len=j
 | _,0,_=>by cases ‹Fr›<;>rfl
 | .nil,j+1,h=>absurd h (Nat.not_succ_le_zero _)
 | .cons x k r,j+1,h=>by
  show(xM j r).len+1=_
  rw[iO r j (Nat.le_of_succ_le_succ h)]
theorem zXf:∀(f:Fr) (j:Nat),(xM j f).sz≤f.sz
 | _,0=>by show 0≤_;exact Nat.zero_le _
 | .nil,_+1=>Nat.le_refl _
 | .cons x k r,j+1=>by
  have:=zXf r j
  show 1+k.sz+(xM j r).sz≤1+k.sz+r.sz
  omega
theorem aJ {nk lg:ByteArray→Bool}:∀(f:Fr) (j:Nat),ArmOk nk lg f→ArmOk nk lg (xM j f)
 | _,0,_=>rfl
 | .nil,_+1,h=>h
 | .cons x k r,j+1,h=>by
  obtain⟨h1,h2⟩:=zVp h;have:=aJ r j h2
  show(isT nk lg (x,k) 9&&(infF nk lg (xM j r)).all fun i=>i.is 9)=true
  rw[h1];exact this
theorem gI {nk lg:ByteArray→Bool}:∀{f:Fr} {j:Nat} {t:Tr},ArmOk nk lg f→f.get j=some t→isT nk lg t 9=true
 | .nil,j,_,_,h=>by cases j<;>cases h
 | .cons x k r,0,t,h,hg=>by injection hg with hg;subst hg;exact(zVp h).1
 | .cons x k r,j+1,t,h,hg=>gI (f:=r) (j:=j) (zVp h).2 hg
def Tkm (w:World) (v:Value) (l:List Tk):Prop:=∃A c,v = .slice A l.length c∧∀(j:Nat) (t:Tk),l[j]? = some t→∃b o,A=some ⟨b,o,none⟩∧b<w.heap.size∧w.cell? ⟨b,o+j*4,none⟩=some (.int .i64 t.k)∧w.cell? ⟨b,o+j*4+1,none⟩=some (.string t.s)
theorem Tkm.up {W w:World} {v:Value} {l:List Tk} (h:Tkm W v l) (u:Up W w):Tkm w v l:=by
 obtain⟨A,c,rfl,h⟩:=h;refine⟨A,c,rfl,fun j t ht=>?_⟩;obtain⟨b,o,h1,h2,h3,h4⟩:=h j t ht;exact⟨b,o,h1,Nat.lt_of_lt_of_le h2 u.size,u.cell h3,u.cell h4⟩
theorem iP (a b:ByteArray):(a.toList==b.toList)=decide (a=b):=by
 by_cases h:a=b
 ·rw[h,decide_eq_true rfl]
  simp
 ·rw[decide_eq_false h,beq_eq_false_iff_ne]
  intro e;rw[Lib.toList_data,Lib.toList_data] at e;exact h (B.xN e)
def keyZ (l:List Tk) (i:Int) (x:ByteArray):Bool:=decide (0≤i)&&key l i.toNat x
def BoU (b:Bool) (w:World) (e:Ending) (w':World):Prop:=e = .returned (.bool b)∧Up w w'
theorem kM {a b:Bool} {w w':World} (h:a=b) (u:Up w w'):BoU a w (.returned (.bool b)) w':=⟨by rw[h],u⟩
def namZ (p:ByteArray→Bool) (l:List Tk) (i:Int):Option ByteArray:=if 0≤i then nam p l i.toNat else none
def NaP (o:Option ByteArray) (w:World) (e:Ending) (w':World):Prop:=e = .returned (.tuple #[.string (o.getD nob),.bool o.isSome])∧Up w w'
theorem tL (l:List Tk) (i:Int) (w:World) (v:Value) (hv:Tkm w v l) (hz:∀t∈l,t.s.size≤1000000000) :
  Calls Tryz.prog 126 #[v,.int .i64 i] w (NaP (namZ B.nck l i) w):=by
 obtain⟨A,c,rfl,hc⟩:=hv;obtain⟨n,hn⟩:∃n,l.length=n:=⟨_,rfl⟩;rw[hn]
 by_cases h0:0≤i
 ·obtain⟨k,rfl⟩:=Int.eq_ofNat_of_zero_le h0
  by_cases hk:k<n
  ·obtain⟨t,ht⟩:∃t,l[k]? = some t:=⟨_,List.getElem?_eq_getElem (by rw[hn];exact hk)⟩
   obtain⟨b,o,rfl,hb,c0,c1⟩:=hc k t ht;have hki:(k:Int)<(n:Int):=by omega
   have cC:=B.refCk t.s w (hz t (List.mem_of_getElem? ht));obtain⟨p,hp⟩:∃p,B.nck t.s=p:=⟨_,rfl⟩;rw[hp] at cC;have HE:Hid (namZ B.nck l (k:Int)=if decide (t.k=1)&&p then some t.s else none):=Lib.hid (by unfold namZ;rw[if_pos h0,Int.toNat_natCast];unfold nam;rw[ht,←hp]);rw[HE.out];clear hc ht hn HE hp hz
   by_cases h3:t.k=1
   ·rw[decide_eq_true h3,Bool.true_and]
    cases p
    ·go_enter Tryz.func126,Tryz.ntmps126
     go_wp2_with fail;refine cC.mono ?_;rintro e w1 ⟨rfl,u1⟩;go_wp2_with fail
     go_ret2
     exact⟨rfl,u1⟩
    ·go_enter Tryz.func126,Tryz.ntmps126
     go_wp2_with fail;refine cC.mono ?_;rintro e w1 ⟨rfl,u1⟩;have c1':=(show Up w w1 from u1).cell c1;go_wp2_with fail
     go_ret2
     exact⟨rfl,u1⟩
   ·rw[decide_eq_false h3,Bool.false_and]
    go_enter Tryz.func126,Tryz.ntmps126
    go_wp2_with fail
    go_ret2
    exact⟨rfl,Up.refl _⟩
  ·have hki:¬(k:Int)<(n:Int):=by omega
   have HE:Hid (namZ B.nck l (k:Int)=none):=Lib.hid (by unfold namZ;rw[if_pos h0,Int.toNat_natCast,nW (by omega)]);rw[HE.out]
   go_enter Tryz.func126,Tryz.ntmps126
   go_wp2_with fail
   go_ret2
   exact⟨rfl,Up.refl _⟩
 ·have HE:Hid (namZ B.nck l i=none):=Lib.hid (by unfold namZ;rw[if_neg h0])
  rw[HE.out]
  go_enter Tryz.func126,Tryz.ntmps126
  go_wp2_with fail
  go_ret2
  exact⟨rfl,Up.refl _⟩
end Go.Proofs.YtbpijnalmakfaaaGreatDoor
