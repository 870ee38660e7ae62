/-
  Plain: a type's tokens, with just the signs that the grammar needs; parsed, they are the type, whole.
-/
import Derived.Test.YtbpijnalmakfaaaGreatDoorGw07
import Derived.Test.YtbpijnalmakfaaaGreatDoorGw19
import Derived.Test.YtbpijnalmakfaaaGreatDoorGw34
set_option maxHeartbeats 40000000
set_option maxRecDepth 100000
namespace Go.Proofs.YtbpijnalmakfaaaGreatDoor
section
variable {nk lg:ByteArray→Bool}
theorem zAs {f:Fr} (h:seqOk (infF nk lg f) [116]=true):∃a,f=fr1 a∧isT nk lg a 1=true:=by
 cases f with
 | nil=>cases h
 | cons x k r=>
  have h:(isT nk lg (x,k) 1&&seqOk (infF nk lg r) [])=true:=h;rw[zO5,Bool.and_eq_true] at h;refine⟨(x,k),?_,h.1⟩
  cases r with
  | nil=>rfl
  | cons _ _ _=>cases h.2
theorem wR {t:Tr} (h:isT nk lg t 8=true):∃s u,t=nd 8 s (fr1 u)∧nk s=true∧isT nk lg u 1=true:=by
 obtain⟨x,f⟩:=t;obtain⟨r,hr,hf⟩:=qY.1 h;obtain⟨hc,hk,ha,hm,h1,h2,hs⟩:=zH.1 hf;simp only[RWS,List.mem_cons,List.not_mem_nil,or_false] at hr
 rcases hr with rfl | rfl | rfl | rfl | rfl | rfl | rfl | rfl | rfl | rfl | rfl | rfl | rfl | rfl | rfl | rfl | rfl | rfl | rfl | rfl | rfl | rfl | rfl | rfl | rfl | rfl | rfl | rfl | rfl | rfl | rfl | rfl | rfl | rfl | rfl | rfl | rfl | rfl | rfl | rfl | rfl | rfl | rfl | rfl | rfl | rfl | rfl
 all_goals try (exact absurd hc (by decide))
 obtain⟨u,rfl,hu⟩:=zAs hs;have e:x=⟨8,0,x.a,nob⟩:=kJ hk h1 h2 rfl hm;refine⟨x.a,u,?_,ha,hu⟩;rw[e]
 rfl
theorem fF (a b:Tr):tkT (nd 5 nob (fr2 a b))=wi (is5 a.1) (tkT a)++ky zI::tkT b:=rfl
theorem fG (a b:Tr):tkT (nd 6 nob (fr2 a b))=wi (nG a.1) (tkT a)++ky kStar::wi (is5 b.1) (tkT b):=rfl
theorem lS (s:ByteArray) (c:Fr):tkT (nd 7 s c)=ky kMu::nmT s::ky kLeft::(bars ((tkF c).map (·.2))++[ky zY]):=rfl
theorem fP (s:ByteArray) (t:Tr):tkT (nd 8 s (fr1 t))=nmT s::ky kOf::tkT t:=rfl
end
section
variable (nb:Int→ByteArray)
end
theorem eM (ts:List Tk):tks (tyE ts)=ts:=by
 unfold tks tyE;rw[List.map_map];exact List.map_id ts
section
variable {nk lg:ByteArray→Bool} {l:List Te}
end
section
variable {nk lg:ByteArray→Bool}
theorem vR {t:Tr} (h:isT nk lg t 9=true):∃c x b,t=(⟨34,0,c,x⟩,fr1 b)∧nk c=true∧nk x=true∧isT nk lg b 2=true:=by
 obtain⟨x,f⟩:=t;obtain⟨r,hr,hf⟩:=qY.1 h;obtain⟨hc,hk,ha,hm,h1,h2,hs⟩:=zH.1 hf;simp only[RWS,List.mem_cons,List.not_mem_nil,or_false] at hr
 rcases hr with rfl | rfl | rfl | rfl | rfl | rfl | rfl | rfl | rfl | rfl | rfl | rfl | rfl | rfl | rfl | rfl | rfl | rfl | rfl | rfl | rfl | rfl | rfl | rfl | rfl | rfl | rfl | rfl | rfl | rfl | rfl | rfl | rfl | rfl | rfl | rfl | rfl | rfl | rfl | rfl | rfl | rfl | rfl | rfl | rfl | rfl | rfl
 all_goals try (exact absurd hc (by decide))
 obtain⟨u,rfl,hu⟩:=zOd hs;have h1:0≤x.n:=h1;have h2:x.n≤0:=h2;have e:x=⟨34,0,x.a,x.m⟩:=zW0 hk (by omega) rfl rfl;exact⟨x.a,x.m,u,by rw[e],ha,hm,hu⟩
variable {nb:Int→ByteArray}
theorem dY {c x:ByteArray} {b:Tr} {r:Fr} (h:isT nk lg b 2=true):tkEF nb (.cons ⟨34,0,c,x⟩ (fr1 b) r)=(⟨34,0,c,x⟩,ne c::ne x::ke kFat::tkE nb b)::tkEF nb r:=by
 conv=>lhs;unfold tkEF
 have e:tkEF nb (fr1 b)=[(b.1,tkE nb b)]:=dJ (r:=.nil) h;rw[e]
 rfl
end
section
variable {nk lg:ByteArray→Bool} {nb:Int→ByteArray}
theorem zQb {x:Nod} {k r:Fr} (h:ArmOk nk lg (.cons x k r)):isT nk lg (x,k) 9=true∧ArmOk nk lg r:=by
 have h:(isT nk lg (x,k) 9&&(infF nk lg r).all fun i=>i.is 9)=true:=h;rw[Bool.and_eq_true] at h;exact h
end
section
variable {nk lg:ByteArray→Bool}
theorem bV {t:Tr} (h:isT nk lg t 1=true):tkT t≠[]:=by
 cases wC h with
 | leaf k hk=>rcases hk with rfl | rfl | rfl<;>(intro e;cases e)
 | name s hs=>intro e;cases e
 | two k hk a b hA hB=>
  rcases hk with rfl | rfl
  ·rw[fF];simp
  ·rw[fG];simp
 | mu s hs c hc h0=>rw[lS];simp
theorem zN0 {m:Nat}:∀(ts:List Tk),(∀t∈ts,t.s.size≤m)→(jT ts).length≤(m+1)*ts.length
 | [],_=>Nat.le_refl _
 | [a],h=>by
  have h1:=h a (by simp);have e:a.s.data.toList.length=a.s.size:=Array.length_toList
  show a.s.data.toList.length≤(m+1)*1
  omega
 | a::b::r,h=>by
  have h1:=h a (by simp);have ih:=zN0 (b::r) fun t ht=>h t (List.mem_cons_of_mem _ ht)
  have e:a.s.data.toList.length=a.s.size:=Array.length_toList
  show(a.s.data.toList++32::jT (b::r)).length≤(m+1)*((b::r).length+1)
  rw[List.length_append,List.length_cons,Nat.mul_succ];omega
end
section
variable {nk lg:ByteArray→Bool}
def Few (ts:List Tk) (n:Nat):Prop:=ts.length≤n∧∀x∈ts,x.s.size≤128
theorem Few.more {ts:List Tk} {n m:Nat} (h:Few ts n) (hm:n≤m):Few ts m:=⟨Nat.le_trans h.1 hm,h.2⟩
theorem Few.one {x:Tk} (h:x.s.size≤128):Few [x] 1:=⟨Nat.le_refl _,fun y hy=>by rw[List.mem_singleton.1 hy];exact h⟩
theorem Few.app {a b:List Tk} {n m:Nat} (ha:Few a n) (hb:Few b m):Few (a++b) (n+m):=⟨by rw[List.length_append];have:=ha.1;have:=hb.1;omega,fun x hx=>by
 rcases List.mem_append.1 hx with h | h
 ·exact ha.2 x h
 ·exact hb.2 x h⟩
theorem Few.cons {x:Tk} {b:List Tk} {m:Nat} (h:x.s.size≤128) (hb:Few b m):Few (x::b) (m+1):=⟨by rw[List.length_cons];have:=hb.1;omega,fun y hy=>by
 rcases List.mem_cons.1 hy with rfl | hy
 ·exact h
 ·exact hb.2 y hy⟩
theorem Few.wi {b:Bool} {ts:List Tk} {n:Nat} (h:Few ts n):Few (wi b ts) (n+2):=by
 cases b with
 | false=>exact h.more (by omega)
 | true=>exact((Few.app h (Few.one (by decide:(ky kShut).s.size≤128))).cons (by decide:(ky kOpen).s.size≤128)).more (by omega)
theorem zTr:∀(f:Fr),ConOk nk lg f→(∀s,nk s=true→s.size≤128)→(∀t,szT t<f.sz→isT nk lg t 1=true→Few (tkT t) (5*szT t))→Few (bars ((tkF f).map (·.2))) (5*f.sz)
 | .nil,_,_,_=>⟨Nat.le_refl _,fun _ h=>by cases h⟩
 | .cons x k r,hok,hn,ih=>by
  have h8:isT nk lg (x,k) 8=true:=by
   have h:(isT nk lg (x,k) 8&&(infF nk lg r).all fun i=>i.is 8)=true:=hok.1;rw[Bool.and_eq_true] at h;exact h.1
  have hr:ConOk nk lg r:=by
   have h:(isT nk lg (x,k) 8&&(infF nk lg r).all fun i=>i.is 8)=true:=hok.1;have h':(((infF nk lg r).all fun j=>decide (x.a≠j.a))&&kB (infF nk lg r))=true:=hok.2;rw[Bool.and_eq_true] at h h';exact⟨h.2,h'.2⟩
  obtain⟨s,u,hxu,hs,hu⟩:=wR h8;injection hxu with h1 h2;subst h1;subst h2;have hz:(Fr.cons ⟨8,0,s,nob⟩ (fr1 u) r).sz=1+szT u+r.sz:=by unfold szT;simp only[fr1,Fr.sz];omega
  have fu:=ih u (by omega) hu;have f1:Few (nmT s::ky kOf::tkT u) (5*szT u+2):=((fu.cons (by decide:(ky kOf).s.size≤128)).cons (hn s hs:(nmT s).s.size≤128)).more (by omega)
  cases r with
  | nil=>exact f1.more (by rw[hz];omega)
  | cons y m q=>
   have f2:=zTr (.cons y m q) hr hn (fun t ht=>ih t (by omega));exact(f1.app (f2.cons (by decide:(ky kBar).s.size≤128))).more (by rw[hz];omega)
theorem lT (hn:∀s,nk s=true→s.size≤128) (hg:∀s,lg s=true→s.size≤128):∀(n:Nat) (t:Tr),szT t≤n→isT nk lg t 1=true→Few (tkT t) (5*szT t)
 | 0,t,h,_=>absurd h (by unfold szT;omega)
 | n+1,t,h,ht=>by
  have ih:=lT hn hg n
  cases wC ht with
  | leaf k hk=>
   have e:szT (nd k nob .nil)=1:=rfl;rw[e]
   rcases hk with rfl | rfl | rfl
   ·exact(Few.one (by decide:(ky kInt).s.size≤128)).more (by omega)
   ·exact(Few.one (by decide:(ky kBool).s.size≤128)).more (by omega)
   ·exact(Few.one (by decide:(ky kUnit).s.size≤128)).more (by omega)
  | name s hs=>exact(Few.one (hg s hs:(nmT s).s.size≤128)).more (by show 1≤5*1;omega)
  | two k hk a b hA hB=>
   have hz:szT (nd k nob (fr2 a b))=1+(szT a+szT b):=by unfold szT;simp only[nd,fr2,fr1,Fr.sz];omega
   have fA:=ih a (by omega) hA;have fB:=ih b (by omega) hB
   rcases hk with rfl | rfl
   ·rw[fF]
    exact(fA.wi.app (fB.cons (by decide:(ky zI).s.size≤128))).more (by omega)
   ·rw[fG]
    exact(fA.wi.app (fB.wi.cons (by decide:(ky kStar).s.size≤128))).more (by omega)
  | mu s hs c hc h0=>
   rw[lS];have hz:szT (nd 7 s c)=1+c.sz:=rfl;have fc:=zTr c hc hn (fun t ht h1=>ih t (by omega) h1);exact((((fc.app (Few.one (by decide:(ky zY).s.size≤128))).cons (by decide:(ky kLeft).s.size≤128)).cons (hn s hs:(nmT s).s.size≤128)).cons (by decide:(ky kMu).s.size≤128)).more (by omega)
theorem lU (hn:∀s,nk s=true→s.size≤128) (hg:∀s,lg s=true→s.size≤128) {t:Tr} (h:isT nk lg t 1=true):(tB (tkT t)).size≤645*szT t:=by
 have f:=lT hn hg _ t (Nat.le_refl _) h;have h1:=zN0 (m:=128) (tkT t) f.2;have e:(tB (tkT t)).size=(jT (tkT t)).length:=by show(jT (tkT t)).toArray.size=_;simp
 have h2:=f.1;rw[e];omega
end
section
variable {nk lg:ByteArray→Bool} {nb:Int→ByteArray}
theorem vS (a:Tk) {y:List Tk} (h:y≠[]):jT (a::y)=a.s.data.toList++32::jT y:=by
 cases y with
 | nil=>exact absurd rfl h
 | cons b r=>rfl
theorem jW (t:Tr):jT (tks (tkE nb t))=(txE nb t).data.toList:=rfl
theorem zFr (n:Int):txE nb (⟨20,n,nob,nob⟩,.nil)=nb n:=zP _ _ rfl
theorem zN1:txE nb (nd 22 nob .nil)=⟨#[40,32,41]⟩:=zP _ _ rfl
theorem zFs {s:ByteArray} {a b:Tr} (ha:isT nk lg a 1=true) (hb:isT nk lg b 2=true):txE nb (nd 24 s (fr2 a b))=⟨#[102,110,32,40,32]⟩++s++⟨#[32,58,32]⟩++tB (tkT a)++⟨#[32,41,32,61,62,32]⟩++txE nb b:=by
 refine zP _ _ ?_;unfold txE;rw[oJ ha hb,jG]
 show jT (ky kFn::ky kOpen::nmT s::ky zW::tks (tyE (tkT a)++ke kShut::ke kFat::tkE nb b))=_
 rw[yW,eM]
 show jT (ky kFn::ky kOpen::nmT s::ky zW::(tkT a++ky kShut::ky kFat::tks (tkE nb b)))=_
 have h1:=bV ha;have h2:=jM (yO (nb:=nb) hb);rw[vS _ (by simp),vS _ (by simp),vS _ (by simp),vS _ (by simp),kW _ _ h1 (by simp),vS _ (by simp),vS _ h2];simp only[qM,List.append_assoc]
 rfl
theorem zN2 {a b:Tr} (ha:isT nk lg a 2=true) (hb:isT nk lg b 2=true):txE nb (nd 26 nob (fr2 a b))=⟨#[40,32]⟩++txE nb a++⟨#[32,44,32]⟩++txE nb b++⟨#[32,41]⟩:=by
 refine zP _ _ ?_
 conv=>lhs;unfold txE
 rw[tX ha hb,jG]
 show jT (ky kOpen::tks (tkE nb a++ke zN::(tkE nb b++[ke kShut])))=_
 rw[yW]
 show jT (ky kOpen::(tks (tkE nb a)++ky zN::tks (tkE nb b++[ke kShut])))=_
 rw[yW];have h1:=jM (yO (nb:=nb) ha);have h2:=jM (yO (nb:=nb) hb);rw[vS _ (by simp),kW _ _ h1 (by simp),vS _ (by simp[h2]),kW _ _ h2 (by intro e;cases e),jW,jW];simp only[qM,List.append_assoc]
 rfl
theorem zWt {k:Int} (hk:k=27∨k=28) {a:Tr} (ha:isT nk lg a 2=true):txE nb (nd k nob (fr1 a))=(if k=27 then ⟨#[35,49,32]⟩ else ⟨#[35,50,32]⟩)++atX nb a 5:=by
 refine zP _ _ ?_
 conv=>lhs;unfold txE
 rw[oL hk ha,jG]
 show jT (ky (kSel k)::tks (wie (low a.1 5) (tkE nb a)))=_
 rw[pN,vS _ (wne ha _),nH ha,qM]
 rcases hk with rfl | rfl<;>rfl
theorem zFt {s:ByteArray} {a b:Tr} (ha:isT nk lg a 2=true) (hb:isT nk lg b 2=true):txE nb (nd 29 s (fr2 a b))=⟨#[108,101,116,32]⟩++s++⟨#[32,61,32]⟩++txE nb a++⟨#[32,105,110,32]⟩++txE nb b++⟨#[32,101,110,100]⟩:=by
 refine zP _ _ ?_
 conv=>lhs;unfold txE
 rw[oM ha hb,jG]
 show jT (ky kLet::nmT s::ky kEq::tks (tkE nb a++ke kIn::(tkE nb b++[ke kEnd])))=_
 rw[yW]
 show jT (ky kLet::nmT s::ky kEq::(tks (tkE nb a)++ky kIn::tks (tkE nb b++[ke kEnd])))=_
 rw[yW];have h1:=jM (yO (nb:=nb) ha);have h2:=jM (yO (nb:=nb) hb);rw[vS _ (by simp),vS _ (by simp),vS _ (by simp),kW _ _ h1 (by simp),vS _ (by simp[h2]),kW _ _ h2 (by intro e;cases e),jW,jW];simp only[qM,List.append_assoc]
 rfl
theorem yX3 {a b c:Tr} (ha:isT nk lg a 2=true) (hb:isT nk lg b 2=true) (hc:isT nk lg c 2=true):txE nb (nd 30 nob (fr3 a b c))=⟨#[105,102,32]⟩++txE nb a++⟨#[32,116,104,101,110,32]⟩++txE nb b++⟨#[32,101,108,115,101,32]⟩++txE nb c:=by
 refine zP _ _ ?_
 conv=>lhs;unfold txE
 rw[zUh ha hb hc,jG]
 show jT (ky kIf::tks (tkE nb a++ke kThen::(tkE nb b++ke kElse::tkE nb c)))=_
 rw[yW]
 show jT (ky kIf::(tks (tkE nb a)++ky kThen::tks (tkE nb b++ke kElse::tkE nb c)))=_
 rw[yW]
 show jT (ky kIf::(tks (tkE nb a)++ky kThen::(tks (tkE nb b)++ky kElse::tks (tkE nb c))))=_
 have h1:=jM (yO (nb:=nb) ha);have h2:=jM (yO (nb:=nb) hb);have h3:=jM (yO (nb:=nb) hc);rw[vS _ (by simp),kW _ _ h1 (by simp),vS _ (by simp),kW _ _ h2 (by simp),vS _ h3,jW,jW,jW];simp only[qM,List.append_assoc]
 rfl
def sgB (k:Int):ByteArray:=if k=1 then ⟨#[32,43,32]⟩ else if k=2 then ⟨#[32,45,32]⟩ else if k=3 then ⟨#[32,42,32]⟩ else if k=4 then ⟨#[32,61,32]⟩ else ⟨#[32,60,32]⟩
theorem zTs (k:Int):(sgB k).data.toList=32::((signB k).data.toList++[32]):=by
 unfold sgB signB
 repeat' split
 all_goals rfl
theorem zYj {k:Int} {a b:Tr} (ha:isT nk lg a 2=true) (hb:isT nk lg b 2=true):txE nb (opN k,fr2 a b)=atX nb a (lft (opN k))++sgB k++atX nb b (lvl (opN k)+1):=by
 refine zP _ _ ?_
 conv=>lhs;unfold txE
 rw[zUi ha hb,jG,yW,pN]
 show jT (wi _ (tks (tkE nb a))++ky (signB k)::tks (wie _ (tkE nb b)))=_
 rw[pN,kW _ _ (wne ha _) (by simp),vS _ (wne hb _),nH ha,nH hb];simp only[qM,List.append_assoc];rw[zTs]
 show _=(atX nb a (lft (opN k))).data.toList++(32::((signB k).data.toList++[32])++(atX nb b (lvl (opN k)+1)).data.toList)
 rw[List.cons_append,List.append_assoc]
 rfl
def txA (nb:Int→ByteArray) (f:Fr):ByteArray:=tB (tks (barsE (yZ nb f)))
theorem uM {f:Fr} (h0:0<f.len) (h:ArmOk nk lg f):barsE (yZ nb f)≠[]:=by
 cases f with
 | nil=>exact absurd h0 (Nat.lt_irrefl _)
 | cons x k r=>
  obtain⟨h9,hr⟩:=zQb h;obtain⟨c,y,b,hxb,hc,hy,hb⟩:=vR h9;injection hxb with e1 e2;subst e1;subst e2;have es:yZ nb (.cons ⟨34,0,c,y⟩ (fr1 b) r)=(ne c::ne y::ke kFat::tkE nb b)::yZ nb r:=by unfold yZ;rw[dY hb];rfl
  rw[es]
  cases yZ nb r with
  | nil=>intro e;cases e
  | cons _ _=>intro e;cases e
theorem zN3 {a:Tr} (ha:isT nk lg a 2=true) {k:Fr} (h0:0<k.len) (hk:ArmOk nk lg k):txE nb (nd 32 nob (.cons a.1 a.2 k))=⟨#[99,97,115,101,32]⟩++txE nb a++⟨#[32,111,102,32]⟩++(txA nb k++⟨#[32,101,110,100]⟩):=by
 refine zP _ _ ?_
 conv=>lhs;unfold txE
 rw[tY ha,jG]
 show jT (ky kCase::tks (tkE nb a++ke kOf::(barsE (yZ nb k)++[ke kEnd])))=_
 rw[yW]
 show jT (ky kCase::(tks (tkE nb a)++ky kOf::tks (barsE (yZ nb k)++[ke kEnd])))=_
 rw[yW];have h1:=jM (yO (nb:=nb) ha);have h2:=jM (uM (nb:=nb) h0 hk);rw[vS _ (by simp),kW _ _ h1 (by simp),vS _ (by simp[h2]),kW _ _ h2 (by intro e;cases e),jW];simp only[qM,List.append_assoc]
 rfl
theorem zN4 {a t:Tr} (ha:isT nk lg a 2=true) (ht:isT nk lg t 1=true) {k:Fr} (h0:0<k.len) (hk:ArmOk nk lg k):txE nb (nd 33 nob (.cons a.1 a.2 (.cons t.1 t.2 k)))=⟨#[102,111,108,100,32]⟩++txE nb a++⟨#[32,116,111,32]⟩++tB (tkT t)++⟨#[32,111,102,32]⟩++(txA nb k++⟨#[32,101,110,100]⟩):=by
 refine zP _ _ ?_
 conv=>lhs;unfold txE
 rw[tZ ha ht,jG]
 show jT (ky kFold::tks (tkE nb a++ke kTo::(tyE (tkT t)++ke kOf::(barsE (yZ nb k)++[ke kEnd]))))=_
 rw[yW]
 show jT (ky kFold::(tks (tkE nb a)++ky kTo::tks (tyE (tkT t)++ke kOf::(barsE (yZ nb k)++[ke kEnd]))))=_
 rw[yW,eM]
 show jT (ky kFold::(tks (tkE nb a)++ky kTo::(tkT t++ky kOf::tks (barsE (yZ nb k)++[ke kEnd]))))=_
 rw[yW];have h1:=jM (yO (nb:=nb) ha);have h2:=jM (uM (nb:=nb) h0 hk);have h3:=bV ht;rw[vS _ (by simp),kW _ _ h1 (by simp),vS _ (by simp),kW _ _ h3 (by simp),vS _ (by simp[h2]),kW _ _ h2 (by intro e;cases e),jW];simp only[qM,List.append_assoc]
 rfl
def tx1 (nb:Int→ByteArray) (c x:ByteArray) (b:Tr):ByteArray:=c++⟨#[32]⟩++x++⟨#[32,61,62,32]⟩++txE nb b
theorem zFu {c x:ByteArray} {b:Tr} (hb:isT nk lg b 2=true):jT (tks (ne c::ne x::ke kFat::tkE nb b))=(tx1 nb c x b).data.toList:=by
 show jT (nmT c::nmT x::ky kFat::tks (tkE nb b))=_
 rw[vS _ (by simp),vS _ (by simp),vS _ (jM (yO hb)),jW];unfold tx1;simp only[qM,List.append_assoc]
 rfl
theorem zYk (x:Nod) (k r:Fr):yZ nb (.cons x k r)=(if x.k<20 then tyE (tkT (x,k)) else tkEN nb x (tkEF nb k))::yZ nb r:=by
 conv=>lhs;unfold yZ tkEF
 rfl
theorem zFv (f g:Fr):yZ nb (f.app g)=yZ nb f++yZ nb g:=by
 induction f with
 | nil=>rfl
 | cons x k r _ ih=>
  show yZ nb (.cons x k (r.app g))=yZ nb (.cons x k r)++_
  rw[zYk,zYk,ih]
  rfl
theorem uN:∀(l:List (List Te)) (a:List Te),l≠[]→barsE (l++[a])=barsE l++ke kBar::a
 | [],_,h=>absurd rfl h
 | [b],a,_=>rfl
 | b::c::r,a,_=>by
  show b++ke kBar::barsE ((c::r)++[a])=(b++ke kBar::barsE (c::r))++ke kBar::a
  rw[uN (c::r) a (by simp),List.append_assoc]
  rfl
theorem zN5 {c x:ByteArray} {b:Tr} (hb:isT nk lg b 2=true):txA nb (fr1 (⟨34,0,c,x⟩,fr1 b))=tx1 nb c x b:=by
 have es:yZ nb (fr1 (⟨34,0,c,x⟩,fr1 b))=[ne c::ne x::ke kFat::tkE nb b]:=by
  have e:=dY (nb:=nb) (c:=c) (x:=x) (r:=.nil) hb;unfold yZ
  show List.map _ (tkEF nb (.cons ⟨34,0,c,x⟩ (fr1 b) .nil))=_
  rw[e]
  rfl
 unfold txA;rw[es];exact zP _ _ (zFu hb)
theorem zTt {f:Fr} (h0:0<f.len) (hf:ArmOk nk lg f) {c x:ByteArray} {b:Tr} (hb:isT nk lg b 2=true):txA nb (f.app (fr1 (⟨34,0,c,x⟩,fr1 b)))=txA nb f++⟨#[32,124,32]⟩++tx1 nb c x b:=by
 have es:yZ nb (fr1 (⟨34,0,c,x⟩,fr1 b))=[ne c::ne x::ke kFat::tkE nb b]:=by
  have e:=dY (nb:=nb) (c:=c) (x:=x) (r:=.nil) hb;unfold yZ
  show List.map _ (tkEF nb (.cons ⟨34,0,c,x⟩ (fr1 b) .nil))=_
  rw[e]
  rfl
 have h1:=uM (nb:=nb) h0 hf;have h2:yZ nb f≠[]:=fun e=>h1 (by rw[e];rfl)
 refine zP _ _ ?_
 conv=>lhs;unfold txA
 rw[zFv,es,uN _ _ h2,jG,yW]
 show jT (tks (barsE (yZ nb f))++ky kBar::tks (ne c::ne x::ke kFat::tkE nb b))=_
 rw[kW _ _ (jM h1) (by simp),vS _ (by intro e;cases e),zFu hb];simp only[qM,List.append_assoc]
 rfl
end
section
variable {nk lg:ByteArray→Bool} {nb:Int→ByteArray}
def jP (ts:List Te) (n:Nat):Prop:=Few (tks ts) n
theorem jP.more {ts:List Te} {n m:Nat} (h:jP ts n) (hm:n≤m):jP ts m:=Few.more h hm
theorem jP.one {x:Te} (h:x.t.s.size≤128):jP [x] 1:=Few.one h
theorem jP.app {a b:List Te} {n m:Nat} (ha:jP a n) (hb:jP b m):jP (a++b) (n+m):=by
 unfold jP;rw[yW];exact Few.app ha hb
theorem jP.cons {x:Te} {b:List Te} {m:Nat} (h:x.t.s.size≤128) (hb:jP b m):jP (x::b) (m+1):=Few.cons (x:=x.t) h hb
theorem jP.wi {b:Bool} {ts:List Te} {n:Nat} (h:jP ts n):jP (wie b ts) (n+2):=by
 unfold jP;rw[pN];exact Few.wi h
theorem lV:∀(f:Fr),ArmOk nk lg f→(∀s,nk s=true→s.size≤128)→(∀t,szT t<f.sz→isT nk lg t 2=true→jP (tkE nb t) (10*szT t))→jP (barsE (yZ nb f)) (10*f.sz)
 | .nil,_,_,_=>⟨Nat.le_refl _,fun _ h=>by cases h⟩
 | .cons x k r,hok,hn,ih=>by
  obtain⟨h9,hr⟩:=zQb hok;obtain⟨c,y,b,hxb,hc,hy,hb⟩:=vR h9;injection hxb with e1 e2;subst e1;subst e2;have hz:(Fr.cons ⟨34,0,c,y⟩ (fr1 b) r).sz=1+szT b+r.sz:=by unfold szT;simp only[fr1,Fr.sz];omega
  have fu:=ih b (by omega) hb;have es:yZ nb (.cons ⟨34,0,c,y⟩ (fr1 b) r)=(ne c::ne y::ke kFat::tkE nb b)::yZ nb r:=by unfold yZ;rw[dY hb];rfl
  rw[es];have f1:jP (ne c::ne y::ke kFat::tkE nb b) (10*szT b+3):=((fu.cons (by decide:(ke kFat).t.s.size≤128)).cons (hn y hy:(ne y).t.s.size≤128)).cons (hn c hc:(ne c).t.s.size≤128)
  cases r with
  | nil=>exact f1.more (by rw[hz];omega)
  | cons z m q=>
   have f2:=lV (.cons z m q) hr hn (fun t ht=>ih t (by omega));exact(f1.app (f2.cons (by decide:(ke kBar).t.s.size≤128))).more (by rw[hz];omega)
theorem zAt (k:Int):(ke (signB k)).t.s.size≤128:=by
 show(signB k).size≤128
 unfold signB
 repeat' split
 all_goals decide
theorem zFw (hn:∀s,nk s=true→s.size≤128) (hg:∀s,lg s=true→s.size≤128) {t:Tr} (h:isT nk lg t 1=true):jP (tyE (tkT t)) (5*szT t):=by
 unfold jP;rw[eM];exact lT hn hg _ t (Nat.le_refl _) h
theorem lW (hn:∀s,nk s=true→s.size≤128) (hg:∀s,lg s=true→s.size≤128) (hb:∀k:Int,-1073741824≤k→k≤1073741824→(nb k).size≤128):∀(n:Nat) (t:Tr),szT t≤n→isT nk lg t 2=true→jP (tkE nb t) (10*szT t)
 | 0,t,h,_=>absurd h (by unfold szT;omega)
 | n+1,t,h,ht=>by
  have ih:=lW hn hg hb n
  cases wZ ht with
  | num k h1 h2=>
   rw[zW1,yY];exact(jP.one (hb k h1 h2:(⟨⟨2,nb k⟩,k⟩:Te).t.s.size≤128)).more (by omega)
  | boo k hk=>
   rw[oI,yY];refine jP.more (jP.one ?_) (by omega)
   split<;>decide
  | unit=>
   rw[eD];exact((jP.one (by decide:(ke kShut).t.s.size≤128)).cons (by decide:(ke kOpen).t.s.size≤128)).more (by show 2≤10*1;omega)
  | var s hs=>
   rw[zW2];exact(jP.one (hg s hs:(ne s).t.s.size≤128)).more (by show 1≤10*1;omega)
  | lam s hs a b hA hB=>
   have hz:szT (nd 24 s (fr2 a b))=1+(szT a+szT b):=zQ _ a b;rw[oJ hA hB];exact(((((zFw hn hg hA).app (((ih b (by omega) hB).cons (by decide:(ke kFat).t.s.size≤128)).cons (by decide:(ke kShut).t.s.size≤128))).cons (by decide:(ke zW).t.s.size≤128)).cons (hn s hs:(ne s).t.s.size≤128)).cons (by decide:(ke kOpen).t.s.size≤128)).cons (by decide:(ke kFn).t.s.size≤128) |>.more (by omega)
  | app a b hA hB=>
   have hz:szT (nd 25 nob (fr2 a b))=1+(szT a+szT b):=zQ _ a b;rw[oK hA hB];exact((ih a (by omega) hA).wi.app (ih b (by omega) hB).wi).more (by omega)
  | pair a b hA hB=>
   have hz:szT (nd 26 nob (fr2 a b))=1+(szT a+szT b):=zQ _ a b;rw[tX hA hB];exact(((ih a (by omega) hA).app (((ih b (by omega) hB).app (jP.one (by decide:(ke kShut).t.s.size≤128))).cons (by decide:(ke zN).t.s.size≤128))).cons (by decide:(ke kOpen).t.s.size≤128)).more (by omega)
  | sel k hk a hA=>
   have hz:szT (nd k nob (fr1 a))=1+szT a:=mE _ a;rw[oL hk hA];refine((ih a (by omega) hA).wi.cons ?_).more (by omega)
   show(kSel k).size≤128
   rcases hk with rfl | rfl<;>decide
  | letE s hs a b hA hB=>
   have hz:szT (nd 29 s (fr2 a b))=1+(szT a+szT b):=zQ _ a b;rw[oM hA hB];exact(((((ih a (by omega) hA).app (((ih b (by omega) hB).app (jP.one (by decide:(ke kEnd).t.s.size≤128))).cons (by decide:(ke kIn).t.s.size≤128))).cons (by decide:(ke kEq).t.s.size≤128)).cons (hn s hs:(ne s).t.s.size≤128)).cons (by decide:(ke kLet).t.s.size≤128)).more (by omega)
  | ifE a b c hA hB hC=>
   have hz:szT (nd 30 nob (fr3 a b c))=1+(szT a+szT b+szT c):=dG _ a b c;rw[zUh hA hB hC];exact(((ih a (by omega) hA).app (((ih b (by omega) hB).app ((ih c (by omega) hC).cons (by decide:(ke kElse).t.s.size≤128))).cons (by decide:(ke kThen).t.s.size≤128))).cons (by decide:(ke kIf).t.s.size≤128)).more (by omega)
  | op k h1 h2 a b hA hB=>
   have hz:szT (opN k,fr2 a b)=1+(szT a+szT b):=zQ _ a b;rw[zUi hA hB];exact((ih a (by omega) hA).wi.app ((ih b (by omega) hB).wi.cons (zAt k))).more (by omega)
  | caseE a hA k hk h0=>
   have hz:szT (nd 32 nob (.cons a.1 a.2 k))=1+(szT a+k.sz):=rfl;rw[tY hA];have fk:=lV (nb:=nb) k hk hn fun t ht h=>ih t (by omega) h
   exact(((ih a (by omega) hA).app ((fk.app (jP.one (by decide:(ke kEnd).t.s.size≤128))).cons (by decide:(ke kOf).t.s.size≤128))).cons (by decide:(ke kCase).t.s.size≤128)).more (by omega)
  | foldE a t hA hT k hk h0=>
   have hz:szT (nd 33 nob (.cons a.1 a.2 (.cons t.1 t.2 k)))=1+(szT a+(szT t+k.sz)):=rfl;rw[tZ hA hT];have fk:=lV (nb:=nb) k hk hn fun t ht h=>ih t (by omega) h
   exact(((ih a (by omega) hA).app (((zFw hn hg hT).app ((fk.app (jP.one (by decide:(ke kEnd).t.s.size≤128))).cons (by decide:(ke kOf).t.s.size≤128))).cons (by decide:(ke kTo).t.s.size≤128))).cons (by decide:(ke kFold).t.s.size≤128)).more (by omega)
theorem zTu {ts:List Te} {n:Nat} (h:jP ts n):(tB (tks ts)).size≤129*n:=by
 have h1:=zN0 (m:=128) (tks ts) h.2;have e:(tB (tks ts)).size=(jT (tks ts)).length:=by show(jT (tks ts)).toArray.size=_;simp
 have h2:=h.1;rw[e];omega
theorem zQc (hn:∀s,nk s=true→s.size≤128) (hg:∀s,lg s=true→s.size≤128) (hb:∀k:Int,-1073741824≤k→k≤1073741824→(nb k).size≤128) {t:Tr} (h:isT nk lg t 2=true):(txE nb t).size≤1290*szT t:=by
 have:=zTu (lW hn hg hb _ t (Nat.le_refl _) h);unfold txE;omega
end
end Go.Proofs.YtbpijnalmakfaaaGreatDoor
namespace Go.Proofs.YtbpijnalmakfaaaGreatDoor
open Go.RowKit
theorem zFx {S:Nat→Prop} {w w':World} (hS:Bel S w.heap.size) (h:w.heap.size≤w'.heap.size):Bel (Sin S w w') w'.heap.size:=fun q hq=>by
 rcases hq with hq | hq
 ·exact Nat.lt_of_lt_of_le (hS q hq) h
 ·exact hq.2
theorem zFy (n:Nat):Bel No n:=fun _ h=>h.elim
instance (W:World):Nonempty (Upw W):=⟨⟨W,Up.refl W⟩⟩
theorem wU (k:Int) (h1 : -1073741824≤k) (h2:k≤1073741824):(qE k).size≤128:=by
 unfold qE;rw[B.qO];have:=B.zVv k ⟨h1,h2⟩;omega
def xH:Nat→Fr→Fr
 | 0,_=>.nil
 | _+1,.nil=>.nil
 | j+1,.cons x k r=>.cons x k (xH j r)
theorem dZ:∀{f:Fr} {j:Nat} {t:Tr},f.get j=some t→xH (j+1) f=(xH j f).app (fr1 t)
 | .nil,j,_,h=>by cases j<;>cases h
 | .cons x k r,0,t,h=>by injection h with h;subst h;cases r<;>rfl
 | .cons x k r,j+1,t,h=>by
  show Fr.cons x k (xH (j+1) r)=Fr.cons x k ((xH j r).app (fr1 t))
  rw[dZ (f:=r) (j:=j) h]
theorem uO:∀(f:Fr),xH f.len f=f
 | .nil=>rfl
 | .cons x k r=>by
  show Fr.cons x k (xH r.len r)=_
  rw[uO r]
theorem uP:∀(f:Fr) (j:Nat),j≤f.len→(xH j f).len=j
 | _,0,_=>by cases ‹Fr›<;>rfl
 | .nil,j+1,h=>absurd h (Nat.not_succ_le_zero _)
 | .cons x k r,j+1,h=>by
  show(xH j r).len+1=_
  rw[uP r j (Nat.le_of_succ_le_succ h)]
theorem zWu:∀(f:Fr) (j:Nat),(xH j f).sz≤f.sz
 | _,0=>by show 0≤_;exact Nat.zero_le _
 | .nil,_+1=>Nat.le_refl _
 | .cons x k r,j+1=>by
  have:=zWu r j
  show 1+k.sz+(xH j r).sz≤1+k.sz+r.sz
  omega
theorem eN {nk lg:ByteArray→Bool}:∀(f:Fr) (j:Nat),ArmOk nk lg f→ArmOk nk lg (xH j f)
 | _,0,_=>rfl
 | .nil,_+1,h=>h
 | .cons x k r,j+1,h=>by
  obtain⟨h1,h2⟩:=zQb h;have:=eN r j h2
  show(isT nk lg (x,k) 9&&(infF nk lg (xH j r)).all fun i=>i.is 9)=true
  rw[h1];exact this
theorem nQ {nk lg:ByteArray→Bool}:∀{f:Fr} {j:Nat} {t:Tr},ArmOk nk lg f→f.get j=some t→isT nk lg t 9=true
 | .nil,j,_,_,h=>by cases j<;>cases h
 | .cons x k r,0,t,h,hg=>by injection hg with hg;subst hg;exact(zQb h).1
 | .cons x k r,j+1,t,h,hg=>nQ (f:=r) (j:=j) (zQb h).2 hg
section
variable {nk lg:ByteArray→Bool}
end
theorem pU (x:Nod) (f:Fr) (w:World) (v:Value) (hv:HasT w v (some (x,f))) (ha:x.a.size≤1000000000) :
  Calls Tryz.prog 106 #[v] w (TelB (texB x B.nck isEmp) w):=by
 have cT:=dR x f 162 161 B.nck isEmp w v hv dQ zY5 (fun w' _=>zW8 (B.wE _ w' ha)) (fun w' _=>zY4 _ w');obtain⟨b,hb⟩:∃b,texB x B.nck isEmp=b:=⟨_,rfl⟩;rw[hb] at cT ⊢;clear hb hv
 go_enter Tryz.func106,Tryz.ntmps106
 go_wp2_with fail;refine cT.mono ?_;rintro e w1 ⟨rfl,u1⟩;go_wp2_with fail
 go_ret
 exact qI rfl u1
def WrP (W:World) (bw:Nat) (ts:List ByteArray) (e:Ending) (w':World):Prop:=(∃u,e = .returned u)∧Up W w'∧Wr bw w' ts
theorem zAu (W:World) (bw:Nat) (hB:W.heap.size≤bw) (w:World) (hu:Up W w) (ts news:List ByteArray) (hw:Wr bw w ts) (hts:ts.length≤1000000) (hn:news.length≤10) (hn0:0<news.length) (H:Nat) (hc:∀(j:Nat) u,(news.map Value.string)[j]? = some u→w.cell? ⟨H,0+j,none⟩=some u) :
  Calls Tryz.prog 235 #[.pointer (some ⟨bw,0,none⟩),.slice (some ⟨H,0,none⟩) news.length news.length] w (WrP W bw (ts++news)):=by
 obtain⟨v,h1,h2⟩:=hw;have c0:w.cell? ⟨bw,0,none⟩=some v:=cell_of_row w bw 0 _ _ _ h1;have hBw:=qC h1;have HROW:=Lib.hid h1;have HOWN:=Lib.hid h2;have HU:=Lib.hid hu;have HC:Hid (∀(j:Nat) u,(news.map Value.string)[j]? = some u→w.cell? ((⟨H,0,none⟩:Addr).add j)=some u):=Lib.hid fun j u h=>by
  have e1:(⟨H,0,none⟩:Addr).add j=⟨H,0+j,none⟩:=by unfold Addr.add;split<;>simp_all
  rw[e1];exact hc j u h
 obtain⟨i0,hi0,hz0,hz1,hz2⟩:=info_parts B.aO;obtain⟨n,hnn⟩:∃n,ts.length=n:=⟨_,rfl⟩;obtain⟨m,hmm⟩:∃m,news.length=m:=⟨_,rfl⟩;rw[hnn] at hts HOWN;rw[hmm] at hn hn0 ⊢;have HN:=Lib.hid hnn;have HM:=Lib.hid hmm;clear h1 h2 hu hc hnn hmm
 go_enter Tryz.func235,Tryz.ntmps235
 go_wp2_with (at_builtin;refine wpList_append_lies _ rfl _ _ 80 rfl (bw+1) 9 i0 _ 1 16 Tryz.underlying80 hi0 hz0 hz1 hz2 rfl (by omega) v n (ts.map Value.string) rfl HOWN.out ⟨H,0,none⟩ m m (news.map Value.string) rfl (by rw[List.length_map,HM.out,Nat.mul_one]) HC.out (by intro u hu;obtain⟨s,_,rfl⟩:=List.mem_map.1 hu;rfl) (by omega) (by unfold maxLen;omega) (by omega) (by omega) w.heap.size rfl ?_;intro g6 cap6 w6 ho6 hg6 hat6 hlt6;have r6:w6.heap[bw]? = some (.cells #[v] 215 (0,0)):=(hg6.block bw hBw (fun e=>by have:=(World.ownsRow.lt HOWN.out bw e.symm).1;omega)).trans HROW.out;have c6:=cell_of_row w6 bw 0 _ _ _ r6;have f6:=frozen_of_row w6 bw 0 _ _ r6;have hb6:=qC r6;have HO6:=Lib.hid ho6;have HG6:=Lib.hid hg6;have HAT:=Lib.hid hat6;have R6:=Lib.hid r6;clear ho6 hg6 hat6 r6)
 go_end0;have hzz:=HU.out.size;refine⟨⟨_,rfl⟩,?_,.slice (some ⟨g6,0,none⟩) (n+m) cap6,?_,?_⟩
 ·exact(zOj HU.out HG6.out fun g e=>by have:=(World.ownsRow.lt HOWN.out g e).1;omega).setCell (p:=⟨bw,0,none⟩) hB _
 ·exact Boxed.set _ R6.out
 ·have e:(ts++news).map Value.string=ts.map Value.string++news.map Value.string:=List.map_append
  rw[e,List.length_append,HN.out,HM.out];refine zC HO6.out _ _ fun g e=>?_
  injection e with e;have e:g6=g:=e;subst e
  rcases HAT.out with h | h
  ·have:=(World.ownsRow.lt HOWN.out g6 h).1;simp only;omega
  ·simp only;omega
theorem eO {W:World} {bw:Nat} {w:World} {ts:List ByteArray} (news:List ByteArray) (hB:W.heap.size≤bw) (hu:Up W w) (hw:Wr bw w ts) (hts:ts.length≤1000000) (hn:news.length≤10) (hn0:0<news.length) :
  Calls Tryz.prog 235 #[.pointer (some ⟨bw,0,none⟩),.slice (some ⟨w.heap.size,0,none⟩) news.length news.length] (w.alloc (.cells (news.map Value.string).toArray 9)) (WrP W bw (ts++news)):=
 zAu W bw hB _ (hu.alloc _) ts news (hw.up ((Up.refl w).alloc _)) hts hn hn0 w.heap.size fun j u h=>by
  rw[Nat.zero_add,cell_of_row _ w.heap.size j _ _ _ (heap_alloc_new w _),List.getElem?_toArray];exact h
def ruT (k:Int):Int:=if k=5 then 0 else if k=6 then 1 else 2
theorem vF {W w:World} {v:Value} {x:Nod} {f:Fr} (hv:HasT W v (some (x,f))) (hu:Up W w):Calls Tryz.prog 234 #[v] w fun e w'=>e = .returned (.int .i64 (ruT x.k))∧Up w w':=by
 obtain⟨q,p,A,c,rfl,hq,c0,-⟩:=InT.open hv;have k0:=hu.cell c0;clear c0 hv
 by_cases h5:x.k=5
 ·have HE:Hid (ruT x.k=0):=Lib.hid (if_pos h5)
  rw[HE.out];rw[h5] at k0
  go_enter Tryz.func234,Tryz.ntmps234
  go_wp2_with fail
  go_ret
  exact⟨rfl,Up.refl _⟩
 ·by_cases h6:x.k=6
  ·have HE:Hid (ruT x.k=1):=Lib.hid (by unfold ruT;rw[if_neg h5,if_pos h6])
   rw[HE.out];rw[h6] at k0
   go_enter Tryz.func234,Tryz.ntmps234
   go_wp2_with fail
   go_ret
   exact⟨rfl,Up.refl _⟩
  ·have HE:Hid (ruT x.k=2):=Lib.hid (by unfold ruT;rw[if_neg h5,if_neg h6])
   rw[HE.out]
   go_enter Tryz.func234,Tryz.ntmps234
   go_wp2_with fail
   go_ret
   exact⟨rfl,Up.refl _⟩
theorem uQ {W:World} {bw:Nat} {w:World} {ts:List ByteArray} (k:Nat) (hk:k<3) (hB:W.heap.size≤bw) (hu:Up W w) (hw:Wr bw w ts) (hts:ts.length≤1000000) (hp:Pl W) :
  Calls Tryz.prog 237 #[.pointer (some ⟨bw,0,none⟩),.int .i64 ((k+1:Nat):Int)] w (WrP W bw (ts++[plS k])):=by
 obtain⟨tp,zp,hpl⟩:=hp.up hu;have HW:=Lib.hid hw;have HU:=Lib.hid hu;obtain⟨kk,hkk⟩:∃kk,((k+1:Nat):Int)=kk:=⟨_,rfl⟩;have HKK:=Lib.hid hkk;rw[hkk];clear hw hu hkk
 go_enter Tryz.func237,Tryz.ntmps237
 go_wp2_with (refine wpList_load_row rfl 258 (.global 7) rfl 7 rfl tp plV zp _ hpl Tryz.underlying258 rfl (by kernel_rfl) ?_)
 generalize hA:plV=AR
 have HAR:=Lib.hid hA;clear hA hpl
 go_loopw [7] (fun x wr=>∃j:Nat,j≤3∧x = .int .i64 (j:Int)∧Up W wr∧Wr bw wr (if k<j then ts++[plS k] else ts)) (fun x _=>4-(intOf x).toNat)
 case atStart=>exact⟨0,Nat.zero_le _,rfl,HU.out,by rw[if_neg (by omega)];exact HW.out⟩
 case round=>
  obtain⟨j,hj,rfl,hur,hwr⟩:=hrel;have HUR:=Lib.hid hur;have HWR:=Lib.hid hwr;clear hur hwr
  by_cases hlt:j<3
  ·have hix:∀W,(Instr.index 258 (.agg AR) (.int .i64 (j:Int))).run Tryz.prog W = .ok (.agg #[.string (plS j),.int .i64 ((j+1:Nat):Int)]) W:=fun W=>by rw[←HAR.out];exact dM j hlt W
   have hw1:IntKind.i64.wrap ((j:Int)+1)=((j+1:Nat):Int):=by rw[IntKind.wrap_i64];omega
   have hjz:(j:Int)<3:=by omega
   obtain⟨X,hX⟩:∃X,plS j=X:=⟨_,rfl⟩;obtain⟨ka,hka⟩:∃ka,((j+1:Nat):Int)=ka:=⟨_,rfl⟩;rw[hX,hka] at hix;rw[hka] at hw1;have HX:=Lib.hid hX;have HKA:=Lib.hid hka;obtain⟨Wr1,hWr1⟩:∃Wr1,wr.alloc (.cells #[.string X,.int .i64 ka] 257)=Wr1:=⟨_,rfl⟩;have ur:Up wr Wr1:=by rw[←hWr1];exact(Up.refl wr).alloc _
   have UR:=Lib.hid ur;have HW1:=Lib.hid hWr1
   by_cases he:ka=kk
   ·have hjk:j=k:=by have:=HKK.out;omega
    have hw2:Wr bw wr ts:=by have h:=HWR.out;rwa [if_neg (by omega)] at h
    have cP:Calls Tryz.prog 235 #[.pointer (some ⟨bw,0,none⟩),.slice (some ⟨Wr1.heap.size,0,none⟩) 1 1] (Wr1.alloc (.cells #[.string X] 9)) (WrP W bw (ts++[X])):=eO (W:=W) [X] hB (HUR.out.trans ur) (hw2.up ur) hts (by show 1≤10;omega) Nat.one_pos;have hz1:Wr1.heap.size=wr.heap.size+1:=by rw[←hWr1];simp
    rw[hz1] at cP;have cX:Wr1.cell? ⟨wr.heap.size,0,none⟩=some (.string X):=by rw[←hWr1];exact cell_of_row _ wr.heap.size 0 _ _ _ (heap_alloc_new wr _)
    subst he;have HJK:=Lib.hid hjk;clear hX hka hWr1 ur hw2 hjk hz1;go_wp2_with fail;rw[HW1.out];refine cP.mono ?_;rintro en w2 ⟨⟨u,rfl⟩,u2,h2⟩;have h2':=Lib.hid h2;clear h2;go_wp2_with fail
    go_roundw
    case rel=>exact⟨j+1,by omega,zV (by have:=HKA.out;omega),u2,by have hjk:=HJK.out;rw[if_pos (by omega),←hjk,HX.out];exact h2'.out⟩
    case measure=>simp[intOf];have:=HKA.out;omega
   ·have hne:¬j=k:=fun e=>he (by rw[←HKA.out,←HKK.out,e])
    clear hX hka hWr1 ur;go_wp2_with fail
    go_roundw
    case rel=>exact⟨j+1,by omega,zV (by have:=HKA.out;omega),by rw[HW1.out];exact HUR.out.trans UR.out,by
     rw[HW1.out];have h:=HWR.out
     by_cases hkj:k<j
     ·rw[if_pos hkj] at h;rw[if_pos (by omega)];exact h.up UR.out
     ·rw[if_neg hkj] at h;rw[if_neg (by omega)];exact h.up UR.out⟩
    case measure=>simp[intOf];have:=HKA.out;omega
  ·obtain rfl:j=3:=by omega
   go_wp2_with fail;go_end0;have h:=HWR.out;rw[if_pos (by omega)] at h;exact⟨⟨_,rfl⟩,HUR.out,h⟩
def wiR (r:Int) (t:Tr):List Tk:=wi (decide (ruT t.1.k<r)) (tkT t)
theorem sD (t:Tr):wiR 0 t=tkT t:=by
 unfold wiR;have h:¬ruT t.1.k<0:=by unfold ruT;split<;>(try split)<;>omega
 rw[decide_eq_false h]
 rfl
theorem yX4 (t:Tr):wiR 1 t=wi (is5 t.1) (tkT t):=by
 unfold wiR is5
 congr 1
 have h:ruT t.1.k<1↔t.1.k=5:=by unfold ruT;split<;>(try split)<;>omega
 exact decide_eq_decide.2 h
theorem wiR_2 (t:Tr):wiR 2 t=wi (nG t.1) (tkT t):=by
 unfold wiR nG
 congr 1
 have h:ruT t.1.k<2↔(t.1.k=5∨t.1.k=6):=by unfold ruT;split<;>(try split)<;>omega
 rw[decide_eq_decide.2 h,Bool.decide_or]
theorem uR {r:Int} {t:Tr} (h:¬ruT t.1.k<r):wiR r t=tkT t:=by unfold wiR;rw[decide_eq_false h];rfl
theorem lY (a b:List Tk):txt (a++b)=txt a++txt b:=List.map_append
theorem jI (a:List Tk):(txt a).length=a.length:=List.length_map _
def WriAt (W:World) (bw:Nat) (t:Tr) (r:Int):Prop:=∀(w:World) (ts:List ByteArray) (v:Value),HasT W v (some t)→Up W w→Wr bw w ts→ts.length+(wiR r t).length≤1000000→Calls Tryz.prog 205 #[.pointer (some ⟨bw,0,none⟩),v,.int .i64 r] w (WrP W bw (ts++txt (wiR r t)))
section
variable {W:World} {bw:Nat}
theorem uS {w:World} {ts:List ByteArray} (x:ByteArray) (hB:W.heap.size≤bw) (hu:Up W w) (hw:Wr bw w ts) (hts:ts.length≤1000000) :
  Calls Tryz.prog 235 #[.pointer (some ⟨bw,0,none⟩),.slice (some ⟨w.heap.size,0,none⟩) 1 1] (w.alloc (.cells #[.string x] 9)) (WrP W bw (ts++[x])):=eO [x] hB hu hw hts (by show 1≤10;omega) Nat.one_pos
theorem zTv (t:Tr) (r:Int) (hB:W.heap.size≤bw) (h:ruT t.1.k<r) (c0:WriAt W bw t 0):WriAt W bw t r:=fun w ts v hv hu hw hz=>by
 obtain⟨x,f⟩:=t;have he:wiR r (x,f)=ky kOpen::(tkT (x,f)++[ky kShut]):=by unfold wiR;rw[decide_eq_true h];rfl
 have hzl:ts.length+(tkT (x,f)).length+2≤1000000:=by rw[he] at hz;simp only[List.length_cons,List.length_append,List.length_nil] at hz;omega
 have HE:Hid (ts++txt (wiR r (x,f))=((ts++[kOpen])++txt (wiR 0 (x,f)))++[kShut]):=Lib.hid (by rw[he,sD];show ts++kOpen::txt (tkT (x,f)++[ky kShut])=_;rw[lY];simp[txt,ky]);rw[HE.out];have cR:=vF hv hu;have HV:=Lib.hid hv;have HU:=Lib.hid hu;have HW:=Lib.hid hw;have HC:=Lib.hid c0;have HZ:=Lib.hid hzl;have hq:(ruT x.k)<r:=h;obtain⟨q,hqq⟩:∃q,ruT x.k=q:=⟨_,rfl⟩;rw[hqq] at cR hq;clear hv hu hw c0 he hz hzl h hqq
 go_enter Tryz.func205,Tryz.ntmps205
 go_wp2_with fail;refine cR.mono ?_;rintro en w1 ⟨rfl,u1⟩;have cP:=uS (W:=W) kOpen hB (HU.out.trans u1) (HW.out.up u1) (by have:=HZ.out;omega);have U1:=Lib.hid (HU.out.trans u1);clear u1;go_wp2_with fail;refine cP.mono ?_;rintro en w2 ⟨⟨u,rfl⟩,u2,h2⟩;have cW:=HC.out w2 (ts++[kOpen]) v HV.out u2 h2 (by rw[sD,List.length_append];have:=HZ.out;simp only[List.length_cons,List.length_nil];omega);clear u2 h2 cP;go_wp2_with fail;refine cW.mono ?_;rintro en w3 ⟨⟨u,rfl⟩,u3,h3⟩;have cP:=uS (W:=W) kShut hB u3 h3 (by rw[sD];simp only[List.length_append,jI,List.length_cons,List.length_nil];have:=HZ.out;omega);clear u3 h3 cW;go_wp2_with fail;refine cP.mono ?_;rintro en w4 ⟨⟨u,rfl⟩,u4,h4⟩;have H4:=Lib.hid h4;clear h4;go_wp2_with fail;go_end0;exact⟨⟨_,rfl⟩,u4,H4.out⟩
theorem sV (k:Nat) (hk:k<3) (r:Int) (hB:W.heap.size≤bw) (hp:Pl W) (hr:¬ruT ((k+1:Nat):Int)<r):WriAt W bw (nd ((k+1:Nat):Int) nob .nil) r:=fun w ts v hv hu hw hz=>by
 have he:wiR r (nd ((k+1:Nat):Int) nob .nil)=tkT (nd ((k+1:Nat):Int) nob .nil):=uR hr;have ht:txt (tkT (nd ((k+1:Nat):Int) nob .nil))=[plS k]:=by obtain rfl | rfl | rfl:k=0∨k=1∨k=2:=(by omega)<;>rfl
 have HE:Hid (ts++txt (wiR r (nd ((k+1:Nat):Int) nob .nil))=ts++[plS k]):=Lib.hid (by rw[he,ht]);rw[HE.out];have cR:=vF hv hu;obtain⟨q,p,A,c,rfl,hq,k0,-⟩:=InT.open hv;have HU:=Lib.hid hu;have HW:=Lib.hid hw;have k0:W.cell? ⟨q,p,none⟩=some (.int .i64 ((k+1:Nat):Int)):=k0;have HK:=Lib.hid k0;have hrr:ruT ((k+1:Nat):Int)=2:=by unfold ruT;rw[if_neg (by omega),if_neg (by omega)]
 rw[hrr] at hr;have cR:Calls Tryz.prog 234 #[.pointer (some ⟨q,p,none⟩)] w fun e w'=>e = .returned (.int .i64 2)∧Up w w':=by
  refine cR.mono fun e w' ⟨h1,h2⟩=>⟨?_,h2⟩
  rw[h1];exact congrArg (fun z=>Ending.returned (.int .i64 z)) hrr
 have hz1:ts.length≤1000000:=by omega
 obtain⟨ka,hka⟩:∃ka,((k+1:Nat):Int)=ka:=⟨_,rfl⟩;have h4:¬ka=4:=by omega
 have h5:¬ka=5:=by omega
 have h6:¬ka=6:=by omega
 have h7:¬ka=7:=by omega
 have HKA:=Lib.hid hka;clear hv hu hw he ht hz hrr k0 hka HE
 go_enter Tryz.func205,Tryz.ntmps205
 go_wp2_with fail;refine cR.mono ?_;rintro en w1 ⟨rfl,u1⟩;have k1:w1.cell? ⟨q,p,none⟩=some (.int .i64 ka):=by rw[←HKA.out];exact(HU.out.trans u1).cell HK.out
 have cP:=uQ (W:=W) (bw:=bw) k hk hB (HU.out.trans u1) (HW.out.up u1) hz1 hp;rw[HKA.out] at cP;clear u1 cR;go_wp2_with fail;refine cP.mono ?_;rintro en w2 ⟨⟨u,rfl⟩,u2,h2⟩;have H2:=Lib.hid h2;clear h2;go_wp2_with fail;go_end0;exact⟨⟨_,rfl⟩,u2,H2.out⟩
theorem zQd (s:ByteArray) (r:Int) (hB:W.heap.size≤bw) (hr:¬(2:Int)<r):WriAt W bw (nd 4 s .nil) r:=fun w ts v hv hu hw hz=>by
 have he:wiR r (nd 4 s .nil)=[nmT s]:=uR (t:=nd 4 s .nil) hr;have HE:Hid (ts++txt (wiR r (nd 4 s .nil))=ts++[s]):=Lib.hid (by rw[he];rfl);rw[HE.out];have cR:Calls Tryz.prog 234 #[v] w fun e w'=>e = .returned (.int .i64 2)∧Up w w':=vF hv hu
 obtain⟨q,p,A,c,rfl,hq,k0,k1,k2,-⟩:=InT.open hv;have HU:=Lib.hid hu;have HW:=Lib.hid hw;have HK:=Lib.hid k0;have HK2:=Lib.hid k2;have hz1:ts.length≤1000000:=by omega
 clear hv hu hw he hz k0 k1 k2 HE
 go_enter Tryz.func205,Tryz.ntmps205
 go_wp2_with fail;refine cR.mono ?_;rintro en w1 ⟨rfl,u1⟩;have k1:=(HU.out.trans u1).cell HK.out;have k2:=(HU.out.trans u1).cell HK2.out;have cP:=uS (W:=W) s hB (HU.out.trans u1) (HW.out.up u1) hz1;clear u1 cR;go_wp2_with fail;refine cP.mono ?_;rintro en w2 ⟨⟨u,rfl⟩,u2,h2⟩;have H2:=Lib.hid h2;clear h2;go_wp2_with fail;go_end0;exact⟨⟨_,rfl⟩,u2,H2.out⟩
theorem zAv (a b:Tr) (r:Int) (hB:W.heap.size≤bw) (hr:¬(0:Int)<r) (cA:WriAt W bw a 1) (cB:WriAt W bw b 0):WriAt W bw (nd 5 nob (fr2 a b)) r:=fun w ts v hv hu hw hz=>by
 have he:wiR r (nd 5 nob (fr2 a b))=wiR 1 a++(ky zI::wiR 0 b):=by rw[uR (t:=nd 5 nob (fr2 a b)) hr,fF,←yX4,sD b]
 have HE:Hid (ts++txt (wiR r (nd 5 nob (fr2 a b)))=((ts++txt (wiR 1 a))++[zI])++txt (wiR 0 b)):=Lib.hid (by rw[he,lY];simp[txt,ky]);have hzl:ts.length+(wiR 1 a).length+(wiR 0 b).length+1≤1000000:=by rw[he] at hz;simp only[List.length_cons,List.length_append] at hz;omega
 rw[HE.out];obtain⟨Z,hZ⟩:∃Z,((ts++txt (wiR 1 a))++[zI])++txt (wiR 0 b)=Z:=⟨_,rfl⟩;rw[hZ];have HZZ:=Lib.hid hZ;clear hZ;have cR:Calls Tryz.prog 234 #[v] w fun e w'=>e = .returned (.int .i64 0)∧Up w w':=vF hv hu
 obtain⟨q,p,A,c,rfl,hq,k0,k1,k2,k3,k4,hc,hkid⟩:=InT.open hv;obtain⟨kb,ko,rfl,hkb,⟨va,ka,ia⟩,⟨vb,kb',ib⟩,-⟩:=hkid (by show 0<2;omega);obtain⟨qa,pa,rfl⟩:=InT.ptr ia;obtain⟨qb,pb,rfl⟩:=InT.ptr ib;have k4:W.cell? ⟨q,p+4,none⟩=some (.slice (some ⟨kb,ko,none⟩) 2 c):=k4;have ka:W.cell? ⟨kb,ko,none⟩=some (.pointer (some ⟨qa,pa,none⟩)):=ka;have kb':W.cell? ⟨kb,ko+1,none⟩=some (.pointer (some ⟨qb,pb,none⟩)):=kb';have HIA:Hid (HasT W (.pointer (some ⟨qa,pa,none⟩)) (some a)):=Lib.hid ia;have HIB:Hid (HasT W (.pointer (some ⟨qb,pb,none⟩)) (some b)):=Lib.hid ib;have HU:=Lib.hid hu;have HW:=Lib.hid hw;have HK:=Lib.hid k0;have HK4:=Lib.hid k4;have HKA:=Lib.hid ka;have HKB:=Lib.hid kb';have HZ:=Lib.hid hzl;have HCA:=Lib.hid cA;have HCB:=Lib.hid cB;clear hv hu hw he hz k0 k1 k2 k3 k4 hkid ia ib ka kb' hzl cA cB HE
 go_enter Tryz.func205,Tryz.ntmps205
 go_wp2_with fail;refine cR.mono ?_;rintro en w1 ⟨rfl,u1⟩;have k0:=(HU.out.trans u1).cell HK.out;have k4:=(HU.out.trans u1).cell HK4.out;have ka:=(HU.out.trans u1).cell HKA.out;have cWA:=HCA.out w1 ts _ HIA.out (HU.out.trans u1) (HW.out.up u1) (by have:=HZ.out;omega);clear u1 cR;go_wp2_with fail;refine cWA.mono ?_;rintro en w2 ⟨⟨u,rfl⟩,u2,h2⟩;have cP:=uS (W:=W) zI hB u2 h2 (by rw[List.length_append,jI];have:=HZ.out;omega);have U2:=Lib.hid u2;clear u2 h2 cWA k0 k4 ka;go_wp2_with fail;refine cP.mono ?_;rintro en w3 ⟨⟨u,rfl⟩,u3,h3⟩;have k4:=u3.cell HK4.out;have kb':=u3.cell HKB.out;have cWB:=HCB.out w3 _ _ HIB.out u3 h3 (by simp only[List.length_append,jI,List.length_cons,List.length_nil];have:=HZ.out;omega);clear u3 h3 cP;go_wp2_with fail;refine cWB.mono ?_;rintro en w4 ⟨⟨u,rfl⟩,u4,h4⟩;have H4:=Lib.hid h4;clear h4;go_wp2_with fail;go_end0;exact⟨⟨_,rfl⟩,u4,by rw[←HZZ.out];exact H4.out⟩
theorem zAw (a b:Tr) (r:Int) (hB:W.heap.size≤bw) (hr:¬(1:Int)<r) (cA:WriAt W bw a 2) (cB:WriAt W bw b 1):WriAt W bw (nd 6 nob (fr2 a b)) r:=fun w ts v hv hu hw hz=>by
 have he:wiR r (nd 6 nob (fr2 a b))=wiR 2 a++(ky kStar::wiR 1 b):=by rw[uR (t:=nd 6 nob (fr2 a b)) hr,fG,←wiR_2,←yX4]
 have HE:Hid (ts++txt (wiR r (nd 6 nob (fr2 a b)))=((ts++txt (wiR 2 a))++[kStar])++txt (wiR 1 b)):=Lib.hid (by rw[he,lY];simp[txt,ky]);have hzl:ts.length+(wiR 2 a).length+(wiR 1 b).length+1≤1000000:=by rw[he] at hz;simp only[List.length_cons,List.length_append] at hz;omega
 rw[HE.out];obtain⟨Z,hZ⟩:∃Z,((ts++txt (wiR 2 a))++[kStar])++txt (wiR 1 b)=Z:=⟨_,rfl⟩;rw[hZ];have HZZ:=Lib.hid hZ;clear hZ;have cR:Calls Tryz.prog 234 #[v] w fun e w'=>e = .returned (.int .i64 1)∧Up w w':=vF hv hu
 obtain⟨q,p,A,c,rfl,hq,k0,k1,k2,k3,k4,hc,hkid⟩:=InT.open hv;obtain⟨kb,ko,rfl,hkb,⟨va,ka,ia⟩,⟨vb,kb',ib⟩,-⟩:=hkid (by show 0<2;omega);obtain⟨qa,pa,rfl⟩:=InT.ptr ia;obtain⟨qb,pb,rfl⟩:=InT.ptr ib;have k4:W.cell? ⟨q,p+4,none⟩=some (.slice (some ⟨kb,ko,none⟩) 2 c):=k4;have ka:W.cell? ⟨kb,ko,none⟩=some (.pointer (some ⟨qa,pa,none⟩)):=ka;have kb':W.cell? ⟨kb,ko+1,none⟩=some (.pointer (some ⟨qb,pb,none⟩)):=kb';have HIA:Hid (HasT W (.pointer (some ⟨qa,pa,none⟩)) (some a)):=Lib.hid ia;have HIB:Hid (HasT W (.pointer (some ⟨qb,pb,none⟩)) (some b)):=Lib.hid ib;have HU:=Lib.hid hu;have HW:=Lib.hid hw;have HK:=Lib.hid k0;have HK4:=Lib.hid k4;have HKA:=Lib.hid ka;have HKB:=Lib.hid kb';have HZ:=Lib.hid hzl;have HCA:=Lib.hid cA;have HCB:=Lib.hid cB;clear hv hu hw he hz k0 k1 k2 k3 k4 hkid ia ib ka kb' hzl cA cB HE
 go_enter Tryz.func205,Tryz.ntmps205
 go_wp2_with fail;refine cR.mono ?_;rintro en w1 ⟨rfl,u1⟩;have k0:=(HU.out.trans u1).cell HK.out;have k4:=(HU.out.trans u1).cell HK4.out;have ka:=(HU.out.trans u1).cell HKA.out;have cWA:=HCA.out w1 ts _ HIA.out (HU.out.trans u1) (HW.out.up u1) (by have:=HZ.out;omega);clear u1 cR;go_wp2_with fail;refine cWA.mono ?_;rintro en w2 ⟨⟨u,rfl⟩,u2,h2⟩;have cP:=uS (W:=W) kStar hB u2 h2 (by rw[List.length_append,jI];have:=HZ.out;omega);have U2:=Lib.hid u2;clear u2 h2 cWA k0 k4 ka;go_wp2_with fail;refine cP.mono ?_;rintro en w3 ⟨⟨u,rfl⟩,u3,h3⟩;have k4:=u3.cell HK4.out;have kb':=u3.cell HKB.out;have cWB:=HCB.out w3 _ _ HIB.out u3 h3 (by simp only[List.length_append,jI,List.length_cons,List.length_nil];have:=HZ.out;omega);clear u3 h3 cP;go_wp2_with fail;refine cWB.mono ?_;rintro en w4 ⟨⟨u,rfl⟩,u4,h4⟩;have H4:=Lib.hid h4;clear h4;go_wp2_with fail;go_end0;exact⟨⟨_,rfl⟩,u4,by rw[←HZZ.out];exact H4.out⟩
end
end Go.Proofs.YtbpijnalmakfaaaGreatDoor
