/-
  What is written of an expression is read as its tokens (plain).
-/
import Derived.Test.YtbpijnalmakfaaaGreatDoorGs39
namespace Go.Proofs.YtbpijnalmakfaaaGreatDoor
open Go.RowKit
structure TeOk (k:Te):Prop where
 ex:∃t:B.Tok,t.k=k.t.k∧B.T t.x=k.t.s∧t.n=k.n∧B.Made t∧B.okl t.x∧∀r∈t.x,B.rdb (r:Int)=true
def EKEYS:List (List Nat):=[[102,110],[58],[61,62],[108,101,116],[61],[105,110],[101,110,100],[105,102],[116,104,101,110],[101,108,115,101],[99,97,115,101],[102,111,108,100],[116,111],[60],[43],[45],[116,114,117,101],[102,97,108,115,101],[44],[35,49],[35,50],[40],[41],[42],[124],[111,102]]
theorem zKa:∀x∈EKEYS,B.tokT x=some (⟨3,x,0⟩,x.length):=by decide
theorem zTd:∀x∈EKEYS,∀r∈x,33≤r∧r≤126:=by decide
theorem oke (x:List Nat) (hx:x∈EKEYS) {s:ByteArray} (hs:B.T x=s):TeOk (ke s):=⟨⟨⟨3,x,0⟩,rfl,hs,rfl,⟨x,_,zKa x hx⟩,B.gB fun r hr=>by have:=zTd x hx r hr;omega,fun r hr=>B.rR (zTd x hx r hr)⟩⟩
theorem yUn:TeOk (ke kFn):=oke [102,110] (by decide) rfl
theorem zKb:TeOk (ke zQ):=oke [58] (by decide) rfl
theorem zN3:TeOk (ke kFat):=oke [61,62] (by decide) rfl
theorem yZ8:TeOk (ke kLet):=oke [108,101,116] (by decide) rfl
theorem zEe:TeOk (ke kEq):=oke [61] (by decide) rfl
theorem yUo:TeOk (ke kIn):=oke [105,110] (by decide) rfl
theorem zWd:TeOk (ke kEnd):=oke [101,110,100] (by decide) rfl
theorem yUp:TeOk (ke kIf):=oke [105,102] (by decide) rfl
theorem zEf:TeOk (ke kThen):=oke [116,104,101,110] (by decide) rfl
theorem zEg:TeOk (ke kElse):=oke [101,108,115,101] (by decide) rfl
theorem zEh:TeOk (ke kCase):=oke [99,97,115,101] (by decide) rfl
theorem zEi:TeOk (ke kFold):=oke [102,111,108,100] (by decide) rfl
theorem yUq:TeOk (ke kTo):=oke [116,111] (by decide) rfl
theorem zEj:TeOk (ke kLess):=oke [60] (by decide) rfl
theorem zEk:TeOk (ke kPlus):=oke [43] (by decide) rfl
theorem zKc:TeOk (ke vX):=oke [45] (by decide) rfl
theorem zEl:TeOk (ke kTrue):=oke [116,114,117,101] (by decide) rfl
theorem zKd:TeOk (ke yH):=oke [102,97,108,115,101] (by decide) rfl
theorem zKe:TeOk (ke qJ):=oke [44] (by decide) rfl
theorem yZ9:TeOk (ke kOne):=oke [35,49] (by decide) rfl
theorem yZa:TeOk (ke kTwo):=oke [35,50] (by decide) rfl
theorem lT:TeOk (ke kOpen):=oke [40] (by decide) rfl
theorem lU:TeOk (ke kShut):=oke [41] (by decide) rfl
theorem zEm:TeOk (ke kStar):=oke [42] (by decide) rfl
theorem yZb:TeOk (ke kBar):=oke [124] (by decide) rfl
theorem zEn:TeOk (ke kOf):=oke [111,102] (by decide) rfl
theorem yZc (k:Int):TeOk (ke (signB k)):=by
 unfold signB
 repeat' split
 ·exact zEk
 ·exact zKc
 ·exact zEm
 ·exact zEe
 ·exact zEj
theorem zTe {s:ByteArray} (h:B.long s=true):TeOk (ne s):=by
 obtain⟨x,h1,h2,h3,h4⟩:=B.zVl h;exact⟨⟨⟨1,x,0⟩,rfl,h1,rfl,⟨x,_,h3⟩,h2,h4⟩⟩
theorem lV {s:ByteArray} (h:B.nck s=true):TeOk (ne s):=zTe (oS h)
theorem zN4 {l:List Nat} {r:Nat} {t:List Nat} (e:l=r::t) (h:B.dig r=true∨r=126):B.tokT l=B.numT l:=by
 subst e;have hc:¬B.cls r=1:=by
  rcases h with h | h
  ·have:=(B.rM r).1 h
   unfold B.cls;omega
  ·subst h
   decide
 have h2:B.cls r=2∨r=126:=by
  rcases h with h | h
  ·have:=(B.rM r).1 h
   left
   unfold B.cls;omega
  ·exact .inr h
 show(if B.cls r=1 then B.nameT (r::t) else if B.cls r=2∨r=126 then B.numT (r::t) else if B.opens (r::t) then none else B.signT (r::t))=_
 rw[if_neg hc,if_pos h2]
theorem yZd (n:Int) (h1 : -1073741824≤n) (h2:n≤1073741824):TeOk ⟨⟨2,qD n⟩,n⟩:=by
 have ho:=B.zVh n ⟨h1,h2⟩ (y:=[]) (.inl rfl);rw[List.append_nil] at ho;refine⟨⟨⟨2,B.numb n,n⟩,rfl,rfl,rfl,⟨B.numb n,(B.numb n).length,?_⟩,B.gB fun r hr=>by have:=B.eV n r hr;omega,fun r hr=>B.rR (B.eV n r hr)⟩⟩;rw[←ho]
 by_cases hn:n<0
 ·have e1:B.numb n=126::B.dgs n.natAbs:=by unfold B.numb;rw[if_pos hn]
  exact zN4 e1 (.inr rfl)
 ·have e1:B.numb n=B.dgs n.toNat:=by unfold B.numb;rw[if_neg hn]
  cases hd:B.dgs n.toNat with
  | nil=>exact absurd hd (B.zYx _)
  | cons r t=>
   exact zN4 (by rw[e1,hd]) (.inl ((B.rM r).2 (B.jH _ r (by rw[hd];exact List.mem_cons_self ..))))
theorem oT {b:Bool} {ts:List Te} (h:∀x∈ts,TeOk x):∀x∈wie b ts,TeOk x:=fun x hx=>by
 cases b with
 | false=>exact h x hx
 | true=>
  rcases List.mem_cons.1 hx with rfl | hx
  ·exact lT
  ·rcases List.mem_append.1 hx with hx | hx
   ·exact h x hx
   ·rw[List.mem_singleton.1 hx];exact lU
theorem qR {a:Te} {ts:List Te} (ha:TeOk a) (h:∀x∈ts,TeOk x):∀x∈a::ts,TeOk x:=fun x hx=>by
 rcases List.mem_cons.1 hx with rfl | hx
 ·exact ha
 ·exact h x hx
theorem xI {a b:List Te} (ha:∀x∈a,TeOk x) (hb:∀x∈b,TeOk x):∀x∈a++b,TeOk x:=fun x hx=>by
 rcases List.mem_append.1 hx with hx | hx
 ·exact ha x hx
 ·exact hb x hx
theorem nP:∀x∈([]:List Te),TeOk x:=fun x hx=>by cases hx
theorem yUr {d:List Nat} {u:B.Tok} {m:Nat} (h:B.tokT d=some (u,m)) (hk:¬u.k=2):u.n=0:=by
 cases d with
 | nil=>cases h
 | cons r t=>
  have h:(if B.cls r=1 then B.nameT (r::t) else if B.cls r=2∨r=126 then B.numT (r::t) else if B.opens (r::t) then none else B.signT (r::t))=some (u,m):=h
  split at h
  ·unfold B.nameT at h
   repeat' split at h
   all_goals first
    | (cases h;done)
    | (injection h with h;injection h with h _;subst h;rfl)
  ·split at h
   ·exfalso
    have hd:∀(b:Bool) (x:List Nat),B.digT b x=some (u,m)→u.k=2:=fun b x hx=>by
     unfold B.digT at hx
     repeat' split at hx
     all_goals first
      | (cases hx;done)
      | (injection hx with hx;injection hx with hx _;subst hx;rfl)
    unfold B.numT at h
    split at h
    ·exact hk (hd _ _ h)
    ·exact hk (hd _ _ h)
   ·split at h
    ·cases h
    ·unfold B.signT at h
     obtain⟨x,_,hx⟩:=Option.map_eq_some_iff.1 h;injection hx with hx _;subst hx
     rfl
theorem oU:∀(f:Fr),(∀(j:Nat) t,f.get j=some t→∀x∈tkT t,¬x.k=2)→∀x∈bars (segF f),¬x.k=2
 | .nil,_,x,hx=>by cases hx
 | .cons y k .nil,h,x,hx=>h 0 (y,k) rfl x hx
 | .cons y k (.cons z m q),h,x,hx=>by
  have e:bars (segF (.cons y k (.cons z m q)))=tkT (y,k)++ky kBar::bars (segF (.cons z m q)):=rfl;rw[e] at hx
  rcases List.mem_append.1 hx with hx | hx
  ·exact h 0 (y,k) rfl x hx
  ·rcases List.mem_cons.1 hx with rfl | hx
   ·show ¬(3:Int)=2;decide
   ·exact oU (.cons z m q) (fun j t hj=>h (j+1) t hj) x hx
theorem oV (s:ByteArray):¬(ky s).k=2:=by show ¬(3:Int)=2;decide
theorem yUs (s:ByteArray):¬(nmT s).k=2:=by show ¬(1:Int)=2;decide
theorem yUt {b:Bool} {ts:List Tk} (h:∀x∈ts,¬x.k=2):∀x∈wi b ts,¬x.k=2:=fun x hx=>by
 rcases zEa hx with h1 | rfl | rfl
 ·exact h x h1
 ·exact oV _
 ·exact oV _
theorem zTf:∀(n:Nat) (t:Tr),szT t≤n→isT B.nck B.long t 1=true→∀x∈tkT t,¬x.k=2
 | 0,t,h,_=>absurd h (by unfold szT;omega)
 | n+1,t,h,ht=>by
  have ih:=zTf n
  cases vP ht with
  | leaf k hk=>
   rcases hk with rfl | rfl | rfl<;>intro x hx
   ·rw[List.mem_singleton.1 (show x∈[ky kInt] from hx)];exact oV _
   ·rw[List.mem_singleton.1 (show x∈[ky kBool] from hx)];exact oV _
   ·rw[List.mem_singleton.1 (show x∈[ky kUnit] from hx)];exact oV _
  | name s hs=>
   intro x hx;rw[List.mem_singleton.1 (show x∈[nmT s] from hx)];exact yUs _
  | two k hk a b hA hB=>
   have hz:szT (nd k nob (fr2 a b))=1+(szT a+szT b):=by unfold szT;simp only[nd,fr2,fr1,Fr.sz];omega
   have iA:=ih a (by omega) hA;have iB:=ih b (by omega) hB
   rcases hk with rfl | rfl
   ·rw[fJ]
    intro x hx
    rcases List.mem_append.1 hx with hx | hx
    ·exact yUt iA x hx
    ·rcases List.mem_cons.1 hx with rfl | hx
     ·exact oV _
     ·exact iB x hx
   ·rw[fK]
    intro x hx
    rcases List.mem_append.1 hx with hx | hx
    ·exact yUt iA x hx
    ·rcases List.mem_cons.1 hx with rfl | hx
     ·exact oV _
     ·exact yUt iB x hx
  | mu s hs c hc h0=>
   have hz:szT (nd 7 s c)=1+c.sz:=rfl;have hb:=oU c fun j t' hj=>by
    obtain⟨s',u,rfl,hs',hu⟩:=vS (wZ hc.1 hj);have hg:=Fr.get_sz hj;have hz2:szT (nd 8 s' (fr1 u))=1+szT u:=by unfold szT;simp only[nd,fr1,Fr.sz];omega
    have iu:=ih u (by omega) hu;rw[fP];intro x hx
    rcases List.mem_cons.1 hx with rfl | hx
    ·exact yUs _
    ·rcases List.mem_cons.1 hx with rfl | hx
     ·exact oV _
     ·exact iu x hx
   rw[tN];intro x hx
   rcases List.mem_cons.1 hx with rfl | hx
   ·exact oV _
   ·rcases List.mem_cons.1 hx with rfl | hx
    ·exact yUs _
    ·rcases List.mem_cons.1 hx with rfl | hx
     ·exact oV _
     ·rcases List.mem_append.1 hx with hx | hx
      ·exact hb x hx
      ·rw[List.mem_singleton.1 hx];exact oV _
theorem yYt {t:Tr} (h:isT B.nck B.long t 1=true):∀x∈tyE (tkT t),TeOk x:=fun x hx=>by
 obtain⟨k,hk,rfl⟩:=List.mem_map.1 hx;obtain⟨u,e1,e2,⟨d,m,hd⟩,e4,e5⟩:=(zEd _ t (Nat.le_refl _) h k hk).ex;have hn:u.n=0:=yUr hd (by rw[e1];exact zTf _ t (Nat.le_refl _) h k hk);exact⟨⟨u,e1,e2,hn,⟨d,m,hd⟩,e4,e5⟩⟩
theorem zWe:∀(f:Fr),ArmOk B.nck B.long f→(∀t,szT t<f.sz→isT B.nck B.long t 2=true→∀x∈tkE qD t,TeOk x)→∀x∈barsE (yQ qD f),TeOk x
 | .nil,_,_,x,hx=>by cases hx
 | .cons y k r,hok,ih,x,hx=>by
  obtain⟨h9,hr⟩:=zVp hok;obtain⟨c,z,b,hxb,hc,hz,hb⟩:=jW h9;injection hxb with e1 e2;subst e1;subst e2;have hzz:(Fr.cons ⟨34,0,c,z⟩ (fr1 b) r).sz=1+szT b+r.sz:=by unfold szT;simp only[fr1,Fr.sz];omega
  have fu:=ih b (by omega) hb;have es:yQ qD (.cons ⟨34,0,c,z⟩ (fr1 b) r)=(ne c::ne z::ke kFat::tkE qD b)::yQ qD r:=by unfold yQ;rw[sG hb];rfl
  have f1:=qR (lV hc) (qR (lV hz) (qR zN3 fu));rw[es] at hx
  cases r with
  | nil=>exact f1 x hx
  | cons y2 m q=>
   have f2:=zWe (.cons y2 m q) hr (fun t ht=>ih t (by omega));exact xI f1 (qR yZb f2) x hx
theorem zWf:∀(n:Nat) (t:Tr),szT t≤n→isT B.nck B.long t 2=true→∀x∈tkE qD t,TeOk x
 | 0,t,h,_=>absurd h (by unfold szT;omega)
 | n+1,t,h,ht=>by
  have ih:=zWf n
  cases vQ ht with
  | num k h1 h2=>rw[iF];exact qR (yZd k h1 h2) nP
  | boo k hk=>
   rw[rZ];refine qR ?_ nP
   split
   ·exact zEl
   ·exact zKd
  | unit=>rw[tQ];exact qR lT (qR lU nP)
  | var s hs=>rw[iG];exact qR (zTe hs) nP
  | lam s hs a b hA hB=>
   have hz:szT (nd 24 s (fr2 a b))=1+(szT a+szT b):=qT _ a b;rw[dA hA hB];exact qR yUn (qR lT (qR (lV hs) (qR zKb (xI (yYt hA) (qR lU (qR zN3 (ih b (by omega) hB)))))))
  | app a b hA hB=>
   have hz:szT (nd 25 nob (fr2 a b))=1+(szT a+szT b):=qT _ a b;rw[dB hA hB];exact xI (oT (ih a (by omega) hA)) (oT (ih b (by omega) hB))
  | pair a b hA hB=>
   have hz:szT (nd 26 nob (fr2 a b))=1+(szT a+szT b):=qT _ a b;rw[nX hA hB];exact qR lT (xI (ih a (by omega) hA) (qR zKe (xI (ih b (by omega) hB) (qR lU nP))))
  | sel k hk a hA=>
   have hz:szT (nd k nob (fr1 a))=1+szT a:=vY _ a;rw[dC hk hA];refine qR ?_ (oT (ih a (by omega) hA))
   rcases hk with rfl | rfl
   ·exact yZ9
   ·exact yZa
  | letE s hs a b hA hB=>
   have hz:szT (nd 29 s (fr2 a b))=1+(szT a+szT b):=qT _ a b;rw[dD hA hB];exact qR yZ8 (qR (lV hs) (qR zEe (xI (ih a (by omega) hA) (qR yUo (xI (ih b (by omega) hB) (qR zWd nP))))))
  | ifE a b c hA hB hC=>
   have hz:szT (nd 30 nob (fr3 a b c))=1+(szT a+szT b+szT c):=nE _ a b c;rw[zZ8 hA hB hC];exact qR yUp (xI (ih a (by omega) hA) (qR zEf (xI (ih b (by omega) hB) (qR zEg (ih c (by omega) hC)))))
  | op k h1 h2 a b hA hB=>
   have hz:szT (opN k,fr2 a b)=1+(szT a+szT b):=qT _ a b;rw[zZ9 hA hB];exact xI (oT (ih a (by omega) hA)) (qR (yZc k) (oT (ih b (by omega) hB)))
  | caseE a hA k hk h0=>
   have hz:szT (nd 32 nob (.cons a.1 a.2 k))=1+(szT a+k.sz):=rfl;rw[nY hA];exact qR zEh (xI (ih a (by omega) hA) (qR zEn (xI (zWe k hk fun t ht h=>ih t (by omega) h) (qR zWd nP))))
  | foldE a t hA hT k hk h0=>
   have hz:szT (nd 33 nob (.cons a.1 a.2 (.cons t.1 t.2 k)))=1+(szT a+(szT t+k.sz)):=rfl;rw[nZ hA hT];exact qR zEi (xI (ih a (by omega) hA) (qR yUq (xI (yYt hT) (qR zEn (xI (zWe k hk fun t ht h=>ih t (by omega) h) (qR zWd nP))))))
theorem zTg:∀(ts:List Te),(∀x∈ts,TeOk x)→∃us:List B.Tok,us.map (fun u=>(⟨⟨u.k,B.T u.x⟩,u.n⟩:Te))=ts∧(∀u∈us,B.Made u)∧(∀u∈us,B.okl u.x∧∀r∈u.x,B.rdb (r:Int)=true)
 | [],_=>⟨[],rfl,(fun u h=>by cases h),(fun u h=>by cases h)⟩
 | k::ts,h=>by
  obtain⟨us,h1,h2,h3⟩:=zTg ts fun x hx=>h x (List.mem_cons_of_mem _ hx)
  obtain⟨u,e1,e2,e0,e3,e4,e5⟩:=(h k (List.mem_cons_self ..)).ex;refine⟨u::us,?_,?_,?_⟩
  ·rw[List.map_cons,h1,e1,e2,e0]
  ·intro x hx
   rcases List.mem_cons.1 hx with rfl | hx
   ·exact e3
   ·exact h2 x hx
  ·intro x hx
   rcases List.mem_cons.1 hx with rfl | hx
   ·exact⟨e4,e5⟩
   ·exact h3 x hx
theorem zY1 {ts:List Te} (h:∀x∈ts,TeOk x) (hz:(tB (tks ts)).size≤16384):∃r,B.lexR (tB (tks ts))=(r,0,0)∧r.map teq=ts:=by
 obtain⟨us,h1,h2,h3⟩:=zTg ts h;obtain⟨r,h4,h5⟩:=B.zIu us 0 h2;have hT:tB (tks ts)=B.T (B.jnL (us.map (·.x))):=by
  unfold tB B.T;rw[B.zIv,←lG,←h1];have e:(txt (tks (us.map fun u=>(⟨⟨u.k,B.T u.x⟩,u.n⟩:Te)))).map (fun x=>x.data.toList)=(us.map (·.x)).map B.enc:=by
   simp[txt,tks,B.kA]
  rw[e]
 have hok:∀r∈B.jnL (us.map (·.x)),B.ok r∧B.rdb (r:Int)=true:=by
  intro r hr
  rcases B.zIw _ r hr with rfl | ⟨x,hx,hrx⟩
  ·exact⟨B.gB (l:=[32]) (by decide) 32 (by simp),by decide⟩
  ·obtain⟨u,hu,rfl⟩:=List.mem_map.1 hx
   exact⟨(h3 u hu).1 r hrx,(h3 u hu).2 r hrx⟩
 have hs:B.sz (B.jnL (us.map (·.x)))≤16384:=by
  rw[←B.qV,←hT];exact hz
 refine⟨r,?_,?_⟩
 ·rw[hT,B.yXs (fun r hr=>(hok r hr).1) (fun r hr=>(hok r hr).2) hs,h4]
 ·have e:r.map teq=(r.map (·.1)).map fun u=>(⟨⟨u.k,B.T u.x⟩,u.n⟩:Te):=by rw[List.map_map];rfl
  rw[e,h5,h1]
end Go.Proofs.YtbpijnalmakfaaaGreatDoor
