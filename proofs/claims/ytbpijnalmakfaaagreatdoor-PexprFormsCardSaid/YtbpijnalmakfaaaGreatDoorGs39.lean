/-
  Plain: a type's tokens, with just the signs that the grammar needs; parsed, they are the type, whole.
-/
import Derived.Test.YtbpijnalmakfaaaGreatDoorGs08
import Derived.Test.YtbpijnalmakfaaaGreatDoorGs10
import Derived.Test.YtbpijnalmakfaaaGreatDoorGs36
import Derived.Test.YtbpijnalmakfaaaGreatDoorGs37
namespace Go.Proofs.YtbpijnalmakfaaaGreatDoor
def At (l:List Tk) (i:Nat) (ts:List Tk):Prop:=∃r,l.drop i=ts++r
theorem At.left {l a b:List Tk} {i:Nat} (h:At l i (a++b)):At l i a:=by
 obtain⟨r,h⟩:=h;exact⟨b++r,by rw[h,List.append_assoc]⟩
theorem At.right {l a b:List Tk} {i:Nat} (h:At l i (a++b)):At l (i+a.length) b:=by
 obtain⟨r,h⟩:=h;refine⟨r,?_⟩;rw[←List.drop_drop,h,List.append_assoc,List.drop_left]
theorem At.tail {l a:List Tk} {i:Nat} {x:Tk} (h:At l i (x::a)):At l (i+1) a:=At.right (a:=[x]) h
theorem At.head {l a:List Tk} {i:Nat} {x:Tk} (h:At l i (x::a)):l[i]? = some x:=by
 obtain⟨r,h⟩:=h;have e:(l.drop i)[0]? = l[i+0]?:=List.getElem?_drop;rw[h] at e;exact e.symm
theorem oR {p:ByteArray→Bool} {l:List Tk} {i:Nat} {s:ByteArray} (h:l[i]? = some (nmT s)) (hp:p s=true):nam p l i=some s:=by
 unfold nam;rw[h]
 show(if (decide ((1:Int)=1)&&p s)=true then some s else none)=some s
 rw[hp]
 rfl
section
variable {nk lg:ByteArray→Bool}
theorem yUf {l:List Tk} {i:Nat} (h:l[i]? = some (ky kInt)):atomL nk lg l i = .inl (nd 1 nob .nil,i+1):=by
 rw[zU];unfold atomS;rw[dU h,zN h];rfl
theorem yUg {l:List Tk} {i:Nat} (h:l[i]? = some (ky kBool)):atomL nk lg l i = .inl (nd 2 nob .nil,i+1):=by
 rw[zU];unfold atomS;rw[dU h,zN h,zN h];rfl
theorem yUh {l:List Tk} {i:Nat} (h:l[i]? = some (ky kUnit)):atomL nk lg l i = .inl (nd 3 nob .nil,i+1):=by
 rw[zU];unfold atomS;rw[dU h,zN h,zN h,zN h];rfl
theorem yUi {l:List Tk} {i:Nat} {s:ByteArray} (h:l[i]? = some (nmT s)) (hs:lg s=true):atomL nk lg l i = .inl (nd 4 s .nil,i+1):=by
 rw[zU];unfold atomS;rw[oR h hs]
theorem yUj {l:List Tk} {i j:Nat} {t:Tr} (h:l[i]? = some (ky kOpen)) (ht:typL nk lg l (i+1) = .inl (t,j)) (hj:l[j]? = some (ky kShut)):atomL nk lg l i = .inl (t,j+1):=by
 rw[zU];unfold atomS;rw[dU h,zN h,zN h,zN h,zN h,ht]
 show(if key l j kShut=true then _ else _)=_
 rw[zN hj];rfl
theorem yUk {l:List Tk} {i j:Nat} {s:ByteArray} {c:Fr} (h:l[i]? = some (ky kMu)) (h1:l[i+1]? = some (nmT s)) (hs:nk s=true) (h2:l[i+2]? = some (ky kLeft)) (hc:consL nk lg l (i+3) .nil = .inl (c,j)) (hj:l[j]? = some (ky zY)) :
  atomL nk lg l i = .inl (nd 7 s c,j+1):=by
 rw[zU];unfold atomS;rw[dU h,zN h,zN h,zN h,zN h,zN h,oR h1 hs,zN h2,hc]
 show(if key l j zY=true then _ else _)=_
 rw[zN hj];rfl
theorem eC {l:List Tk} {i j:Nat} {t:Tr} (h:atomL nk lg l i = .inl (t,j)) (hk:key l j kStar=false):prodL nk lg l i = .inl (t,j):=by
 rw[tM,h];unfold typS;simp only;rw[hk];rfl
theorem zE7 {l:List Tk} {i j:Nat} {t:Tr} (h:prodL nk lg l i = .inl (t,j)) (hk:key l j zM=false):typL nk lg l i = .inl (t,j):=by
 rw[aF,h];unfold typS;simp only;rw[hk];rfl
theorem yUl {l:List Tk} {i j m:Nat} {a b:Tr} (h:atomL nk lg l i = .inl (a,j)) (hk:l[j]? = some (ky kStar)) (hb:prodL nk lg l (j+1) = .inl (b,m)):prodL nk lg l i = .inl (nd 6 nob (fr2 a b),m):=by
 rw[tM,h];unfold typS;simp only;rw[zN hk,hb];rfl
theorem typ_5 {l:List Tk} {i j m:Nat} {a b:Tr} (h:prodL nk lg l i = .inl (a,j)) (hk:l[j]? = some (ky zM)) (hb:typL nk lg l (j+1) = .inl (b,m)):typL nk lg l i = .inl (nd 5 nob (fr2 a b),m):=by
 rw[aF,h];unfold typS;simp only;rw[zN hk,hb];rfl
structure Back (nk lg:ByteArray→Bool) (t:Tr):Prop where
 at_:∀l i,At l i (tkT t)→nD t.1=false→atomL nk lg l i = .inl (t,i+(tkT t).length)
 pr:∀l i,At l i (tkT t)→is5 t.1=false→key l (i+(tkT t).length) kStar=false→prodL nk lg l i = .inl (t,i+(tkT t).length)
 ty:∀l i,At l i (tkT t)→key l (i+(tkT t).length) kStar=false→key l (i+(tkT t).length) zM=false→typL nk lg l i = .inl (t,i+(tkT t).length)
theorem Back.of_atom {t:Tr} (h:∀l i,At l i (tkT t)→atomL nk lg l i = .inl (t,i+(tkT t).length)):Back nk lg t:=
 ⟨fun l i ha _=>h l i ha,fun l i ha _ hs=>eC (h l i ha) hs,fun l i ha hs hr=>zE7 (eC (h l i ha) hs) hr⟩
theorem zWb {t:Tr} (h:Back nk lg t) {b:Bool} (hb:b=false→nD t.1=false) {l:List Tk} {i:Nat} (ha:At l i (wi b (tkT t))):atomL nk lg l i = .inl (t,i+(wi b (tkT t)).length):=by
 cases b with
 | false=>exact h.at_ l i ha (hb rfl)
 | true=>
  have ha:At l i (ky kOpen::(tkT t++[ky kShut])):=ha;have h1:=ha.tail.left;have h2:=ha.tail.right.head;have e:(wi true (tkT t)).length=(tkT t).length+2:=by show(ky kOpen::(tkT t++[ky kShut])).length=_;simp
  rw[e];have hk:=h.ty l (i+1) h1 (by rw[zN h2];decide) (by rw[zN h2];decide);have:=yUj ha.head hk h2;rw[this]
  congr 2
  omega
theorem zOy:∀(acc:Fr) (x:Nod) (k r:Fr),kC (infF nk lg (acc.app (.cons x k r)))=true→hasN acc x.a=false
 | .nil,_,_,_,_=>rfl
 | .cons y m q,x,k,r,h=>by
  have h:(((infF nk lg (q.app (.cons x k r))).all fun j=>decide (y.a≠j.a))&&kC (infF nk lg (q.app (.cons x k r))))=true:=h;rw[Bool.and_eq_true] at h;unfold hasN;rw[zOy q x k r h.2,Bool.or_false,decide_eq_false_iff_not];have h1:=h.1;rw[lR,List.all_append,Bool.and_eq_true] at h1;have h2:(decide (y.a≠x.a)&&(infF nk lg r).all fun j=>decide (y.a≠j.a))=true:=h1.2;rw[Bool.and_eq_true] at h2;exact of_decide_eq_true h2.1
theorem zZz:∀(f acc:Fr) (l:List Tk) (i:Nat),0<f.len→ConOk nk lg (acc.app f)→(∀t,szT t<f.sz→isT nk lg t 1=true→Back nk lg t)→At l i (bars ((tkF f).map (·.2)))→
  key l (i+(bars ((tkF f).map (·.2))).length) kStar=false→key l (i+(bars ((tkF f).map (·.2))).length) zM=false→key l (i+(bars ((tkF f).map (·.2))).length) kBar=false→
  consL nk lg l i acc = .inl (acc.app f,i+(bars ((tkF f).map (·.2))).length)
 | .nil,_,_,_,h,_,_,_,_,_,_=>absurd h (Nat.lt_irrefl _)
 | .cons x k r,acc,l,i,_,hok,ih,ha,hS,hA,hB=>by
  have h8:isT nk lg (x,k) 8=true:=by
   have:=hok.1;rw[lR,List.all_append,Bool.and_eq_true] at this;have h:(isT nk lg (x,k) 8&&(infF nk lg r).all fun i=>i.is 8)=true:=this.2;rw[Bool.and_eq_true] at h;exact h.1
  obtain⟨s,u,hxu,hs,hu⟩:=vS h8;injection hxu with h1 h2;subst h1;subst h2;have hn:=zOy acc _ _ _ hok.2;have hz:szT u<(Fr.cons ⟨8,0,s,nob⟩ (fr1 u) r).sz:=by unfold szT;simp only[fr1,Fr.sz];omega
  have hb:=ih u hz hu;have hn:hasN acc s=false:=hn
  cases r with
  | nil=>
   have ha:At l i (nmT s::ky kOf::tkT u):=ha;have e:(bars ((tkF (.cons ⟨8,0,s,nob⟩ (fr1 u) .nil)).map (·.2))).length=(tkT u).length+2:=rfl;rw[e] at hS hA hB ⊢;have e2:i+((tkT u).length+2)=i+2+(tkT u).length:=by omega
   rw[e2] at hS hA hB ⊢;have ht:=hb.ty l (i+2) ha.tail.tail hS hA;rw[vR];unfold consS;rw[oR ha.head hs];simp only;rw[hn,zN ha.tail.head,ht];simp only[hB]
   rfl
  | cons y m q=>
   have ha:At l i ((nmT s::ky kOf::tkT u)++ky kBar::bars ((tkF (.cons y m q)).map (·.2))):=ha;have e:(bars ((tkF (.cons ⟨8,0,s,nob⟩ (fr1 u) (.cons y m q))).map (·.2))).length=(tkT u).length+3+(bars ((tkF (.cons y m q)).map (·.2))).length:=by
    show((nmT s::ky kOf::tkT u)++ky kBar::bars ((tkF (.cons y m q)).map (·.2))).length=_
    simp only[List.length_append,List.length_cons];omega
   rw[e] at hS hA hB ⊢;have h0:=ha.left;have hr:=ha.right;have e1:i+(nmT s::ky kOf::tkT u).length=i+2+(tkT u).length:=by simp only[List.length_cons];omega
   rw[e1] at hr;have hbar:=hr.head;have ht:=hb.ty l (i+2) h0.tail.tail (by rw[zN hbar];decide) (by rw[zN hbar];decide);have e2:i+((tkT u).length+3+(bars ((tkF (.cons y m q)).map (·.2))).length)=i+2+(tkT u).length+1+(bars ((tkF (.cons y m q)).map (·.2))).length:=by omega
   rw[e2] at hS hA hB ⊢;have ea:(acc.app (fr1 (nd 8 s (fr1 u)))).app (.cons y m q)=acc.app (.cons ⟨8,0,s,nob⟩ (fr1 u) (.cons y m q)):=by rw[Fr.app_assoc];rfl
   have hc:=zZz (.cons y m q) (acc.app (fr1 (nd 8 s (fr1 u)))) l (i+2+(tkT u).length+1) (Nat.succ_pos _) (by rw[ea];exact hok) (fun t hz=>ih t (by simp only[fr1,Fr.sz] at hz ⊢;omega)) hr.tail hS hA hB;rw[vR];unfold consS;rw[oR h0.head hs];simp only;rw[hn,zN h0.tail.head,ht];simp only[zN hbar];rw[←ea];exact hc
theorem zTc:∀(n:Nat) (t:Tr),szT t≤n→isT nk lg t 1=true→Back nk lg t
 | 0,t,h,_=>absurd h (by unfold szT;omega)
 | n+1,t,hn,h=>by
  have ih:=zTc n
  cases vP h with
  | leaf k hk=>
   refine Back.of_atom fun l i ha=>?_
   rcases hk with rfl | rfl | rfl
   ·exact yUf ha.head
   ·exact yUg ha.head
   ·exact yUh ha.head
  | name s hs=>exact Back.of_atom fun l i ha=>yUi ha.head hs
  | two k hk a b hA hB=>
   have hz:szT (nd k nob (fr2 a b))=1+(szT a+szT b):=by unfold szT;simp only[nd,fr2,fr1,Fr.sz];omega
   have bA:=ih a (by unfold szT at *;omega) hA;have bB:=ih b (by unfold szT at *;omega) hB
   rcases hk with rfl | rfl
   ·refine⟨(fun l i _ h=>by cases h),(fun l i _ h=>by cases h),fun l i ha hS hR=>?_⟩
    rw[fJ] at ha hS hR ⊢;have e:(wi (is5 a.1) (tkT a)++ky zM::tkT b).length=(wi (is5 a.1) (tkT a)).length+1+(tkT b).length:=by simp only[List.length_append,List.length_cons];omega
    have e1:i+(wi (is5 a.1) (tkT a)++ky zM::tkT b).length=i+(wi (is5 a.1) (tkT a)).length+1+(tkT b).length:=by omega
    rw[e1] at hS hR ⊢;have hk:=ha.right.head;have hp:prodL nk lg l i = .inl (a,i+(wi (is5 a.1) (tkT a)).length):=by
     cases h5:is5 a.1 with
     | false=>rw[h5] at ha hk;exact bA.pr l i ha.left h5 (by rw[show(tkT a).length=(wi false (tkT a)).length from rfl,zN hk];decide)
     | true=>rw[h5] at ha hk;exact eC (zWb bA (fun h=>by cases h) ha.left) (by rw[zN hk];decide)
    exact typ_5 hp hk (bB.ty l _ ha.right.tail hS hR)
   ·have key6:∀l i,At l i (tkT (nd 6 nob (fr2 a b)))→key l (i+(tkT (nd 6 nob (fr2 a b))).length) kStar=false→prodL nk lg l i = .inl (nd 6 nob (fr2 a b),i+(tkT (nd 6 nob (fr2 a b))).length):=fun l i ha hS=>by
     rw[fK] at ha hS ⊢;have e1:i+(wi (nD a.1) (tkT a)++ky kStar::wi (is5 b.1) (tkT b)).length=i+(wi (nD a.1) (tkT a)).length+1+(wi (is5 b.1) (tkT b)).length:=by simp only[List.length_append,List.length_cons];omega
     rw[e1] at hS ⊢;have hk:=ha.right.head;refine yUl (zWb bA (fun h=>h) ha.left) hk ?_
     cases h5:is5 b.1 with
     | false=>rw[h5] at ha hS;exact bB.pr l _ ha.right.tail h5 hS
     | true=>rw[h5] at ha hS;exact eC (zWb bB (fun h=>by cases h) ha.right.tail) hS
    exact⟨(fun l i _ h=>by cases h),fun l i ha _ hS=>key6 l i ha hS,fun l i ha hS hR=>zE7 (key6 l i ha hS) hR⟩
  | mu s hs c hc h0=>
   refine Back.of_atom fun l i ha=>?_
   rw[tN] at ha ⊢;have h1:=ha.tail;have h2:=h1.tail;have h3:=h2.tail;have hr:=h3.right.head;have hz:szT (nd 7 s c)=1+c.sz:=rfl;have hcc:=zZz c .nil l (i+3) h0 hc (fun t ht=>ih t (by omega)) h3.left (by rw[zN hr];decide) (by rw[zN hr];decide) (by rw[zN hr];decide);have:=yUk ha.head h1.head hs h2.head hcc hr;rw[this];have e1:(ky kMu::nmT s::ky kLeft::(bars ((tkF c).map (·.2))++[ky zY])).length=(bars ((tkF c).map (·.2))).length+4:=by simp only[List.length_append,List.length_cons,List.length_nil]
   rw[e1];have e2:i+3+(bars ((tkF c).map (·.2))).length+1=i+((bars ((tkF c).map (·.2))).length+4):=by omega
   rw[e2]
   rfl
end
section
variable (nb:Int→ByteArray)
end
def AtE (l:List Te) (i:Nat) (ts:List Te):Prop:=∃r,l.drop i=ts++r
theorem AtE.left {l a b:List Te} {i:Nat} (h:AtE l i (a++b)):AtE l i a:=by
 obtain⟨r,h⟩:=h;exact⟨b++r,by rw[h,List.append_assoc]⟩
theorem AtE.right {l a b:List Te} {i:Nat} (h:AtE l i (a++b)):AtE l (i+a.length) b:=by
 obtain⟨r,h⟩:=h;refine⟨r,?_⟩;rw[←List.drop_drop,h,List.append_assoc,List.drop_left]
theorem AtE.tail {l a:List Te} {i:Nat} {x:Te} (h:AtE l i (x::a)):AtE l (i+1) a:=AtE.right (a:=[x]) h
theorem AtE.head {l a:List Te} {i:Nat} {x:Te} (h:AtE l i (x::a)):l[i]? = some x:=by
 obtain⟨r,h⟩:=h;have e:(l.drop i)[0]? = l[i+0]?:=List.getElem?_drop;rw[h] at e;exact e.symm
theorem AtE.len {l ts:List Te} {i:Nat} (h:AtE l i ts) (h0:ts≠[]):i+ts.length≤l.length:=by
 obtain⟨r,h⟩:=h;have h1:=congrArg List.length h;rw[List.length_drop,List.length_append] at h1;have:0<ts.length:=List.length_pos_iff.2 h0;omega
theorem AtE.tks {l ts:List Te} {i:Nat} (h:AtE l i ts):At (tks l) i (Proofs.YtbpijnalmakfaaaGreatDoor.tks ts):=by
 obtain⟨r,h⟩:=h;refine⟨Proofs.YtbpijnalmakfaaaGreatDoor.tks r,?_⟩;rw[←yP,←h];exact(List.map_drop ..).symm
section
variable {nk lg:ByteArray→Bool} {l:List Te}
theorem zE8 {p:ByteArray→Bool} {i:Nat} {s:ByteArray} (h:l[i]? = some (ne s)) (hp:p s=true):nam p (tks l) i=some s:=oR (by rw[kD,h];rfl) hp
theorem yUm {i:Nat} {k m:ByteArray} (h:l[i]? = some (ke k)) (h2:l[i+1]? = some (ke m)):keysL (tks l) i [k,m] = .inl ((),i+2):=by
 unfold keysL;rw[yE h,decide_eq_true rfl];exact sN h2
theorem yZ6 {α:Type} {R:Rs α} {a:α} {j:Nat} {k m:ByteArray} (hR:R = .inl (a,j)) (h:l[j]? = some (ke k)) (h2:l[j+1]? = some (ke m)):thenK (tks l) R [k,m] = .inl (a,j+2):=by
 rw[hR]
 show thn (keysL (tks l) j [k,m]) _=_
 rw[yUm h h2]
 rfl
theorem zOz {p:ByteArray→Bool} {i:Nat} {s:ByteArray} (h:l[i]? = some (ne s)) (hp:p s=true):nameQ p (tks l) i [] = .inl (s,i+1):=by
 unfold nameQ;rw[zE8 h hp]
 rfl
theorem eD {p:ByteArray→Bool} {i:Nat} {s k:ByteArray} (h:l[i]? = some (ne s)) (hp:p s=true) (h1:l[i+1]? = some (ke k)):nameQ p (tks l) i [k] = .inl (s,i+2):=by
 unfold nameQ;rw[zE8 h hp]
 show thn (keysL (tks l) (i+1) [k]) _=_
 rw[sN h1]
 rfl
theorem Fol.key {j:Nat} {x:ByteArray} (h:l[j]? = some (ke x)) (hx:x=kShut∨x=qJ∨x=kIn∨x=kEnd∨x=kThen∨x=kElse∨x=kOf∨x=kTo∨x=kBar):Fol lg 1 l j:=by
 have hh:=zOp (lg:=lg) (show l[j]? = some ⟨ky x,0⟩ from h);refine⟨fun _=>?_,fun _=>?_,fun _=>⟨?_,?_⟩,fun _=>⟨?_,?_⟩⟩
 ·rw[hh]
  rcases hx with rfl | rfl | rfl | rfl | rfl | rfl | rfl | rfl | rfl<;>rfl
 all_goals (rw[yE h];rcases hx with rfl | rfl | rfl | rfl | rfl | rfl | rfl | rfl | rfl<;>decide)
def Pr (nk lg:ByteArray→Bool) (r:Nat) (ts:List Te) (t:Tr):Prop:=∀(l:List Te) (i n N:Nat),2*(l.length-i)+1≤n→l.length-i+1≤N→AtE l i ts→
 match r with
 | 0=>Fol lg 1 l (i+ts.length)→exprF nk lg l (n+1) i = .inl (t,i+ts.length)
 | 1=>Fol lg 1 l (i+ts.length)→cmpS lg l N (qL nk lg l n) i = .inl (t,i+ts.length)
 | 2=>Fol lg 3 l (i+ts.length)→Reach l (mulS lg l N (qL nk lg l n)) (sAdd l) N t i (i+ts.length)
 | 3=>Fol lg 4 l (i+ts.length)→Reach l (appS lg l N (qL nk lg l n)) (sMul l) N t i (i+ts.length)
 | 4=>Reach l (qL nk lg l n) (sApp lg l) N t i (i+ts.length)
 | _=>qL nk lg l n i = .inl (t,i+ts.length)
theorem Pr.app {ts:List Te} {t:Tr} (h:Pr nk lg 4 ts t) {l:List Te} {i n N:Nat} (hn:2*(l.length-i)+1≤n) (hN:l.length-i+1≤N) (ha:AtE l i ts) (hf:Fol lg 4 l (i+ts.length)):appS lg l N (qL nk lg l n) i = .inl (t,i+ts.length):=
 (h l i n N hn hN ha).done (zOq hf)
theorem Pr.mul {ts:List Te} {t:Tr} (h:Pr nk lg 3 ts t) {l:List Te} {i n N:Nat} (hn:2*(l.length-i)+1≤n) (hN:l.length-i+1≤N) (ha:AtE l i ts) (hf:Fol lg 3 l (i+ts.length)):mulS lg l N (qL nk lg l n) i = .inl (t,i+ts.length):=
 (h l i n N hn hN ha (hf.up (by omega))).done (zOr hf)
theorem Pr.add {ts:List Te} {t:Tr} (h:Pr nk lg 2 ts t) {l:List Te} {i n N:Nat} (hn:2*(l.length-i)+1≤n) (hN:l.length-i+1≤N) (ha:AtE l i ts) (hf:Fol lg 2 l (i+ts.length)):addS lg l N (qL nk lg l n) i = .inl (t,i+ts.length):=
 (h l i n N hn hN ha (hf.up (by omega))).done (zOs hf)
theorem Pr.down1 {ts:List Te} {t:Tr} {r:Nat} (h0:ts≠[]) (h:Pr nk lg (r+1) ts t):Pr nk lg r ts t:=by
 intro l i n N hn hN ha;have hl:=ha.len h0;have hp:0<ts.length:=List.length_pos_iff.2 h0
 match r,h with
 | 0,h=>
  intro hf;have h1:=h l i n (n+1) hn (by omega) ha hf;rw[kZ,zZt (zQ0 h1)];exact h1
 | 1,h=>
  intro hf;have h1:=Pr.add h hn hN ha (hf.up (by omega));unfold cmpS;rw[yK h1,zOt hf]
 | 2,h=>exact fun hf=>Reach.of (Pr.mul h hn hN ha hf) (by omega)
 | 3,h=>exact fun hf=>Reach.of (Pr.app h hn hN ha hf) (by omega)
 | 4,h=>exact Reach.of (h l i n N hn hN ha) (by omega)
 | r+5,h=>exact h l i n N hn hN ha
theorem Pr.down {ts:List Te} {t:Tr} {r s:Nat} (h0:ts≠[]) (h:Pr nk lg s ts t) (hrs:r≤s):Pr nk lg r ts t:=by
 induction s with
 | zero=>have:r=0:=by omega
         subst this;exact h
 | succ s ih=>
  by_cases e:r=s+1
  ·subst e;exact h
  ·exact ih (Pr.down1 h0 h) (by omega)
theorem Pr.paren {ts:List Te} {t:Tr} (h:Pr nk lg 0 ts t):Pr nk lg 5 (wie true ts) t:=by
 intro l i n N hn hN ha
 show qL nk lg l n i = .inl (t,i+(wie true ts).length)
 have ha:AtE l i (ke kOpen::(ts++[ke kShut])):=ha;have hl:=ha.len (by simp);have el:(wie true ts).length=ts.length+2:=by show(ke kOpen::(ts++[ke kShut])).length=_;simp
 have hl:i+(ts.length+2)≤l.length:=by
  have:(ke kOpen::(ts++[ke kShut])).length=ts.length+2:=by simp
  omega
 have h1:=ha.tail.left;have h2:=ha.tail.right.head;rw[el];obtain⟨n,rfl⟩:∃m,n=m+2:=⟨n-2,by omega⟩;have hx:=h l (i+1) n N (by omega) (by omega) h1 (Fol.key h2 (.inl rfl));rw[zO];unfold qK;have hh:=zOp (lg:=lg) (show l[i]? = some ⟨ky kOpen,0⟩ from ha.head);have hh:hdE lg l i = .opn:=hh;rw[hh];simp only;rw[pN hx,if_neg (by decide),yK hx,if_neg (by rw[yE h2];decide),yK (sN h2)]
 congr 2
 omega
theorem Pr.wie {ts:List Te} {t:Tr} {x:Nod} (h0:ts≠[]) (h:Pr nk lg (lvl x) ts t) {r:Nat} (hr:r≤5):Pr nk lg r (wie (low x r) ts) t:=by
 cases hb:low x r with
 | false=>exact h.down h0 (by have:=of_decide_eq_false hb;omega)
 | true=>exact(Pr.paren (h.down h0 (Nat.zero_le _))).down (rV h0) hr
end
section
variable {nk lg:ByteArray→Bool} {nb:Int→ByteArray}
theorem yZ7 (ts:List Tk):(tyE ts).length=ts.length:=List.length_map ..
theorem Pr.ex {ts:List Te} {t:Tr} (h:Pr nk lg 0 ts t) {l:List Te} {i n:Nat} (hn:2*(l.length-i)+2≤n) (ha:AtE l i ts) (hf:Fol lg 1 l (i+ts.length)):exprF nk lg l n i = .inl (t,i+ts.length):=by
 obtain⟨m,rfl⟩:∃m,n=m+1:=⟨n-1,by omega⟩;exact h l i m (l.length-i+1) (by omega) (Nat.le_refl _) ha hf
theorem yYr {l:List Te} {i:Nat} {t:Tr} (h:isT nk lg t 1=true) (ha:AtE l i (tyE (tkT t))) {x:ByteArray} (hx:l[i+(tyE (tkT t)).length]? = some (ke x)) (h1:¬x=kStar) (h2:¬x=zM):typL nk lg (tks l) i = .inl (t,i+(tyE (tkT t)).length):=by
 have h3:=ha.tks;rw[tP] at h3;rw[yZ7] at hx ⊢;exact(zTc _ t (Nat.le_refl _) h).ty (tks l) i h3 (by rw[yE hx];exact decide_eq_false h1) (by rw[yE hx];exact decide_eq_false h2)
theorem dW:∀(f acc:Fr) (l:List Te) (i n:Nat),0<f.len→ArmOk nk lg f→(∀t,szT t<f.sz→isT nk lg t 2=true→Pr nk lg 0 (tkE nb t) t)→2*(l.length-i)+1≤n→AtE l i (barsE (yQ nb f)++[ke kEnd])→
  armsF nk lg l n i acc = .inl (acc.app f,i+(barsE (yQ nb f)).length+1)
 | .nil,_,_,_,_,h,_,_,_,_=>absurd h (Nat.lt_irrefl _)
 | .cons x k r,acc,l,i,n,_,hok,ih,hn,ha=>by
  obtain⟨h9,hr⟩:=zVp hok;obtain⟨c,y,b,hxb,hc,hy,hb⟩:=jW h9;injection hxb with e1 e2;subst e1;subst e2;have hz:szT b<(Fr.cons ⟨34,0,c,y⟩ (fr1 b) r).sz:=by unfold szT;simp only[fr1,Fr.sz];omega
  have pb:=ih b hz hb;have hl:=ha.len (by simp);obtain⟨n,rfl⟩:∃m,n=m+1:=⟨n-1,by omega⟩;have es:yQ nb (.cons ⟨34,0,c,y⟩ (fr1 b) r)=(ne c::ne y::ke kFat::tkE nb b)::yQ nb r:=by unfold yQ;rw[sG hb];rfl
  rw[es] at ha hl ⊢;rw[mD];unfold armsS
  cases r with
  | nil=>
   have e0:barsE ((ne c::ne y::ke kFat::tkE nb b)::yQ nb .nil)=ne c::ne y::ke kFat::tkE nb b:=rfl;rw[e0] at ha hl ⊢;have h1:=ha.left;have h2:=ha.right.head;simp only[List.length_append,List.length_cons,List.length_nil] at hl h2;have h3:=h1.tail.tail.tail;have h2:l[i+1+1+1+(tkE nb b).length]? = some (ke kEnd):=by rw[←h2];congr 1;omega
   rw[yK (zOz h1.head hc),yK (eD h1.tail.head hy h1.tail.tail.head),yK (pb.ex (by omega) h3 (Fol.key h2 (by simp))),if_neg (by rw[yE h2];decide),yK (sN h2)];exact fD (by simp only[List.length_cons];omega)
  | cons z m q=>
   have e0:barsE ((ne c::ne y::ke kFat::tkE nb b)::yQ nb (.cons z m q))=(ne c::ne y::ke kFat::tkE nb b)++ke kBar::barsE (yQ nb (.cons z m q)):=rfl;rw[e0] at ha hl ⊢;rw[List.append_assoc] at ha;have h1:=ha.left;have h4:=ha.right;have h2:=h4.head;simp only[List.length_append,List.length_cons,List.length_nil] at hl h2;have h3:=h1.tail.tail.tail;have h2:l[i+1+1+1+(tkE nb b).length]? = some (ke kBar):=by rw[←h2];congr 1;omega
   rw[yK (zOz h1.head hc),yK (eD h1.tail.head hy h1.tail.tail.head),yK (pb.ex (by omega) h3 (Fol.key h2 (by simp))),if_pos (by rw[yE h2];decide)];have h5:AtE l (i+1+1+1+(tkE nb b).length+1) (barsE (yQ nb (.cons z m q))++[ke kEnd]):=by
    have:=h4.tail;have e:i+(ne c::ne y::ke kFat::tkE nb b).length+1=i+1+1+1+(tkE nb b).length+1:=by simp only[List.length_cons];omega
    rw[e] at this;exact this
   have hc:=dW (.cons z m q) (acc.app (fr1 (⟨34,0,c,y⟩,fr1 b))) l (i+1+1+1+(tkE nb b).length+1) n (Nat.succ_pos _) hr (fun t ht=>ih t (by simp only[fr1,Fr.sz] at ht ⊢;omega)) (by omega) h5;rw[show i+1+2=i+1+1+1 from rfl,hc,Fr.app_assoc];exact fD (by simp only[List.length_append,List.length_cons];omega)
theorem zE9 {k:Int} (h1:1≤k) (h2:k≤5):(k=1∧lvl (opN k)=2∧lft (opN k)=2)∨(k=2∧lvl (opN k)=2∧lft (opN k)=2)∨(k=3∧lvl (opN k)=3∧lft (opN k)=3)∨(k=4∧lvl (opN k)=1∧lft (opN k)=2)∨(k=5∧lvl (opN k)=1∧lft (opN k)=2):=by
 have:k=1∨k=2∨k=3∨k=4∨k=5:=by omega
 rcases this with rfl | rfl | rfl | rfl | rfl
 ·exact .inl ⟨rfl,rfl,rfl⟩
 ·exact .inr (.inl ⟨rfl,rfl,rfl⟩)
 ·exact .inr (.inr (.inl ⟨rfl,rfl,rfl⟩))
 ·exact .inr (.inr (.inr (.inl ⟨rfl,rfl,rfl⟩)))
 ·exact .inr (.inr (.inr (.inr ⟨rfl,rfl,rfl⟩)))
theorem Fol.sign {l:List Te} {j r:Nat} {x:ByteArray} (h:l[j]? = some (ke x)) (hx:(r=4∧x=kStar)∨(r=3∧(x=kPlus∨x=vX))∨(r=2∧(x=kEq∨x=kLess))):Fol lg r l j:=by
 have hh:=zOp (lg:=lg) (show l[j]? = some ⟨ky x,0⟩ from h)
 rcases hx with ⟨rfl,rfl⟩ | ⟨rfl,rfl | rfl⟩ | ⟨rfl,rfl | rfl⟩
 all_goals
  refine⟨fun _=>?_,fun _=>?_,fun _=>⟨?_,?_⟩,fun _=>⟨?_,?_⟩⟩
  ·rw[hh];rfl
  all_goals first | omega | (rw[yE h];decide)
theorem yYs:∀(n:Nat) (t:Tr),szT t≤n→isT nk lg t 2=true→Pr nk lg (lvl t.1) (tkE nb t) t
 | 0,t,h,_=>absurd h (by unfold szT;omega)
 | n+1,t,hn,h=>by
  have ih:=yYs n;have ih0:∀t,szT t≤n→isT nk lg t 2=true→Pr nk lg 0 (tkE nb t) t:=fun t ht h=>(ih t ht h).down (yR h) (Nat.zero_le _)
  cases vQ h with
  | num k h1 h2=>
   intro l i n N hn hN ha
   show qL nk lg l n i=_
   rw[iF] at ha;obtain⟨n,rfl⟩:∃m,n=m+1:=⟨n-1,by omega⟩;have hh:hdE lg l i = .num k:=by
    rw[pT ha.head];unfold hdT;rw[if_neg (show ¬((2:Int)=3) by decide),if_pos rfl,if_pos ⟨h1,h2⟩]
   rw[zO];unfold qK;rw[hh]
   rfl
  | boo k hb=>
   intro l i n N hn hN ha
   show qL nk lg l n i=_
   rw[rZ] at ha;obtain⟨n,rfl⟩:∃m,n=m+1:=⟨n-1,by omega⟩;have hh:hdE lg l i = .boo k:=by
    rw[pT ha.head]
    rcases hb with rfl | rfl<;>rfl
   rw[zO];unfold qK;rw[hh]
   rfl
  | unit=>
   intro l i n N hn hN ha
   show qL nk lg l n i=_
   rw[tQ] at ha;obtain⟨n,rfl⟩:∃m,n=m+1:=⟨n-1,by omega⟩;have hh:hdE lg l i = .opn:=by rw[pT ha.head];rfl
   rw[zO];unfold qK;rw[hh];simp only;rw[if_pos (by rw[yE ha.tail.head];decide)]
   rfl
  | var s hs=>
   intro l i n N hn hN ha
   show qL nk lg l n i=_
   rw[iG] at ha;obtain⟨n,rfl⟩:∃m,n=m+1:=⟨n-1,by omega⟩;have hh:hdE lg l i = .var s:=by
    rw[pT ha.head,show hdT lg (ne s)=(if lg s=true then .var s else .no) from rfl,if_pos hs]
   rw[zO];unfold qK;rw[hh]
   rfl
  | sel k hk a hA=>
   have hz:szT (nd k nob (fr1 a))=1+szT a:=vY _ a;have pA:=(ih a (by omega) hA).wie (r:=5) (yR hA) (by omega);have hv:lvl (nd k nob (fr1 a)).1=5:=by rcases hk with rfl | rfl<;>rfl
   rw[hv];intro l i n N hn hN ha
   show qL nk lg l n i=_
   rw[dC hk hA] at ha ⊢;have hl:=ha.len (by simp);have hl:i+((wie (low a.1 5) (tkE nb a)).length+1)≤l.length:=hl;obtain⟨n,rfl⟩:∃m,n=m+1:=⟨n-1,by omega⟩;have hh:hdE lg l i = .sel k:=by
    rw[pT ha.head]
    rcases hk with rfl | rfl<;>rfl
   have h1:qL nk lg l n (i+1) = .inl (a,i+1+(wie (low a.1 5) (tkE nb a)).length):=pA l (i+1) n (l.length+1) (by omega) (by omega) ha.tail;rw[zO];unfold qK;rw[hh];simp only;rw[yK h1];exact fD (by simp only[List.length_cons];omega)
  | pair a b hA hB=>
   have hz:szT (nd 26 nob (fr2 a b))=1+(szT a+szT b):=qT _ a b;have pA:=ih0 a (by omega) hA;have pB:=ih0 b (by omega) hB;intro l i n N hn hN ha
   show qL nk lg l n i=_
   rw[nX hA hB] at ha ⊢;have hl:=ha.len (by simp);simp only[List.length_append,List.length_cons,List.length_nil] at hl;obtain⟨n,rfl⟩:∃m,n=m+1:=⟨n-1,by omega⟩;have hh:hdE lg l i = .opn:=by rw[pT ha.head];rfl
   have h1:=ha.tail.left;have h2:=ha.tail.right;have h3:=h2.tail.left;have h4:=h2.tail.right.head;have x1:=pA.ex (n:=n) (by omega) h1 (Fol.key h2.head (by simp));have x2:=pB.ex (n:=n) (by omega) h3 (Fol.key h4 (by simp));rw[zO];unfold qK;rw[hh];simp only;rw[pN x1,if_neg (by decide),yK x1,if_pos (by rw[yE h2.head];decide),yK (wJ x2 h4)];exact fD (by simp only[List.length_append,List.length_cons,List.length_nil];omega)
  | app a b hA hB=>
   have hz:szT (nd 25 nob (fr2 a b))=1+(szT a+szT b):=qT _ a b;have pA:=(ih a (by omega) hA).wie (r:=4) (yR hA) (by omega);have pB:=(ih b (by omega) hB).wie (r:=5) (yR hB) (by omega);have nA:wie (low a.1 4) (tkE nb a)≠[]:=rV (yR hA);have nB:wie (low b.1 5) (tkE nb b)≠[]:=rV (yR hB);intro l i n N hn hN ha
   show Reach l _ _ N _ i _
   rw[dB hA hB] at ha ⊢;have h1:=ha.left;have h2:=ha.right;have l2:=h2.len nB;have lp:0<(wie (low b.1 5) (tkE nb b)).length:=List.length_pos_iff.2 nB;have x1:=pA l i n N hn hN h1;have x2:qL nk lg l n (i+(wie (low a.1 4) (tkE nb a)).length) = .inl (b,i+(wie (low a.1 4) (tkE nb a)).length+(wie (low b.1 5) (tkE nb b)).length):=pB l _ n (l.length+1) (by omega) (by omega) h2;have hs:sApp lg l (i+(wie (low a.1 4) (tkE nb a)).length)=some (⟨25,0,nob,nob⟩,0):=by
    unfold sApp;have:(hdE lg l (i+(wie (low a.1 4) (tkE nb a)).length)).any=true:=by
     obtain⟨m,rfl⟩:∃m,n=m+1:=⟨n-1,by omega⟩;rw[zO] at x2;exact zOu x2
    rw[this]
    rfl
   have:=x1.step hs x2 (by omega) l2;rw[Nat.add_assoc,←List.length_append] at this;exact this
  | op k k1 k2 a b hA hB=>
   have hz:szT (opN k,fr2 a b)=1+(szT a+szT b):=qT _ a b;have pA:=fun r (hr:r≤5)=>(ih a (by omega) hA).wie (r:=r) (yR hA) hr
   have pB:=fun r (hr:r≤5)=>(ih b (by omega) hB).wie (r:=r) (yR hB) hr
   have nA:∀r,wie (low a.1 r) (tkE nb a)≠[]:=fun r=>rV (yR hA)
   have nB:∀r,wie (low b.1 r) (tkE nb b)≠[]:=fun r=>rV (yR hB)
   show Pr nk lg (lvl (opN k)) _ _
   rw[zZ9 hA hB];obtain⟨r,hr,hl⟩:∃r,lvl (opN k)=r∧r≤3:=⟨_,rfl,by rcases zE9 k1 k2 with h | h | h | h | h<;>omega⟩
   obtain⟨q,hq⟩:∃q,lft (opN k)=q:=⟨_,rfl⟩;have hcases:=zE9 k1 k2;rw[hr,hq] at hcases;rw[hr,hq];intro l i m N hm hN ha;have h1:=ha.left;have h2:=ha.right;have h3:=h2.tail;have hs:=h2.head;obtain⟨ta,hta⟩:∃ta,wie (low a.1 q) (tkE nb a)=ta:=⟨_,rfl⟩;obtain⟨tb,htb⟩:∃tb,wie (low b.1 (r+1)) (tkE nb b)=tb:=⟨_,rfl⟩;have nb1:tb≠[]:=by rw[←htb];exact nB _
   have pa:=pA q (by omega);have pb:=pB (r+1) (by omega);rw[hta] at h1 h2 h3 hs pa ⊢;rw[htb] at h2 h3 pb ⊢;have l3:=h3.len nb1;have lp:0<tb.length:=List.length_pos_iff.2 nb1;have e:i+(ta++ke (signB k)::tb).length=i+ta.length+1+tb.length:=by simp only[List.length_append,List.length_cons];omega
   rw[e];have hkey:=fun y=>yE hs y
   rcases hcases with ⟨rfl,rfl,rfl⟩ | ⟨rfl,rfl,rfl⟩ | ⟨rfl,rfl,rfl⟩ | ⟨rfl,rfl,rfl⟩ | ⟨rfl,rfl,rfl⟩
   ·intro hf
    have x1:=pa l i m N hm hN h1 (Fol.sign hs (.inr (.inl ⟨rfl,.inl rfl⟩)));have x2:=pb.mul (n:=m) (N:=N) (by omega) (by omega) h3 hf;exact x1.step (show sAdd l _=some (opN 1,1) by unfold sAdd;rw[hkey];rfl) x2 (by omega) l3
   ·intro hf
    have x1:=pa l i m N hm hN h1 (Fol.sign hs (.inr (.inl ⟨rfl,.inr rfl⟩)));have x2:=pb.mul (n:=m) (N:=N) (by omega) (by omega) h3 hf;exact x1.step (show sAdd l _=some (opN 2,1) by unfold sAdd;rw[hkey,hkey];rfl) x2 (by omega) l3
   ·intro hf
    have x1:=pa l i m N hm hN h1 (Fol.sign hs (.inl ⟨rfl,rfl⟩));have x2:=pb.app (n:=m) (N:=N) (by omega) (by omega) h3 hf;exact x1.step (show sMul l _=some (opN 3,1) by unfold sMul;rw[hkey];rfl) x2 (by omega) l3
   ·intro hf
    have x1:=pa.add (n:=m) (N:=N) hm hN h1 (Fol.sign hs (.inr (.inr ⟨rfl,.inl rfl⟩)));have x2:=pb.add (n:=m) (N:=N) (by omega) (by omega) h3 (hf.up (by omega));unfold cmpS;rw[yK x1,show sCmp l _=some (opN 4,1) by unfold sCmp;rw[hkey];rfl];simp only;rw[yK x2]
   ·intro hf
    have x1:=pa.add (n:=m) (N:=N) hm hN h1 (Fol.sign hs (.inr (.inr ⟨rfl,.inr rfl⟩)));have x2:=pb.add (n:=m) (N:=N) (by omega) (by omega) h3 (hf.up (by omega));unfold cmpS;rw[yK x1,show sCmp l _=some (opN 5,1) by unfold sCmp;rw[hkey,hkey];rfl];simp only;rw[yK x2]
  | lam s hs a b hA hB=>
   have hz:szT (nd 24 s (fr2 a b))=1+(szT a+szT b):=qT _ a b;have pB:=ih0 b (by omega) hB;intro l i n N hn hN ha
   show _→exprF nk lg l (n+1) i=_
   rw[dA hA hB] at ha ⊢;intro hf;have hl:=ha.len (by simp);simp only[List.length_append,List.length_cons] at hl hf;have t1:=ha.tail;have t2:=t1.tail;have t3:=t2.tail;have t4:=t3.tail;have t5:=t4.right;have y:=yYr hA t4.left t5.head (by decide) (by decide);have x:=pB.ex (n:=n) (by omega) t5.tail.tail (by rw[show i+1+1+1+1+(tyE (tkT a)).length+1+1+(tkE nb b).length=i+((tyE (tkT a)).length+((tkE nb b).length+1+1)+1+1+1+1) by omega];exact hf);rw[kZ];unfold exprS;rw[if_pos (by rw[yE ha.head];decide)];unfold lamS;rw[yK (sN t1.head),yK (eD t2.head hs t3.head),yK (yZ6 y t5.head t5.tail.head),yK x];exact fD (by simp only[List.length_append,List.length_cons];omega)
  | letE s hs a b hA hB=>
   have hz:szT (nd 29 s (fr2 a b))=1+(szT a+szT b):=qT _ a b;have pA:=ih0 a (by omega) hA;have pB:=ih0 b (by omega) hB;intro l i n N hn hN ha
   show _→exprF nk lg l (n+1) i=_
   rw[dD hA hB] at ha ⊢;intro _;have hl:=ha.len (by simp);simp only[List.length_append,List.length_cons,List.length_nil] at hl;have t1:=ha.tail;have t2:=t1.tail;have t3:=t2.tail;have t4:=t3.right;have t5:=t4.tail;have t6:=t5.right.head;have x1:=pA.ex (n:=n) (by omega) t3.left (Fol.key t4.head (by simp));have x2:=pB.ex (n:=n) (by omega) t5.left (Fol.key t6 (by simp));rw[kZ];unfold exprS;rw[if_neg (by rw[yE ha.head];decide),if_pos (by rw[yE ha.head];decide)];unfold letS;rw[yK (eD t1.head hs t2.head),yK (wJ x1 t4.head),yK (wJ x2 t6)];exact fD (by simp only[List.length_append,List.length_cons,List.length_nil];omega)
  | ifE a b c hA hB hC=>
   have hz:szT (nd 30 nob (fr3 a b c))=1+(szT a+szT b+szT c):=nE _ a b c;have pA:=ih0 a (by omega) hA;have pB:=ih0 b (by omega) hB;have pC:=ih0 c (by omega) hC;intro l i n N hn hN ha
   show _→exprF nk lg l (n+1) i=_
   rw[zZ8 hA hB hC] at ha ⊢;intro hf;have hl:=ha.len (by simp);simp only[List.length_append,List.length_cons] at hl hf;have t1:=ha.tail;have t2:=t1.right;have t3:=t2.tail;have t4:=t3.right;have x1:=pA.ex (n:=n) (by omega) t1.left (Fol.key t2.head (by simp));have x2:=pB.ex (n:=n) (by omega) t3.left (Fol.key t4.head (by simp));have x3:=pC.ex (n:=n) (by omega) t4.tail (by rw[show i+1+(tkE nb a).length+1+(tkE nb b).length+1+(tkE nb c).length=i+((tkE nb a).length+((tkE nb b).length+((tkE nb c).length+1)+1)+1) by omega];exact hf);rw[kZ];unfold exprS;rw[if_neg (by rw[yE ha.head];decide),if_neg (by rw[yE ha.head];decide),if_pos (by rw[yE ha.head];decide)];unfold ifS;rw[yK (wJ x1 t2.head),yK (wJ x2 t4.head),yK x3];exact fD (by simp only[List.length_append,List.length_cons];omega)
  | caseE a hA k hk h0=>
   have hz:szT (nd 32 nob (.cons a.1 a.2 k))=1+(szT a+k.sz):=rfl;have pA:=ih0 a (by omega) hA;intro l i n N hn hN ha
   show _→exprF nk lg l (n+1) i=_
   rw[nY hA] at ha ⊢;intro _;have hl:=ha.len (by simp);simp only[List.length_append,List.length_cons,List.length_nil] at hl;have t1:=ha.tail;have t2:=t1.right;have x1:=pA.ex (n:=n) (by omega) t1.left (Fol.key t2.head (by simp));have x2:=dW k .nil l _ n h0 hk (fun t ht h=>ih0 t (by omega) h) (by omega) t2.tail;rw[kZ];unfold exprS;rw[if_neg (by rw[yE ha.head];decide),if_neg (by rw[yE ha.head];decide),if_neg (by rw[yE ha.head];decide),if_pos (by rw[yE ha.head];decide)];unfold caseS;rw[yK (wJ x1 t2.head),yK x2];exact fD (by simp only[List.length_append,List.length_cons,List.length_nil];omega)
  | foldE a t hA hT k hk h0=>
   have hz:szT (nd 33 nob (.cons a.1 a.2 (.cons t.1 t.2 k)))=1+(szT a+(szT t+k.sz)):=rfl;have pA:=ih0 a (by omega) hA;intro l i n N hn hN ha
   show _→exprF nk lg l (n+1) i=_
   rw[nZ hA hT] at ha ⊢;intro _;have hl:=ha.len (by simp);simp only[List.length_append,List.length_cons,List.length_nil] at hl;have t1:=ha.tail;have t2:=t1.right;have t3:=t2.tail;have t4:=t3.right;have x1:=pA.ex (n:=n) (by omega) t1.left (Fol.key t2.head (by simp));have y:=yYr hT t3.left t4.head (by decide) (by decide);have x2:=dW k .nil l _ n h0 hk (fun t ht h=>ih0 t (by omega) h) (by omega) t4.tail;rw[kZ];unfold exprS;rw[if_neg (by rw[yE ha.head];decide),if_neg (by rw[yE ha.head];decide),if_neg (by rw[yE ha.head];decide),if_neg (by rw[yE ha.head];decide),if_pos (by rw[yE ha.head];decide)];unfold foldS;rw[yK (wJ x1 t2.head),yK (wJ y t4.head),yK x2];exact fD (by simp only[List.length_append,List.length_cons,List.length_nil];omega)
theorem zY0 {t:Tr} (h:isT nk lg t 2=true) {n:Nat} (hn:2*(tkE nb t).length+2≤n):exprF nk lg (tkE nb t) n 0 = .inl (t,(tkE nb t).length):=by
 have ha:AtE (tkE nb t) 0 (tkE nb t):=⟨[],by simp⟩;have h1:=((yYs (nb:=nb) _ t (Nat.le_refl _) h).down (yR h) (Nat.zero_le _)).ex (n:=n) (by omega) ha (Fol.end (by omega));rw[h1,Nat.zero_add]
end
section
variable {nk lg:ByteArray→Bool}
theorem zEa {b:Bool} {ts:List Tk} {x:Tk} (h:x∈wi b ts):x∈ts∨x=ky kOpen∨x=ky kShut:=by
 cases b with
 | false=>exact .inl h
 | true=>
  rcases List.mem_cons.1 h with h | h
  ·exact .inr (.inl h)
  ·rcases List.mem_append.1 h with h | h
   ·exact .inl h
   ·exact .inr (.inr (List.mem_singleton.1 h))
end
end Go.Proofs.YtbpijnalmakfaaaGreatDoor
namespace Go.Proofs.YtbpijnalmakfaaaGreatDoor
open Go.RowKit
def wS:List Tk→Nat
 | []=>0
 | a::r=>a.s.size+1+wS r
theorem sQ:∀(a b:List Tk),wS (a++b)=wS a+wS b
 | [],b=>by show wS b=0+wS b;omega
 | x::a,b=>by show x.s.size+1+wS (a++b)=x.s.size+1+wS a+wS b;rw[sQ a b];omega
theorem zN0 (b:Bool) (ts:List Tk):wS (wi b ts)≤wS ts+4:=by
 cases b with
 | false=>show wS ts≤_;omega
 | true=>
  show wS (ky kOpen::(ts++[ky kShut]))≤_
  have e:wS (ky kOpen::(ts++[ky kShut]))=1+1+wS (ts++[ky kShut]):=rfl;rw[e,sQ]
  show 1+1+(wS ts+(1+1+0))≤_
  omega
theorem zN1:∀(f:Fr),(∀(j:Nat) t,f.get j=some t→wS (tkT t)+2≤150*szT t)→wS (bars (segF f))≤150*f.sz
 | .nil,_=>Nat.zero_le _
 | .cons x k .nil,h=>by
  have h0:=h 0 (x,k) rfl;have hz:szT (x,k)=1+k.sz:=rfl
  show wS (tkT (x,k))≤150*(1+k.sz+0)
  omega
 | .cons x k (.cons y m q),h=>by
  have h0:=h 0 (x,k) rfl;have hz:szT (x,k)=1+k.sz:=rfl;have ih:=zN1 (.cons y m q) fun j t hj=>h (j+1) t hj
  have e:bars (segF (.cons x k (.cons y m q)))=tkT (x,k)++ky kBar::bars (segF (.cons y m q)):=rfl;rw[e,sQ]
  show wS (tkT (x,k))+(1+1+wS (bars (segF (.cons y m q))))≤150*(1+k.sz+(Fr.cons y m q).sz)
  omega
theorem zEb:∀(n:Nat) (t:Tr),szT t≤n→isT B.nck B.long t 1=true→wS (tkT t)≤150*szT t
 | 0,t,h,_=>absurd h (by unfold szT;omega)
 | n+1,t,h,ht=>by
  have ih:=zEb n
  cases vP ht with
  | leaf k hk=>rcases hk with rfl | rfl | rfl<;>decide
  | name s hs=>
   have h1:=mM s hs
   show s.size+1+0≤150*(1+0)
   omega
  | two k hk a b hA hB=>
   have hz:szT (nd k nob (fr2 a b))=1+(szT a+szT b):=by unfold szT;simp only[nd,fr2,fr1,Fr.sz];omega
   have iA:=ih a (by omega) hA;have iB:=ih b (by omega) hB
   rcases hk with rfl | rfl
   ·rw[fJ,sQ]
    have w1:=zN0 (is5 a.1) (tkT a)
    show _+(2+1+wS (tkT b))≤_
    omega
   ·rw[fK,sQ]
    have w1:=zN0 (nD a.1) (tkT a);have w2:=zN0 (is5 b.1) (tkT b)
    show _+(1+1+wS (wi (is5 b.1) (tkT b)))≤_
    omega
  | mu s hs c hc h0=>
   have hz:szT (nd 7 s c)=1+c.sz:=rfl;have h1:=fS s hs;have hb:=zN1 c fun j t' hj=>by
    obtain⟨s',u,rfl,hs',hu⟩:=vS (wZ hc.1 hj);have hg:=Fr.get_sz hj;have hz2:szT (nd 8 s' (fr1 u))=1+szT u:=by unfold szT;simp only[nd,fr1,Fr.sz];omega
    have iu:=ih u (by omega) hu;have h2:=fS s' hs';rw[fP]
    show s'.size+1+(2+1+wS (tkT u))+2≤_
    omega
   rw[tN]
   show 2+1+(s.size+1+(1+1+wS (bars (segF c)++[ky zY])))≤_
   rw[sQ]
   show 2+1+(s.size+1+(1+1+(wS (bars (segF c))+(1+1+0))))≤_
   omega
structure TkOk (k:Tk):Prop where
 ex:∃t:B.Tok,t.k=k.k∧B.T t.x=k.s∧B.Made t∧B.okl t.x∧∀r∈t.x,B.rdb (r:Int)=true
theorem wD (x:List Nat) (hx:x∈B.TKEYS):TkOk (ky (B.T x)):=⟨⟨⟨3,x,0⟩,rfl,rfl,⟨x,_,B.zIz x hx⟩,B.gB (by revert x;decide),fun r hr=>by
 have h:∀x∈B.TKEYS,∀r∈x,33≤r∧r≤126:=by decide
 exact B.rR (h x hx r hr)⟩⟩
theorem zWc {s:ByteArray} (h:B.long s=true):TkOk (nmT s):=by
 obtain⟨x,h1,h2,h3,h4⟩:=B.zVl h;exact⟨⟨⟨1,x,0⟩,rfl,h1,⟨x,_,h3⟩,h2,h4⟩⟩
theorem oS {s:ByteArray} (h:B.nck s=true):B.long s=true:=by
 have h1:=B.zCt (l:=[s]) (by simp) (by simp[h]);rw[B.yXp] at h1;rw[h1];exact decide_eq_true (fS s h)
theorem okI:TkOk (ky kInt):=wD [105,110,116] (by decide)
theorem okBo:TkOk (ky kBool):=wD [98,111,111,108] (by decide)
theorem okU:TkOk (ky kUnit):=wD [117,110,105,116] (by decide)
theorem okOp:TkOk (ky kOpen):=wD [40] (by decide)
theorem okSh:TkOk (ky kShut):=wD [41] (by decide)
theorem okMu:TkOk (ky kMu):=wD [109,117] (by decide)
theorem okLe:TkOk (ky kLeft):=wD [123] (by decide)
theorem okRi:TkOk (ky zY):=wD [125] (by decide)
theorem okOf:TkOk (ky kOf):=wD [111,102] (by decide)
theorem okBa:TkOk (ky kBar):=wD [124] (by decide)
theorem okAr:TkOk (ky zM):=wD [45,62] (by decide)
theorem okSt:TkOk (ky kStar):=wD [42] (by decide)
theorem zEc {b:Bool} {ts:List Tk} (h:∀x∈ts,TkOk x):∀x∈wi b ts,TkOk x:=fun x hx=>by
 rcases zEa hx with h1 | rfl | rfl
 ·exact h x h1
 ·exact okOp
 ·exact okSh
theorem zN2:∀(f:Fr),(∀(j:Nat) t,f.get j=some t→∀x∈tkT t,TkOk x)→∀x∈bars (segF f),TkOk x
 | .nil,_,x,hx=>by cases hx
 | .cons y k .nil,h,x,hx=>h 0 (y,k) rfl x hx
 | .cons y k (.cons z m q),h,x,hx=>by
  have e:bars (segF (.cons y k (.cons z m q)))=tkT (y,k)++ky kBar::bars (segF (.cons z m q)):=rfl;rw[e] at hx
  rcases List.mem_append.1 hx with hx | hx
  ·exact h 0 (y,k) rfl x hx
  ·rcases List.mem_cons.1 hx with rfl | hx
   ·exact okBa
   ·exact zN2 (.cons z m q) (fun j t hj=>h (j+1) t hj) x hx
theorem zEd:∀(n:Nat) (t:Tr),szT t≤n→isT B.nck B.long t 1=true→∀x∈tkT t,TkOk x
 | 0,t,h,_=>absurd h (by unfold szT;omega)
 | n+1,t,h,ht=>by
  have ih:=zEd n
  cases vP ht with
  | leaf k hk=>
   rcases hk with rfl | rfl | rfl<;>intro x hx
   ·rw[List.mem_singleton.1 (show x∈[ky kInt] from hx)];exact okI
   ·rw[List.mem_singleton.1 (show x∈[ky kBool] from hx)];exact okBo
   ·rw[List.mem_singleton.1 (show x∈[ky kUnit] from hx)];exact okU
  | name s hs=>
   intro x hx;rw[List.mem_singleton.1 (show x∈[nmT s] from hx)];exact zWc hs
  | two k hk a b hA hB=>
   have hz:szT (nd k nob (fr2 a b))=1+(szT a+szT b):=by unfold szT;simp only[nd,fr2,fr1,Fr.sz];omega
   have iA:=ih a (by omega) hA;have iB:=ih b (by omega) hB
   rcases hk with rfl | rfl
   ·rw[fJ]
    intro x hx
    rcases List.mem_append.1 hx with hx | hx
    ·exact zEc iA x hx
    ·rcases List.mem_cons.1 hx with rfl | hx
     ·exact okAr
     ·exact iB x hx
   ·rw[fK]
    intro x hx
    rcases List.mem_append.1 hx with hx | hx
    ·exact zEc iA x hx
    ·rcases List.mem_cons.1 hx with rfl | hx
     ·exact okSt
     ·exact zEc iB x hx
  | mu s hs c hc h0=>
   have hz:szT (nd 7 s c)=1+c.sz:=rfl;have hb:=zN2 c fun j t' hj=>by
    obtain⟨s',u,rfl,hs',hu⟩:=vS (wZ hc.1 hj);have hg:=Fr.get_sz hj;have hz2:szT (nd 8 s' (fr1 u))=1+szT u:=by unfold szT;simp only[nd,fr1,Fr.sz];omega
    have iu:=ih u (by omega) hu;rw[fP];intro x hx
    rcases List.mem_cons.1 hx with rfl | hx
    ·exact zWc (oS hs')
    ·rcases List.mem_cons.1 hx with rfl | hx
     ·exact okOf
     ·exact iu x hx
   rw[tN];intro x hx
   rcases List.mem_cons.1 hx with rfl | hx
   ·exact okMu
   ·rcases List.mem_cons.1 hx with rfl | hx
    ·exact zWc (oS hs)
    ·rcases List.mem_cons.1 hx with rfl | hx
     ·exact okLe
     ·rcases List.mem_append.1 hx with hx | hx
      ·exact hb x hx
      ·rw[List.mem_singleton.1 hx];exact okRi
end Go.Proofs.YtbpijnalmakfaaaGreatDoor
