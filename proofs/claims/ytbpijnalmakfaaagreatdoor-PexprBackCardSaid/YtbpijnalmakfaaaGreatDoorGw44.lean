/-
  Plain: a type's tokens, with just the signs that the grammar needs; parsed, they are the type, whole.
-/
import Derived.Test.YtbpijnalmakfaaaGreatDoorGw33
import Derived.Test.YtbpijnalmakfaaaGreatDoorGw36
import Derived.Test.YtbpijnalmakfaaaGreatDoorGw43
namespace Go.Proofs.YtbpijnalmakfaaaGreatDoor
def At (l:List Tk) (i:Nat) (ts:List Tk):Prop:=∃r,l.drop i=ts++r
theorem At.left {l a b:List Tk} {i:Nat} (h:At l i (a++b)):At l i a:=by
 obtain⟨r,h⟩:=h;exact⟨b++r,by rw[h,List.append_assoc]⟩
theorem At.right {l a b:List Tk} {i:Nat} (h:At l i (a++b)):At l (i+a.length) b:=by
 obtain⟨r,h⟩:=h;refine⟨r,?_⟩;rw[←List.drop_drop,h,List.append_assoc,List.drop_left]
theorem At.tail {l a:List Tk} {i:Nat} {x:Tk} (h:At l i (x::a)):At l (i+1) a:=At.right (a:=[x]) h
theorem At.head {l a:List Tk} {i:Nat} {x:Tk} (h:At l i (x::a)):l[i]? = some x:=by
 obtain⟨r,h⟩:=h;have e:(l.drop i)[0]? = l[i+0]?:=List.getElem?_drop;rw[h] at e;exact e.symm
theorem zM {l:List Tk} {i:Nat} {x:ByteArray} (h:l[i]? = some (ky x)) (y:ByteArray):key l i y=decide (x=y):=by
 unfold key;rw[h]
 show(decide ((3:Int)=3)&&decide (x=y))=_
 rw[decide_eq_true rfl,Bool.true_and]
theorem uX {p:ByteArray→Bool} {l:List Tk} {i:Nat} {x:ByteArray} (h:l[i]? = some (ky x)):nam p l i=none:=by
 unfold nam;rw[h]
 show(if (decide ((3:Int)=1)&&p x)=true then some x else none)=none
 rw[decide_eq_false (by decide),Bool.false_and]
 rfl
theorem uY {p:ByteArray→Bool} {l:List Tk} {i:Nat} {s:ByteArray} (h:l[i]? = some (nmT s)) (hp:p s=true):nam p l i=some s:=by
 unfold nam;rw[h]
 show(if (decide ((1:Int)=1)&&p s)=true then some s else none)=some s
 rw[hp]
 rfl
section
variable {nk lg:ByteArray→Bool}
theorem yUi {l:List Tk} {i:Nat} (h:l[i]? = some (ky kInt)):atomL nk lg l i = .inl (nd 1 nob .nil,i+1):=by
 rw[zR];unfold atomS;rw[uX h,zM h];rfl
theorem yUj {l:List Tk} {i:Nat} (h:l[i]? = some (ky kBool)):atomL nk lg l i = .inl (nd 2 nob .nil,i+1):=by
 rw[zR];unfold atomS;rw[uX h,zM h,zM h];rfl
theorem yUk {l:List Tk} {i:Nat} (h:l[i]? = some (ky kUnit)):atomL nk lg l i = .inl (nd 3 nob .nil,i+1):=by
 rw[zR];unfold atomS;rw[uX h,zM h,zM h,zM h];rfl
theorem yUl {l:List Tk} {i:Nat} {s:ByteArray} (h:l[i]? = some (nmT s)) (hs:lg s=true):atomL nk lg l i = .inl (nd 4 s .nil,i+1):=by
 rw[zR];unfold atomS;rw[uY h hs]
theorem yUm {l:List Tk} {i j:Nat} {t:Tr} (h:l[i]? = some (ky kOpen)) (ht:typL nk lg l (i+1) = .inl (t,j)) (hj:l[j]? = some (ky kShut)):atomL nk lg l i = .inl (t,j+1):=by
 rw[zR];unfold atomS;rw[uX h,zM h,zM h,zM h,zM h,ht]
 show(if key l j kShut=true then _ else _)=_
 rw[zM hj];rfl
theorem yUn {l:List Tk} {i j:Nat} {s:ByteArray} {c:Fr} (h:l[i]? = some (ky kMu)) (h1:l[i+1]? = some (nmT s)) (hs:nk s=true) (h2:l[i+2]? = some (ky kLeft)) (hc:consL nk lg l (i+3) .nil = .inl (c,j)) (hj:l[j]? = some (ky zY)) :
  atomL nk lg l i = .inl (nd 7 s c,j+1):=by
 rw[zR];unfold atomS;rw[uX h,zM h,zM h,zM h,zM h,zM h,uY h1 hs,zM h2,hc]
 show(if key l j zY=true then _ else _)=_
 rw[zM hj];rfl
theorem eQ {l:List Tk} {i j:Nat} {t:Tr} (h:atomL nk lg l i = .inl (t,j)) (hk:key l j kStar=false):prodL nk lg l i = .inl (t,j):=by
 rw[tU,h];unfold typS;simp only;rw[hk];rfl
theorem zEr {l:List Tk} {i j:Nat} {t:Tr} (h:prodL nk lg l i = .inl (t,j)) (hk:key l j zI=false):typL nk lg l i = .inl (t,j):=by
 rw[eA,h];unfold typS;simp only;rw[hk];rfl
theorem yUo {l:List Tk} {i j m:Nat} {a b:Tr} (h:atomL nk lg l i = .inl (a,j)) (hk:l[j]? = some (ky kStar)) (hb:prodL nk lg l (j+1) = .inl (b,m)):prodL nk lg l i = .inl (nd 6 nob (fr2 a b),m):=by
 rw[tU,h];unfold typS;simp only;rw[zM hk,hb];rfl
theorem typ_5 {l:List Tk} {i j m:Nat} {a b:Tr} (h:prodL nk lg l i = .inl (a,j)) (hk:l[j]? = some (ky zI)) (hb:typL nk lg l (j+1) = .inl (b,m)):typL nk lg l i = .inl (nd 5 nob (fr2 a b),m):=by
 rw[eA,h];unfold typS;simp only;rw[zM hk,hb];rfl
structure Back (nk lg:ByteArray→Bool) (t:Tr):Prop where
 at_:∀l i,At l i (tkT t)→nG t.1=false→atomL nk lg l i = .inl (t,i+(tkT t).length)
 pr:∀l i,At l i (tkT t)→is5 t.1=false→key l (i+(tkT t).length) kStar=false→prodL nk lg l i = .inl (t,i+(tkT t).length)
 ty:∀l i,At l i (tkT t)→key l (i+(tkT t).length) kStar=false→key l (i+(tkT t).length) zI=false→typL nk lg l i = .inl (t,i+(tkT t).length)
theorem Back.of_atom {t:Tr} (h:∀l i,At l i (tkT t)→atomL nk lg l i = .inl (t,i+(tkT t).length)):Back nk lg t:=
 ⟨fun l i ha _=>h l i ha,fun l i ha _ hs=>eQ (h l i ha) hs,fun l i ha hs hr=>zEr (eQ (h l i ha) hs) hr⟩
theorem zV1 {t:Tr} (h:Back nk lg t) {b:Bool} (hb:b=false→nG t.1=false) {l:List Tk} {i:Nat} (ha:At l i (wi b (tkT t))):atomL nk lg l i = .inl (t,i+(wi b (tkT t)).length):=by
 cases b with
 | false=>exact h.at_ l i ha (hb rfl)
 | true=>
  have ha:At l i (ky kOpen::(tkT t++[ky kShut])):=ha;have h1:=ha.tail.left;have h2:=ha.tail.right.head;have e:(wi true (tkT t)).length=(tkT t).length+2:=by show(ky kOpen::(tkT t++[ky kShut])).length=_;simp
  rw[e];have hk:=h.ty l (i+1) h1 (by rw[zM h2];decide) (by rw[zM h2];decide);have:=yUm ha.head hk h2;rw[this]
  congr 2
  omega
theorem zNk:∀(acc:Fr) (x:Nod) (k r:Fr),kB (infF nk lg (acc.app (.cons x k r)))=true→hasN acc x.a=false
 | .nil,_,_,_,_=>rfl
 | .cons y m q,x,k,r,h=>by
  have h:(((infF nk lg (q.app (.cons x k r))).all fun j=>decide (y.a≠j.a))&&kB (infF nk lg (q.app (.cons x k r))))=true:=h;rw[Bool.and_eq_true] at h;unfold hasN;rw[zNk q x k r h.2,Bool.or_false,decide_eq_false_iff_not];have h1:=h.1;rw[lR,List.all_append,Bool.and_eq_true] at h1;have h2:(decide (y.a≠x.a)&&(infF nk lg r).all fun j=>decide (y.a≠j.a))=true:=h1.2;rw[Bool.and_eq_true] at h2;exact of_decide_eq_true h2.1
theorem zYr:∀(f acc:Fr) (l:List Tk) (i:Nat),0<f.len→ConOk nk lg (acc.app f)→(∀t,szT t<f.sz→isT nk lg t 1=true→Back nk lg t)→At l i (bars ((tkF f).map (·.2)))→
  key l (i+(bars ((tkF f).map (·.2))).length) kStar=false→key l (i+(bars ((tkF f).map (·.2))).length) zI=false→key l (i+(bars ((tkF f).map (·.2))).length) kBar=false→
  consL nk lg l i acc = .inl (acc.app f,i+(bars ((tkF f).map (·.2))).length)
 | .nil,_,_,_,h,_,_,_,_,_,_=>absurd h (Nat.lt_irrefl _)
 | .cons x k r,acc,l,i,_,hok,ih,ha,hS,hA,hB=>by
  have h8:isT nk lg (x,k) 8=true:=by
   have:=hok.1;rw[lR,List.all_append,Bool.and_eq_true] at this;have h:(isT nk lg (x,k) 8&&(infF nk lg r).all fun i=>i.is 8)=true:=this.2;rw[Bool.and_eq_true] at h;exact h.1
  obtain⟨s,u,hxu,hs,hu⟩:=wR h8;injection hxu with h1 h2;subst h1;subst h2;have hn:=zNk acc _ _ _ hok.2;have hz:szT u<(Fr.cons ⟨8,0,s,nob⟩ (fr1 u) r).sz:=by unfold szT;simp only[fr1,Fr.sz];omega
  have hb:=ih u hz hu;have hn:hasN acc s=false:=hn
  cases r with
  | nil=>
   have ha:At l i (nmT s::ky kOf::tkT u):=ha;have e:(bars ((tkF (.cons ⟨8,0,s,nob⟩ (fr1 u) .nil)).map (·.2))).length=(tkT u).length+2:=rfl;rw[e] at hS hA hB ⊢;have e2:i+((tkT u).length+2)=i+2+(tkT u).length:=by omega
   rw[e2] at hS hA hB ⊢;have ht:=hb.ty l (i+2) ha.tail.tail hS hA;rw[vP];unfold consS;rw[uY ha.head hs];simp only;rw[hn,zM ha.tail.head,ht];simp only[hB]
   rfl
  | cons y m q=>
   have ha:At l i ((nmT s::ky kOf::tkT u)++ky kBar::bars ((tkF (.cons y m q)).map (·.2))):=ha;have e:(bars ((tkF (.cons ⟨8,0,s,nob⟩ (fr1 u) (.cons y m q))).map (·.2))).length=(tkT u).length+3+(bars ((tkF (.cons y m q)).map (·.2))).length:=by
    show((nmT s::ky kOf::tkT u)++ky kBar::bars ((tkF (.cons y m q)).map (·.2))).length=_
    simp only[List.length_append,List.length_cons];omega
   rw[e] at hS hA hB ⊢;have h0:=ha.left;have hr:=ha.right;have e1:i+(nmT s::ky kOf::tkT u).length=i+2+(tkT u).length:=by simp only[List.length_cons];omega
   rw[e1] at hr;have hbar:=hr.head;have ht:=hb.ty l (i+2) h0.tail.tail (by rw[zM hbar];decide) (by rw[zM hbar];decide);have e2:i+((tkT u).length+3+(bars ((tkF (.cons y m q)).map (·.2))).length)=i+2+(tkT u).length+1+(bars ((tkF (.cons y m q)).map (·.2))).length:=by omega
   rw[e2] at hS hA hB ⊢;have ea:(acc.app (fr1 (nd 8 s (fr1 u)))).app (.cons y m q)=acc.app (.cons ⟨8,0,s,nob⟩ (fr1 u) (.cons y m q)):=by rw[Fr.app_assoc];rfl
   have hc:=zYr (.cons y m q) (acc.app (fr1 (nd 8 s (fr1 u)))) l (i+2+(tkT u).length+1) (Nat.succ_pos _) (by rw[ea];exact hok) (fun t hz=>ih t (by simp only[fr1,Fr.sz] at hz ⊢;omega)) hr.tail hS hA hB;rw[vP];unfold consS;rw[uY h0.head hs];simp only;rw[hn,zM h0.tail.head,ht];simp only[zM hbar];rw[←ea];exact hc
theorem zS9:∀(n:Nat) (t:Tr),szT t≤n→isT nk lg t 1=true→Back nk lg t
 | 0,t,h,_=>absurd h (by unfold szT;omega)
 | n+1,t,hn,h=>by
  have ih:=zS9 n
  cases wC h with
  | leaf k hk=>
   refine Back.of_atom fun l i ha=>?_
   rcases hk with rfl | rfl | rfl
   ·exact yUi ha.head
   ·exact yUj ha.head
   ·exact yUk ha.head
  | name s hs=>exact Back.of_atom fun l i ha=>yUl ha.head hs
  | two k hk a b hA hB=>
   have hz:szT (nd k nob (fr2 a b))=1+(szT a+szT b):=by unfold szT;simp only[nd,fr2,fr1,Fr.sz];omega
   have bA:=ih a (by unfold szT at *;omega) hA;have bB:=ih b (by unfold szT at *;omega) hB
   rcases hk with rfl | rfl
   ·refine⟨(fun l i _ h=>by cases h),(fun l i _ h=>by cases h),fun l i ha hS hR=>?_⟩
    rw[fF] at ha hS hR ⊢;have e:(wi (is5 a.1) (tkT a)++ky zI::tkT b).length=(wi (is5 a.1) (tkT a)).length+1+(tkT b).length:=by simp only[List.length_append,List.length_cons];omega
    have e1:i+(wi (is5 a.1) (tkT a)++ky zI::tkT b).length=i+(wi (is5 a.1) (tkT a)).length+1+(tkT b).length:=by omega
    rw[e1] at hS hR ⊢;have hk:=ha.right.head;have hp:prodL nk lg l i = .inl (a,i+(wi (is5 a.1) (tkT a)).length):=by
     cases h5:is5 a.1 with
     | false=>rw[h5] at ha hk;exact bA.pr l i ha.left h5 (by rw[show(tkT a).length=(wi false (tkT a)).length from rfl,zM hk];decide)
     | true=>rw[h5] at ha hk;exact eQ (zV1 bA (fun h=>by cases h) ha.left) (by rw[zM hk];decide)
    exact typ_5 hp hk (bB.ty l _ ha.right.tail hS hR)
   ·have key6:∀l i,At l i (tkT (nd 6 nob (fr2 a b)))→key l (i+(tkT (nd 6 nob (fr2 a b))).length) kStar=false→prodL nk lg l i = .inl (nd 6 nob (fr2 a b),i+(tkT (nd 6 nob (fr2 a b))).length):=fun l i ha hS=>by
     rw[fG] at ha hS ⊢;have e1:i+(wi (nG a.1) (tkT a)++ky kStar::wi (is5 b.1) (tkT b)).length=i+(wi (nG a.1) (tkT a)).length+1+(wi (is5 b.1) (tkT b)).length:=by simp only[List.length_append,List.length_cons];omega
     rw[e1] at hS ⊢;have hk:=ha.right.head;refine yUo (zV1 bA (fun h=>h) ha.left) hk ?_
     cases h5:is5 b.1 with
     | false=>rw[h5] at ha hS;exact bB.pr l _ ha.right.tail h5 hS
     | true=>rw[h5] at ha hS;exact eQ (zV1 bB (fun h=>by cases h) ha.right.tail) hS
    exact⟨(fun l i _ h=>by cases h),fun l i ha _ hS=>key6 l i ha hS,fun l i ha hS hR=>zEr (key6 l i ha hS) hR⟩
  | mu s hs c hc h0=>
   refine Back.of_atom fun l i ha=>?_
   rw[lS] at ha ⊢;have h1:=ha.tail;have h2:=h1.tail;have h3:=h2.tail;have hr:=h3.right.head;have hz:szT (nd 7 s c)=1+c.sz:=rfl;have hcc:=zYr c .nil l (i+3) h0 hc (fun t ht=>ih t (by omega)) h3.left (by rw[zM hr];decide) (by rw[zM hr];decide) (by rw[zM hr];decide);have:=yUn ha.head h1.head hs h2.head hcc hr;rw[this];have e1:(ky kMu::nmT s::ky kLeft::(bars ((tkF c).map (·.2))++[ky zY])).length=(bars ((tkF c).map (·.2))).length+4:=by simp only[List.length_append,List.length_cons,List.length_nil]
   rw[e1];have e2:i+3+(bars ((tkF c).map (·.2))).length+1=i+((bars ((tkF c).map (·.2))).length+4):=by omega
   rw[e2]
   rfl
end
section
variable {nk lg:ByteArray→Bool} {l l':List Te} {d:Nat}
theorem zEs {i:Nat} {x:ByteArray} {n:Int} (h:l[i]? = some ⟨ky x,n⟩):hdE lg l i=if x=kTrue then .boo 1 else if x=yH then .boo 0 else if x=kOpen then .opn else if x=kOne then .sel 27 else if x=kTwo then .sel 28 else .no:=by
 unfold hdE;rw[h]
 rfl
end
section
variable (nb:Int→ByteArray)
end
def AtE (l:List Te) (i:Nat) (ts:List Te):Prop:=∃r,l.drop i=ts++r
theorem AtE.left {l a b:List Te} {i:Nat} (h:AtE l i (a++b)):AtE l i a:=by
 obtain⟨r,h⟩:=h;exact⟨b++r,by rw[h,List.append_assoc]⟩
theorem AtE.right {l a b:List Te} {i:Nat} (h:AtE l i (a++b)):AtE l (i+a.length) b:=by
 obtain⟨r,h⟩:=h;refine⟨r,?_⟩;rw[←List.drop_drop,h,List.append_assoc,List.drop_left]
theorem AtE.tail {l a:List Te} {i:Nat} {x:Te} (h:AtE l i (x::a)):AtE l (i+1) a:=AtE.right (a:=[x]) h
theorem AtE.head {l a:List Te} {i:Nat} {x:Te} (h:AtE l i (x::a)):l[i]? = some x:=by
 obtain⟨r,h⟩:=h;have e:(l.drop i)[0]? = l[i+0]?:=List.getElem?_drop;rw[h] at e;exact e.symm
theorem AtE.len {l ts:List Te} {i:Nat} (h:AtE l i ts) (h0:ts≠[]):i+ts.length≤l.length:=by
 obtain⟨r,h⟩:=h;have h1:=congrArg List.length h;rw[List.length_drop,List.length_append] at h1;have:0<ts.length:=List.length_pos_iff.2 h0;omega
theorem AtE.tks {l ts:List Te} {i:Nat} (h:AtE l i ts):At (tks l) i (Proofs.YtbpijnalmakfaaaGreatDoor.tks ts):=by
 obtain⟨r,h⟩:=h;refine⟨Proofs.YtbpijnalmakfaaaGreatDoor.tks r,?_⟩;rw[←yW,←h];exact(List.map_drop ..).symm
section
variable {nk lg:ByteArray→Bool} {l:List Te}
theorem yI {i:Nat} {x:ByteArray} (h:l[i]? = some (ke x)) (y:ByteArray):key (tks l) i y=decide (x=y):=zM (by rw[fL,h];rfl) y
theorem zEt {p:ByteArray→Bool} {i:Nat} {s:ByteArray} (h:l[i]? = some (ne s)) (hp:p s=true):nam p (tks l) i=some s:=uY (by rw[fL,h];rfl) hp
theorem bD {i:Nat} {k:ByteArray} (h:l[i]? = some (ke k)):keysL (tks l) i [k] = .inl ((),i+1):=by
 unfold keysL;rw[yI h,decide_eq_true rfl]
 rfl
theorem yUp {i:Nat} {k m:ByteArray} (h:l[i]? = some (ke k)) (h2:l[i+1]? = some (ke m)):keysL (tks l) i [k,m] = .inl ((),i+2):=by
 unfold keysL;rw[yI h,decide_eq_true rfl];exact bD h2
theorem fH {α:Type} {R:Rs α} {a:α} {j:Nat} {k:ByteArray} (hR:R = .inl (a,j)) (h:l[j]? = some (ke k)):thenK (tks l) R [k] = .inl (a,j+1):=by
 rw[hR]
 show thn (keysL (tks l) j [k]) _=_
 rw[bD h]
 rfl
theorem yZi {α:Type} {R:Rs α} {a:α} {j:Nat} {k m:ByteArray} (hR:R = .inl (a,j)) (h:l[j]? = some (ke k)) (h2:l[j+1]? = some (ke m)):thenK (tks l) R [k,m] = .inl (a,j+2):=by
 rw[hR]
 show thn (keysL (tks l) j [k,m]) _=_
 rw[yUp h h2]
 rfl
theorem zNl {p:ByteArray→Bool} {i:Nat} {s:ByteArray} (h:l[i]? = some (ne s)) (hp:p s=true):nameQ p (tks l) i [] = .inl (s,i+1):=by
 unfold nameQ;rw[zEt h hp]
 rfl
theorem eR {p:ByteArray→Bool} {i:Nat} {s k:ByteArray} (h:l[i]? = some (ne s)) (hp:p s=true) (h1:l[i+1]? = some (ke k)):nameQ p (tks l) i [k] = .inl (s,i+2):=by
 unfold nameQ;rw[zEt h hp]
 show thn (keysL (tks l) (i+1) [k]) _=_
 rw[bD h1]
 rfl
theorem yP {α β:Type} {R:Rs α} {f:α→Nat→Rs β} {a:α} {j:Nat} (h:R = .inl (a,j)):thn R f=f a j:=by rw[h];rfl
structure Fol (lg:ByteArray→Bool) (r:Nat) (l:List Te) (j:Nat):Prop where
 hd:r≤4→(hdE lg l j).any=false
 st:r≤3→key (tks l) j kStar=false
 pm:r≤2→key (tks l) j kPlus=false∧key (tks l) j vU=false
 cm:r≤1→key (tks l) j kEq=false∧key (tks l) j kLess=false
theorem Fol.up {r s j:Nat} (h:Fol lg r l j) (hrs:r≤s):Fol lg s l j:=⟨fun h1=>h.hd (by omega),fun h1=>h.st (by omega),fun h1=>h.pm (by omega),fun h1=>h.cm (by omega)⟩
theorem Fol.key {j:Nat} {x:ByteArray} (h:l[j]? = some (ke x)) (hx:x=kShut∨x=zN∨x=kIn∨x=kEnd∨x=kThen∨x=kElse∨x=kOf∨x=kTo∨x=kBar):Fol lg 1 l j:=by
 have hh:=zEs (lg:=lg) (show l[j]? = some ⟨ky x,0⟩ from h);refine⟨fun _=>?_,fun _=>?_,fun _=>⟨?_,?_⟩,fun _=>⟨?_,?_⟩⟩
 ·rw[hh]
  rcases hx with rfl | rfl | rfl | rfl | rfl | rfl | rfl | rfl | rfl<;>rfl
 all_goals (rw[yI h];rcases hx with rfl | rfl | rfl | rfl | rfl | rfl | rfl | rfl | rfl<;>decide)
theorem Fol.end {j:Nat} (h:l.length≤j):Fol lg 1 l j:=by
 have hk:∀x,Proofs.YtbpijnalmakfaaaGreatDoor.key (tks l) j x=false:=fun x=>kI (by rw[yV];exact h)
 refine⟨fun _=>?_,fun _=>hk _,fun _=>⟨hk _,hk _⟩,fun _=>⟨hk _,hk _⟩⟩;unfold hdE;rw[List.getElem?_eq_none h]
 rfl
def Reach (l:List Te) (T:Nat→Rs Tr) (s:Nat→Option (Nod×Nat)) (N:Nat) (t:Tr) (i e:Nat):Prop:=∃f,l.length-e+1≤f∧lopS T s N i=lop T s f t e
theorem Reach.done {T:Nat→Rs Tr} {s:Nat→Option (Nod×Nat)} {N i e:Nat} {t:Tr} (h:Reach l T s N t i e) (hs:s e=none):lopS T s N i = .inl (t,e):=by
 obtain⟨f,hf,h⟩:=h;rw[h]
 cases f with
 | zero=>omega
 | succ f=>unfold lop;rw[hs]
theorem Reach.of {T:Nat→Rs Tr} {s:Nat→Option (Nod×Nat)} {N i e:Nat} {t:Tr} (h:T i = .inl (t,e)) (hN:l.length-e+1≤N):Reach l T s N t i e:=⟨N,hN,by unfold lopS;rw[h];rfl⟩
theorem Reach.step {T:Nat→Rs Tr} {s:Nat→Option (Nod×Nat)} {N i e d m:Nat} {x:Nod} {a b:Tr} (h:Reach l T s N a i e) (hs:s e=some (x,d)) (hT:T (e+d) = .inl (b,m)) (hem:e<m) (hm:m≤l.length):Reach l T s N (x,fr2 a b) i m:=by
 obtain⟨f,hf,h⟩:=h
 cases f with
 | zero=>omega
 | succ f=>
  refine⟨f,by omega,?_⟩;rw[h]
  conv=>lhs;unfold lop
  rw[hs];simp only;rw[hT]
  rfl
def Pr (nk lg:ByteArray→Bool) (r:Nat) (ts:List Te) (t:Tr):Prop:=∀(l:List Te) (i n N:Nat),2*(l.length-i)+1≤n→l.length-i+1≤N→AtE l i ts→
 match r with
 | 0=>Fol lg 1 l (i+ts.length)→exprF nk lg l (n+1) i = .inl (t,i+ts.length)
 | 1=>Fol lg 1 l (i+ts.length)→cmpS lg l N (qP nk lg l n) i = .inl (t,i+ts.length)
 | 2=>Fol lg 3 l (i+ts.length)→Reach l (mulS lg l N (qP nk lg l n)) (sAdd l) N t i (i+ts.length)
 | 3=>Fol lg 4 l (i+ts.length)→Reach l (appS lg l N (qP nk lg l n)) (sMul l) N t i (i+ts.length)
 | 4=>Reach l (qP nk lg l n) (sApp lg l) N t i (i+ts.length)
 | _=>qP nk lg l n i = .inl (t,i+ts.length)
theorem yZj {j:Nat} (h:Fol lg 4 l j):sApp lg l j=none:=by unfold sApp;rw[h.hd (Nat.le_refl _)];rfl
theorem yZk {j:Nat} (h:Fol lg 3 l j):sMul l j=none:=by unfold sMul;rw[h.st (Nat.le_refl _)];rfl
theorem yZl {j:Nat} (h:Fol lg 2 l j):sAdd l j=none:=by unfold sAdd;rw[(h.pm (Nat.le_refl _)).1,(h.pm (Nat.le_refl _)).2];rfl
theorem yZm {j:Nat} (h:Fol lg 1 l j):sCmp l j=none:=by unfold sCmp;rw[(h.cm (Nat.le_refl _)).1,(h.cm (Nat.le_refl _)).2];rfl
theorem Pr.app {ts:List Te} {t:Tr} (h:Pr nk lg 4 ts t) {l:List Te} {i n N:Nat} (hn:2*(l.length-i)+1≤n) (hN:l.length-i+1≤N) (ha:AtE l i ts) (hf:Fol lg 4 l (i+ts.length)):appS lg l N (qP nk lg l n) i = .inl (t,i+ts.length):=
 (h l i n N hn hN ha).done (yZj hf)
theorem Pr.mul {ts:List Te} {t:Tr} (h:Pr nk lg 3 ts t) {l:List Te} {i n N:Nat} (hn:2*(l.length-i)+1≤n) (hN:l.length-i+1≤N) (ha:AtE l i ts) (hf:Fol lg 3 l (i+ts.length)):mulS lg l N (qP nk lg l n) i = .inl (t,i+ts.length):=
 (h l i n N hn hN ha (hf.up (by omega))).done (yZk hf)
theorem Pr.add {ts:List Te} {t:Tr} (h:Pr nk lg 2 ts t) {l:List Te} {i n N:Nat} (hn:2*(l.length-i)+1≤n) (hN:l.length-i+1≤N) (ha:AtE l i ts) (hf:Fol lg 2 l (i+ts.length)):addS lg l N (qP nk lg l n) i = .inl (t,i+ts.length):=
 (h l i n N hn hN ha (hf.up (by omega))).done (yZl hf)
theorem zNm {A E:Nat→Rs Tr} {i:Nat} {r:Tr×Nat} (h:qL lg l A E i = .inl r):(hdE lg l i).any=true:=by
 unfold qL at h
 cases hh:hdE lg l i with
 | no=>rw[hh] at h;cases h
 | num n=>rfl
 | var n=>rfl
 | boo n=>rfl
 | sel n=>rfl
 | opn=>rfl
theorem sY {T:Nat→Rs Tr} {s:Nat→Option (Nod×Nat)} {N i:Nat} {r:Tr×Nat} (h:lopS T s N i = .inl r):∃q,T i = .inl q:=by
 obtain⟨a,j,h1,_⟩:=qH (b:=r.1) (m:=r.2) h;exact⟨_,h1⟩
theorem zEu {n N i:Nat} {r:Tr×Nat} (h:cmpS lg l N (qP nk lg l n) i = .inl r):(hdE lg l i).any=true:=by
 obtain⟨a,j,h1,_⟩:=qH (b:=r.1) (m:=r.2) h;obtain⟨q,h2⟩:=sY h1;obtain⟨q,h3⟩:=sY h2;obtain⟨q,h4⟩:=sY h3
 cases n with
 | zero=>rw[qP] at h4;cases h4
 | succ n=>rw[yG] at h4;exact zNm h4
theorem pW {i:Nat} (h:(hdE lg l i).any=true) {x:ByteArray} (hx:x=kFn∨x=kLet∨x=kIf∨x=kCase∨x=kFold∨x=kShut):key (tks l) i x=false:=by
 unfold hdE at h
 cases ht:l[i]? with
 | none=>rw[ht] at h;cases h
 | some t=>
  rw[ht] at h;unfold key;rw[fL,ht]
  show(decide (t.t.k=3)&&decide (t.t.s=x))=false
  by_cases h3:t.t.k=3
  ·by_cases hs:t.t.s=x
   ·exfalso
    have h:(hdT lg t).any=true:=h;unfold hdT at h;rw[if_pos h3,hs] at h
    rcases hx with rfl | rfl | rfl | rfl | rfl | rfl<;>cases h
   ·rw[decide_eq_false hs,Bool.and_false]
  ·rw[decide_eq_false h3,Bool.false_and]
theorem zKo {N i:Nat} {A E:Nat→Rs Tr} {M:Nat→Fr→Rs Fr} (h:(hdE lg l i).any=true):exprS nk lg l N A E M i=cmpS lg l N A i:=by
 unfold exprS;rw[pW h (by simp),pW h (by simp),pW h (by simp),pW h (by simp),pW h (by simp)]
 rfl
theorem zYs {n i:Nat} {r:Tr×Nat} (h:exprF nk lg l n i = .inl r):key (tks l) i kShut=false:=by
 cases n with
 | zero=>rw[exprF] at h;cases h
 | succ n=>
  rw[xN] at h;have hk:∀x,key (tks l) i x=true→¬x=kShut→key (tks l) i kShut=false:=fun x hx hne=>by
   unfold key at hx ⊢
   cases ht:(tks l)[i]? with
   | none=>rfl
   | some t=>
    rw[ht] at hx;simp only[Bool.and_eq_true,decide_eq_true_eq] at hx
    show(decide (t.k=3)&&decide (t.s=kShut))=false
    rw[hx.2,decide_eq_false hne,Bool.and_false]
  unfold exprS at h
  split at h
  ·exact hk _ ‹_› (by decide)
  ·split at h
   ·exact hk _ ‹_› (by decide)
   ·split at h
    ·exact hk _ ‹_› (by decide)
    ·split at h
     ·exact hk _ ‹_› (by decide)
     ·split at h
      ·exact hk _ ‹_› (by decide)
      ·exact pW (zEu h) (by simp)
theorem Pr.down1 {ts:List Te} {t:Tr} {r:Nat} (h0:ts≠[]) (h:Pr nk lg (r+1) ts t):Pr nk lg r ts t:=by
 intro l i n N hn hN ha;have hl:=ha.len h0;have hp:0<ts.length:=List.length_pos_iff.2 h0
 match r,h with
 | 0,h=>
  intro hf;have h1:=h l i n (n+1) hn (by omega) ha hf;rw[xN,zKo (zEu h1)];exact h1
 | 1,h=>
  intro hf;have h1:=Pr.add h hn hN ha (hf.up (by omega));unfold cmpS;rw[yP h1,yZm hf]
 | 2,h=>exact fun hf=>Reach.of (Pr.mul h hn hN ha hf) (by omega)
 | 3,h=>exact fun hf=>Reach.of (Pr.app h hn hN ha hf) (by omega)
 | 4,h=>exact Reach.of (h l i n N hn hN ha) (by omega)
 | r+5,h=>exact h l i n N hn hN ha
theorem Pr.down {ts:List Te} {t:Tr} {r s:Nat} (h0:ts≠[]) (h:Pr nk lg s ts t) (hrs:r≤s):Pr nk lg r ts t:=by
 induction s with
 | zero=>have:r=0:=by omega
         subst this;exact h
 | succ s ih=>
  by_cases e:r=s+1
  ·subst e;exact h
  ·exact ih (Pr.down1 h0 h) (by omega)
theorem Pr.paren {ts:List Te} {t:Tr} (h:Pr nk lg 0 ts t):Pr nk lg 5 (wie true ts) t:=by
 intro l i n N hn hN ha
 show qP nk lg l n i = .inl (t,i+(wie true ts).length)
 have ha:AtE l i (ke kOpen::(ts++[ke kShut])):=ha;have hl:=ha.len (by simp);have el:(wie true ts).length=ts.length+2:=by show(ke kOpen::(ts++[ke kShut])).length=_;simp
 have hl:i+(ts.length+2)≤l.length:=by
  have:(ke kOpen::(ts++[ke kShut])).length=ts.length+2:=by simp
  omega
 have h1:=ha.tail.left;have h2:=ha.tail.right.head;rw[el];obtain⟨n,rfl⟩:∃m,n=m+2:=⟨n-2,by omega⟩;have hx:=h l (i+1) n N (by omega) (by omega) h1 (Fol.key h2 (.inl rfl));rw[yG];unfold qL;have hh:=zEs (lg:=lg) (show l[i]? = some ⟨ky kOpen,0⟩ from ha.head);have hh:hdE lg l i = .opn:=hh;rw[hh];simp only;rw[zYs hx,if_neg (by decide),yP hx,if_neg (by rw[yI h2];decide),yP (bD h2)]
 congr 2
 omega
theorem Pr.wie {ts:List Te} {t:Tr} {x:Nod} (h0:ts≠[]) (h:Pr nk lg (lvl x) ts t) {r:Nat} (hr:r≤5):Pr nk lg r (wie (low x r) ts) t:=by
 cases hb:low x r with
 | false=>exact h.down h0 (by have:=of_decide_eq_false hb;omega)
 | true=>exact(Pr.paren (h.down h0 (Nat.zero_le _))).down (dH h0) hr
end
section
variable {nk lg:ByteArray→Bool} {nb:Int→ByteArray}
theorem yZn (ts:List Tk):(tyE ts).length=ts.length:=List.length_map ..
theorem mN {α:Type} {a:α} {j j':Nat} (h:j=j'):(Sum.inl (a,j):Rs α) = .inl (a,j'):=by rw[h]
theorem Pr.ex {ts:List Te} {t:Tr} (h:Pr nk lg 0 ts t) {l:List Te} {i n:Nat} (hn:2*(l.length-i)+2≤n) (ha:AtE l i ts) (hf:Fol lg 1 l (i+ts.length)):exprF nk lg l n i = .inl (t,i+ts.length):=by
 obtain⟨m,rfl⟩:∃m,n=m+1:=⟨n-1,by omega⟩;exact h l i m (l.length-i+1) (by omega) (Nat.le_refl _) ha hf
theorem yX6 {l:List Te} {i:Nat} {t:Tr} (h:isT nk lg t 1=true) (ha:AtE l i (tyE (tkT t))) {x:ByteArray} (hx:l[i+(tyE (tkT t)).length]? = some (ke x)) (h1:¬x=kStar) (h2:¬x=zI):typL nk lg (tks l) i = .inl (t,i+(tyE (tkT t)).length):=by
 have h3:=ha.tks;rw[eM] at h3;rw[yZn] at hx ⊢;exact(zS9 _ t (Nat.le_refl _) h).ty (tks l) i h3 (by rw[yI hx];exact decide_eq_false h1) (by rw[yI hx];exact decide_eq_false h2)
theorem bE:∀(f acc:Fr) (l:List Te) (i n:Nat),0<f.len→ArmOk nk lg f→(∀t,szT t<f.sz→isT nk lg t 2=true→Pr nk lg 0 (tkE nb t) t)→2*(l.length-i)+1≤n→AtE l i (barsE (yZ nb f)++[ke kEnd])→
  armsF nk lg l n i acc = .inl (acc.app f,i+(barsE (yZ nb f)).length+1)
 | .nil,_,_,_,_,h,_,_,_,_=>absurd h (Nat.lt_irrefl _)
 | .cons x k r,acc,l,i,n,_,hok,ih,hn,ha=>by
  obtain⟨h9,hr⟩:=zQb hok;obtain⟨c,y,b,hxb,hc,hy,hb⟩:=vR h9;injection hxb with e1 e2;subst e1;subst e2;have hz:szT b<(Fr.cons ⟨34,0,c,y⟩ (fr1 b) r).sz:=by unfold szT;simp only[fr1,Fr.sz];omega
  have pb:=ih b hz hb;have hl:=ha.len (by simp);obtain⟨n,rfl⟩:∃m,n=m+1:=⟨n-1,by omega⟩;have es:yZ nb (.cons ⟨34,0,c,y⟩ (fr1 b) r)=(ne c::ne y::ke kFat::tkE nb b)::yZ nb r:=by unfold yZ;rw[dY hb];rfl
  rw[es] at ha hl ⊢;rw[tW];unfold armsS
  cases r with
  | nil=>
   have e0:barsE ((ne c::ne y::ke kFat::tkE nb b)::yZ nb .nil)=ne c::ne y::ke kFat::tkE nb b:=rfl;rw[e0] at ha hl ⊢;have h1:=ha.left;have h2:=ha.right.head;simp only[List.length_append,List.length_cons,List.length_nil] at hl h2;have h3:=h1.tail.tail.tail;have h2:l[i+1+1+1+(tkE nb b).length]? = some (ke kEnd):=by rw[←h2];congr 1;omega
   rw[yP (zNl h1.head hc),yP (eR h1.tail.head hy h1.tail.tail.head),yP (pb.ex (by omega) h3 (Fol.key h2 (by simp))),if_neg (by rw[yI h2];decide),yP (bD h2)];exact mN (by simp only[List.length_cons];omega)
  | cons z m q=>
   have e0:barsE ((ne c::ne y::ke kFat::tkE nb b)::yZ nb (.cons z m q))=(ne c::ne y::ke kFat::tkE nb b)++ke kBar::barsE (yZ nb (.cons z m q)):=rfl;rw[e0] at ha hl ⊢;rw[List.append_assoc] at ha;have h1:=ha.left;have h4:=ha.right;have h2:=h4.head;simp only[List.length_append,List.length_cons,List.length_nil] at hl h2;have h3:=h1.tail.tail.tail;have h2:l[i+1+1+1+(tkE nb b).length]? = some (ke kBar):=by rw[←h2];congr 1;omega
   rw[yP (zNl h1.head hc),yP (eR h1.tail.head hy h1.tail.tail.head),yP (pb.ex (by omega) h3 (Fol.key h2 (by simp))),if_pos (by rw[yI h2];decide)];have h5:AtE l (i+1+1+1+(tkE nb b).length+1) (barsE (yZ nb (.cons z m q))++[ke kEnd]):=by
    have:=h4.tail;have e:i+(ne c::ne y::ke kFat::tkE nb b).length+1=i+1+1+1+(tkE nb b).length+1:=by simp only[List.length_cons];omega
    rw[e] at this;exact this
   have hc:=bE (.cons z m q) (acc.app (fr1 (⟨34,0,c,y⟩,fr1 b))) l (i+1+1+1+(tkE nb b).length+1) n (Nat.succ_pos _) hr (fun t ht=>ih t (by simp only[fr1,Fr.sz] at ht ⊢;omega)) (by omega) h5;rw[show i+1+2=i+1+1+1 from rfl,hc,Fr.app_assoc];exact mN (by simp only[List.length_append,List.length_cons];omega)
theorem zEv {k:Int} (h1:1≤k) (h2:k≤5):(k=1∧lvl (opN k)=2∧lft (opN k)=2)∨(k=2∧lvl (opN k)=2∧lft (opN k)=2)∨(k=3∧lvl (opN k)=3∧lft (opN k)=3)∨(k=4∧lvl (opN k)=1∧lft (opN k)=2)∨(k=5∧lvl (opN k)=1∧lft (opN k)=2):=by
 have:k=1∨k=2∨k=3∨k=4∨k=5:=by omega
 rcases this with rfl | rfl | rfl | rfl | rfl
 ·exact .inl ⟨rfl,rfl,rfl⟩
 ·exact .inr (.inl ⟨rfl,rfl,rfl⟩)
 ·exact .inr (.inr (.inl ⟨rfl,rfl,rfl⟩))
 ·exact .inr (.inr (.inr (.inl ⟨rfl,rfl,rfl⟩)))
 ·exact .inr (.inr (.inr (.inr ⟨rfl,rfl,rfl⟩)))
theorem Fol.sign {l:List Te} {j r:Nat} {x:ByteArray} (h:l[j]? = some (ke x)) (hx:(r=4∧x=kStar)∨(r=3∧(x=kPlus∨x=vU))∨(r=2∧(x=kEq∨x=kLess))):Fol lg r l j:=by
 have hh:=zEs (lg:=lg) (show l[j]? = some ⟨ky x,0⟩ from h)
 rcases hx with ⟨rfl,rfl⟩ | ⟨rfl,rfl | rfl⟩ | ⟨rfl,rfl | rfl⟩
 all_goals
  refine⟨fun _=>?_,fun _=>?_,fun _=>⟨?_,?_⟩,fun _=>⟨?_,?_⟩⟩
  ·rw[hh];rfl
  all_goals first | omega | (rw[yI h];decide)
theorem yX7:∀(n:Nat) (t:Tr),szT t≤n→isT nk lg t 2=true→Pr nk lg (lvl t.1) (tkE nb t) t
 | 0,t,h,_=>absurd h (by unfold szT;omega)
 | n+1,t,hn,h=>by
  have ih:=yX7 n;have ih0:∀t,szT t≤n→isT nk lg t 2=true→Pr nk lg 0 (tkE nb t) t:=fun t ht h=>(ih t ht h).down (yO h) (Nat.zero_le _)
  cases wZ h with
  | num k h1 h2=>
   intro l i n N hn hN ha
   show qP nk lg l n i=_
   rw[zW1] at ha;obtain⟨n,rfl⟩:∃m,n=m+1:=⟨n-1,by omega⟩;have hh:hdE lg l i = .num k:=by
    rw[pZ ha.head];unfold hdT;rw[if_neg (show ¬((2:Int)=3) by decide),if_pos rfl,if_pos ⟨h1,h2⟩]
   rw[yG];unfold qL;rw[hh]
   rfl
  | boo k hb=>
   intro l i n N hn hN ha
   show qP nk lg l n i=_
   rw[oI] at ha;obtain⟨n,rfl⟩:∃m,n=m+1:=⟨n-1,by omega⟩;have hh:hdE lg l i = .boo k:=by
    rw[pZ ha.head]
    rcases hb with rfl | rfl<;>rfl
   rw[yG];unfold qL;rw[hh]
   rfl
  | unit=>
   intro l i n N hn hN ha
   show qP nk lg l n i=_
   rw[eD] at ha;obtain⟨n,rfl⟩:∃m,n=m+1:=⟨n-1,by omega⟩;have hh:hdE lg l i = .opn:=by rw[pZ ha.head];rfl
   rw[yG];unfold qL;rw[hh];simp only;rw[if_pos (by rw[yI ha.tail.head];decide)]
   rfl
  | var s hs=>
   intro l i n N hn hN ha
   show qP nk lg l n i=_
   rw[zW2] at ha;obtain⟨n,rfl⟩:∃m,n=m+1:=⟨n-1,by omega⟩;have hh:hdE lg l i = .var s:=by
    rw[pZ ha.head,show hdT lg (ne s)=(if lg s=true then .var s else .no) from rfl,if_pos hs]
   rw[yG];unfold qL;rw[hh]
   rfl
  | sel k hk a hA=>
   have hz:szT (nd k nob (fr1 a))=1+szT a:=mE _ a;have pA:=(ih a (by omega) hA).wie (r:=5) (yO hA) (by omega);have hv:lvl (nd k nob (fr1 a)).1=5:=by rcases hk with rfl | rfl<;>rfl
   rw[hv];intro l i n N hn hN ha
   show qP nk lg l n i=_
   rw[oL hk hA] at ha ⊢;have hl:=ha.len (by simp);have hl:i+((wie (low a.1 5) (tkE nb a)).length+1)≤l.length:=hl;obtain⟨n,rfl⟩:∃m,n=m+1:=⟨n-1,by omega⟩;have hh:hdE lg l i = .sel k:=by
    rw[pZ ha.head]
    rcases hk with rfl | rfl<;>rfl
   have h1:qP nk lg l n (i+1) = .inl (a,i+1+(wie (low a.1 5) (tkE nb a)).length):=pA l (i+1) n (l.length+1) (by omega) (by omega) ha.tail;rw[yG];unfold qL;rw[hh];simp only;rw[yP h1];exact mN (by simp only[List.length_cons];omega)
  | pair a b hA hB=>
   have hz:szT (nd 26 nob (fr2 a b))=1+(szT a+szT b):=zQ _ a b;have pA:=ih0 a (by omega) hA;have pB:=ih0 b (by omega) hB;intro l i n N hn hN ha
   show qP nk lg l n i=_
   rw[tX hA hB] at ha ⊢;have hl:=ha.len (by simp);simp only[List.length_append,List.length_cons,List.length_nil] at hl;obtain⟨n,rfl⟩:∃m,n=m+1:=⟨n-1,by omega⟩;have hh:hdE lg l i = .opn:=by rw[pZ ha.head];rfl
   have h1:=ha.tail.left;have h2:=ha.tail.right;have h3:=h2.tail.left;have h4:=h2.tail.right.head;have x1:=pA.ex (n:=n) (by omega) h1 (Fol.key h2.head (by simp));have x2:=pB.ex (n:=n) (by omega) h3 (Fol.key h4 (by simp));rw[yG];unfold qL;rw[hh];simp only;rw[zYs x1,if_neg (by decide),yP x1,if_pos (by rw[yI h2.head];decide),yP (fH x2 h4)];exact mN (by simp only[List.length_append,List.length_cons,List.length_nil];omega)
  | app a b hA hB=>
   have hz:szT (nd 25 nob (fr2 a b))=1+(szT a+szT b):=zQ _ a b;have pA:=(ih a (by omega) hA).wie (r:=4) (yO hA) (by omega);have pB:=(ih b (by omega) hB).wie (r:=5) (yO hB) (by omega);have nA:wie (low a.1 4) (tkE nb a)≠[]:=dH (yO hA);have nB:wie (low b.1 5) (tkE nb b)≠[]:=dH (yO hB);intro l i n N hn hN ha
   show Reach l _ _ N _ i _
   rw[oK hA hB] at ha ⊢;have h1:=ha.left;have h2:=ha.right;have l2:=h2.len nB;have lp:0<(wie (low b.1 5) (tkE nb b)).length:=List.length_pos_iff.2 nB;have x1:=pA l i n N hn hN h1;have x2:qP nk lg l n (i+(wie (low a.1 4) (tkE nb a)).length) = .inl (b,i+(wie (low a.1 4) (tkE nb a)).length+(wie (low b.1 5) (tkE nb b)).length):=pB l _ n (l.length+1) (by omega) (by omega) h2;have hs:sApp lg l (i+(wie (low a.1 4) (tkE nb a)).length)=some (⟨25,0,nob,nob⟩,0):=by
    unfold sApp;have:(hdE lg l (i+(wie (low a.1 4) (tkE nb a)).length)).any=true:=by
     obtain⟨m,rfl⟩:∃m,n=m+1:=⟨n-1,by omega⟩;rw[yG] at x2;exact zNm x2
    rw[this]
    rfl
   have:=x1.step hs x2 (by omega) l2;rw[Nat.add_assoc,←List.length_append] at this;exact this
  | op k k1 k2 a b hA hB=>
   have hz:szT (opN k,fr2 a b)=1+(szT a+szT b):=zQ _ a b;have pA:=fun r (hr:r≤5)=>(ih a (by omega) hA).wie (r:=r) (yO hA) hr
   have pB:=fun r (hr:r≤5)=>(ih b (by omega) hB).wie (r:=r) (yO hB) hr
   have nA:∀r,wie (low a.1 r) (tkE nb a)≠[]:=fun r=>dH (yO hA)
   have nB:∀r,wie (low b.1 r) (tkE nb b)≠[]:=fun r=>dH (yO hB)
   show Pr nk lg (lvl (opN k)) _ _
   rw[zUi hA hB];obtain⟨r,hr,hl⟩:∃r,lvl (opN k)=r∧r≤3:=⟨_,rfl,by rcases zEv k1 k2 with h | h | h | h | h<;>omega⟩
   obtain⟨q,hq⟩:∃q,lft (opN k)=q:=⟨_,rfl⟩;have hcases:=zEv k1 k2;rw[hr,hq] at hcases;rw[hr,hq];intro l i m N hm hN ha;have h1:=ha.left;have h2:=ha.right;have h3:=h2.tail;have hs:=h2.head;obtain⟨ta,hta⟩:∃ta,wie (low a.1 q) (tkE nb a)=ta:=⟨_,rfl⟩;obtain⟨tb,htb⟩:∃tb,wie (low b.1 (r+1)) (tkE nb b)=tb:=⟨_,rfl⟩;have nb1:tb≠[]:=by rw[←htb];exact nB _
   have pa:=pA q (by omega);have pb:=pB (r+1) (by omega);rw[hta] at h1 h2 h3 hs pa ⊢;rw[htb] at h2 h3 pb ⊢;have l3:=h3.len nb1;have lp:0<tb.length:=List.length_pos_iff.2 nb1;have e:i+(ta++ke (signB k)::tb).length=i+ta.length+1+tb.length:=by simp only[List.length_append,List.length_cons];omega
   rw[e];have hkey:=fun y=>yI hs y
   rcases hcases with ⟨rfl,rfl,rfl⟩ | ⟨rfl,rfl,rfl⟩ | ⟨rfl,rfl,rfl⟩ | ⟨rfl,rfl,rfl⟩ | ⟨rfl,rfl,rfl⟩
   ·intro hf
    have x1:=pa l i m N hm hN h1 (Fol.sign hs (.inr (.inl ⟨rfl,.inl rfl⟩)));have x2:=pb.mul (n:=m) (N:=N) (by omega) (by omega) h3 hf;exact x1.step (show sAdd l _=some (opN 1,1) by unfold sAdd;rw[hkey];rfl) x2 (by omega) l3
   ·intro hf
    have x1:=pa l i m N hm hN h1 (Fol.sign hs (.inr (.inl ⟨rfl,.inr rfl⟩)));have x2:=pb.mul (n:=m) (N:=N) (by omega) (by omega) h3 hf;exact x1.step (show sAdd l _=some (opN 2,1) by unfold sAdd;rw[hkey,hkey];rfl) x2 (by omega) l3
   ·intro hf
    have x1:=pa l i m N hm hN h1 (Fol.sign hs (.inl ⟨rfl,rfl⟩));have x2:=pb.app (n:=m) (N:=N) (by omega) (by omega) h3 hf;exact x1.step (show sMul l _=some (opN 3,1) by unfold sMul;rw[hkey];rfl) x2 (by omega) l3
   ·intro hf
    have x1:=pa.add (n:=m) (N:=N) hm hN h1 (Fol.sign hs (.inr (.inr ⟨rfl,.inl rfl⟩)));have x2:=pb.add (n:=m) (N:=N) (by omega) (by omega) h3 (hf.up (by omega));unfold cmpS;rw[yP x1,show sCmp l _=some (opN 4,1) by unfold sCmp;rw[hkey];rfl];simp only;rw[yP x2]
   ·intro hf
    have x1:=pa.add (n:=m) (N:=N) hm hN h1 (Fol.sign hs (.inr (.inr ⟨rfl,.inr rfl⟩)));have x2:=pb.add (n:=m) (N:=N) (by omega) (by omega) h3 (hf.up (by omega));unfold cmpS;rw[yP x1,show sCmp l _=some (opN 5,1) by unfold sCmp;rw[hkey,hkey];rfl];simp only;rw[yP x2]
  | lam s hs a b hA hB=>
   have hz:szT (nd 24 s (fr2 a b))=1+(szT a+szT b):=zQ _ a b;have pB:=ih0 b (by omega) hB;intro l i n N hn hN ha
   show _→exprF nk lg l (n+1) i=_
   rw[oJ hA hB] at ha ⊢;intro hf;have hl:=ha.len (by simp);simp only[List.length_append,List.length_cons] at hl hf;have t1:=ha.tail;have t2:=t1.tail;have t3:=t2.tail;have t4:=t3.tail;have t5:=t4.right;have y:=yX6 hA t4.left t5.head (by decide) (by decide);have x:=pB.ex (n:=n) (by omega) t5.tail.tail (by rw[show i+1+1+1+1+(tyE (tkT a)).length+1+1+(tkE nb b).length=i+((tyE (tkT a)).length+((tkE nb b).length+1+1)+1+1+1+1) by omega];exact hf);rw[xN];unfold exprS;rw[if_pos (by rw[yI ha.head];decide)];unfold lamS;rw[yP (bD t1.head),yP (eR t2.head hs t3.head),yP (yZi y t5.head t5.tail.head),yP x];exact mN (by simp only[List.length_append,List.length_cons];omega)
  | letE s hs a b hA hB=>
   have hz:szT (nd 29 s (fr2 a b))=1+(szT a+szT b):=zQ _ a b;have pA:=ih0 a (by omega) hA;have pB:=ih0 b (by omega) hB;intro l i n N hn hN ha
   show _→exprF nk lg l (n+1) i=_
   rw[oM hA hB] at ha ⊢;intro _;have hl:=ha.len (by simp);simp only[List.length_append,List.length_cons,List.length_nil] at hl;have t1:=ha.tail;have t2:=t1.tail;have t3:=t2.tail;have t4:=t3.right;have t5:=t4.tail;have t6:=t5.right.head;have x1:=pA.ex (n:=n) (by omega) t3.left (Fol.key t4.head (by simp));have x2:=pB.ex (n:=n) (by omega) t5.left (Fol.key t6 (by simp));rw[xN];unfold exprS;rw[if_neg (by rw[yI ha.head];decide),if_pos (by rw[yI ha.head];decide)];unfold letS;rw[yP (eR t1.head hs t2.head),yP (fH x1 t4.head),yP (fH x2 t6)];exact mN (by simp only[List.length_append,List.length_cons,List.length_nil];omega)
  | ifE a b c hA hB hC=>
   have hz:szT (nd 30 nob (fr3 a b c))=1+(szT a+szT b+szT c):=dG _ a b c;have pA:=ih0 a (by omega) hA;have pB:=ih0 b (by omega) hB;have pC:=ih0 c (by omega) hC;intro l i n N hn hN ha
   show _→exprF nk lg l (n+1) i=_
   rw[zUh hA hB hC] at ha ⊢;intro hf;have hl:=ha.len (by simp);simp only[List.length_append,List.length_cons] at hl hf;have t1:=ha.tail;have t2:=t1.right;have t3:=t2.tail;have t4:=t3.right;have x1:=pA.ex (n:=n) (by omega) t1.left (Fol.key t2.head (by simp));have x2:=pB.ex (n:=n) (by omega) t3.left (Fol.key t4.head (by simp));have x3:=pC.ex (n:=n) (by omega) t4.tail (by rw[show i+1+(tkE nb a).length+1+(tkE nb b).length+1+(tkE nb c).length=i+((tkE nb a).length+((tkE nb b).length+((tkE nb c).length+1)+1)+1) by omega];exact hf);rw[xN];unfold exprS;rw[if_neg (by rw[yI ha.head];decide),if_neg (by rw[yI ha.head];decide),if_pos (by rw[yI ha.head];decide)];unfold ifS;rw[yP (fH x1 t2.head),yP (fH x2 t4.head),yP x3];exact mN (by simp only[List.length_append,List.length_cons];omega)
  | caseE a hA k hk h0=>
   have hz:szT (nd 32 nob (.cons a.1 a.2 k))=1+(szT a+k.sz):=rfl;have pA:=ih0 a (by omega) hA;intro l i n N hn hN ha
   show _→exprF nk lg l (n+1) i=_
   rw[tY hA] at ha ⊢;intro _;have hl:=ha.len (by simp);simp only[List.length_append,List.length_cons,List.length_nil] at hl;have t1:=ha.tail;have t2:=t1.right;have x1:=pA.ex (n:=n) (by omega) t1.left (Fol.key t2.head (by simp));have x2:=bE k .nil l _ n h0 hk (fun t ht h=>ih0 t (by omega) h) (by omega) t2.tail;rw[xN];unfold exprS;rw[if_neg (by rw[yI ha.head];decide),if_neg (by rw[yI ha.head];decide),if_neg (by rw[yI ha.head];decide),if_pos (by rw[yI ha.head];decide)];unfold caseS;rw[yP (fH x1 t2.head),yP x2];exact mN (by simp only[List.length_append,List.length_cons,List.length_nil];omega)
  | foldE a t hA hT k hk h0=>
   have hz:szT (nd 33 nob (.cons a.1 a.2 (.cons t.1 t.2 k)))=1+(szT a+(szT t+k.sz)):=rfl;have pA:=ih0 a (by omega) hA;intro l i n N hn hN ha
   show _→exprF nk lg l (n+1) i=_
   rw[tZ hA hT] at ha ⊢;intro _;have hl:=ha.len (by simp);simp only[List.length_append,List.length_cons,List.length_nil] at hl;have t1:=ha.tail;have t2:=t1.right;have t3:=t2.tail;have t4:=t3.right;have x1:=pA.ex (n:=n) (by omega) t1.left (Fol.key t2.head (by simp));have y:=yX6 hT t3.left t4.head (by decide) (by decide);have x2:=bE k .nil l _ n h0 hk (fun t ht h=>ih0 t (by omega) h) (by omega) t4.tail;rw[xN];unfold exprS;rw[if_neg (by rw[yI ha.head];decide),if_neg (by rw[yI ha.head];decide),if_neg (by rw[yI ha.head];decide),if_neg (by rw[yI ha.head];decide),if_pos (by rw[yI ha.head];decide)];unfold foldS;rw[yP (fH x1 t2.head),yP (fH y t4.head),yP x2];exact mN (by simp only[List.length_append,List.length_cons,List.length_nil];omega)
theorem zKp {t:Tr} (h:isT nk lg t 2=true) {n:Nat} (hn:2*(tkE nb t).length+2≤n):exprF nk lg (tkE nb t) n 0 = .inl (t,(tkE nb t).length):=by
 have ha:AtE (tkE nb t) 0 (tkE nb t):=⟨[],by simp⟩;have h1:=((yX7 (nb:=nb) _ t (Nat.le_refl _) h).down (yO h) (Nat.zero_le _)).ex (n:=n) (by omega) ha (Fol.end (by omega));rw[h1,Nat.zero_add]
end
section
variable {nk lg:ByteArray→Bool}
theorem zEw {b:Bool} {ts:List Tk} {x:Tk} (h:x∈wi b ts):x∈ts∨x=ky kOpen∨x=ky kShut:=by
 cases b with
 | false=>exact .inl h
 | true=>
  rcases List.mem_cons.1 h with h | h
  ·exact .inr (.inl h)
  ·rcases List.mem_append.1 h with h | h
   ·exact .inl h
   ·exact .inr (.inr (List.mem_singleton.1 h))
end
end Go.Proofs.YtbpijnalmakfaaaGreatDoor
