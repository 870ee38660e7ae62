/-
  Plain definitions, without the program: which trees are source, by the table of the chapter: each form a row.
-/
import Derived.Test.YtbpijnalmakfaaaGreatDoorGw13
namespace Go.Proofs.YtbpijnalmakfaaaGreatDoor
structure Rw where
 cat:Int
 kind:Int
 nm:List UInt8
 mr:List UInt8
 fr:Int
 toF:Int
 ks:List UInt8
def RWS:List Rw:=[
 ⟨1,1,[],[],0,0,[]⟩,⟨1,2,[],[],0,0,[]⟩,⟨1,3,[],[],0,0,[]⟩,⟨1,4,[108],[],0,0,[]⟩,
 ⟨1,5,[],[],0,0,[116,116]⟩,⟨1,6,[],[],0,0,[116,116]⟩,⟨1,7,[110],[],0,0,[67]⟩,
 ⟨2,20,[],[],-1073741824,1073741824,[]⟩,⟨2,21,[],[],0,1,[]⟩,⟨2,22,[],[],0,0,[]⟩,⟨2,23,[108],[],0,0,[]⟩,
 ⟨2,24,[110],[],0,0,[116,101]⟩,⟨2,25,[],[],0,0,[101,101]⟩,⟨2,26,[],[],0,0,[101,101]⟩,⟨2,27,[],[],0,0,[101]⟩,
 ⟨2,28,[],[],0,0,[101]⟩,⟨2,29,[110],[],0,0,[101,101]⟩,⟨2,30,[],[],0,0,[101,101,101]⟩,⟨2,31,[],[],1,5,[101,101]⟩,
 ⟨2,32,[],[],0,0,[101,65]⟩,⟨2,33,[],[],0,0,[101,116,65]⟩,
 ⟨3,40,[],[],0,0,[42,105]⟩,⟨3,41,[108],[],0,0,[]⟩,⟨3,42,[110],[],0,0,[109]⟩,⟨3,43,[],[],0,1,[109,115]⟩,
 ⟨4,50,[],[],0,0,[42,112]⟩,⟨4,51,[110],[],0,0,[]⟩,⟨4,52,[108],[],0,0,[115,116]⟩,
 ⟨5,60,[110],[],0,0,[116]⟩,⟨5,61,[110],[],0,0,[116]⟩,⟨5,61,[110],[],0,0,[]⟩,⟨5,62,[110],[],0,0,[67]⟩,
 ⟨5,63,[110],[],0,0,[115]⟩,⟨5,64,[],[],0,0,[115]⟩,⟨5,65,[108],[108],0,0,[]⟩,
 ⟨6,70,[110],[],0,0,[101]⟩,⟨6,70,[110],[],0,0,[116,101]⟩,⟨6,71,[110],[],0,0,[116]⟩,⟨6,72,[110],[],0,0,[67]⟩,
 ⟨6,73,[110],[],0,0,[109]⟩,⟨6,74,[110],[],0,0,[115]⟩,⟨6,75,[110],[110],0,0,[115,109]⟩,⟨6,76,[108],[],0,0,[]⟩,⟨6,77,[108],[],0,0,[]⟩,
 ⟨7,80,[],[],0,0,[42,100]⟩,
 ⟨8,8,[110],[],0,0,[116]⟩,⟨9,34,[110],[110],0,0,[101]⟩]
def isEmp (s:ByteArray):Bool:=decide (s.size=0)
def wordR (nk lg:ByteArray→Bool) (s:ByteArray) (w:List UInt8):Bool:=if w=[110] then nk s else if w=[108] then lg s else isEmp s
def catOf (c:UInt8):Int:=if c=116 then 1 else if c=101 then 2 else if c=109 then 3 else if c=115 then 4 else if c=112 then 5 else 6
structure Inf where
 k:Int
 a:ByteArray
 is:Int→Bool
def kB:List Inf→Bool
 | []=>true
 | i::l=>l.all (fun j=>decide (i.a≠j.a))&&kB l
def seqOk:List Inf→List UInt8→Bool
 | l,[]=>l.isEmpty
 | l,c::r=>
  if c=42 then l.all fun i=>i.is (catOf (r.headD 0)) && !(decide (r.headD 0=105)&&(decide (i.k=74)||decide (i.k=75)))
  else if c=67 then !l.isEmpty&&(l.all fun i=>i.is 8)&&kB l
  else if c=65 then !l.isEmpty&&l.all fun i=>i.is 9
  else match l with
   | []=>false
   | i::t=>i.is (catOf c)&&seqOk t r
def fitR (nk lg:ByteArray→Bool) (x:Nod) (l:List Inf) (c:Int) (r:Rw):Bool:=
 decide (r.cat=c)&&decide (r.kind=x.k)&&wordR nk lg x.a r.nm&&wordR nk lg x.m r.mr&&decide (r.fr≤x.n)&&decide (x.n≤r.toF)&&seqOk l r.ks
def isX (nk lg:ByteArray→Bool) (x:Nod) (l:List Inf) (c:Int):Bool:=RWS.any (fitR nk lg x l c)
def infF (nk lg:ByteArray→Bool):Fr→List Inf
 | .nil=>[]
 | .cons x k r=>⟨x.k,x.a,isX nk lg x (infF nk lg k)⟩::infF nk lg r
def isT (nk lg:ByteArray→Bool) (t:Tr) (c:Int):Bool:=isX nk lg t.1 (infF nk lg t.2) c
def infT (nk lg:ByteArray→Bool) (t:Tr):Inf:=⟨t.1.k,t.1.a,isT nk lg t⟩
def chk (nk lg:ByteArray→Bool) (o:Option Tr) (c:Int):Int:=match o with
 | none=>1
 | some t=>if 8192<szT t then 3 else if 60<dpT t then 7 else if isT nk lg t c then 0 else 16
section
variable {nk lg:ByteArray→Bool}
theorem jR (f:Fr):(infF nk lg f).length=f.len:=by
 induction f with
 | nil=>rfl
 | cons x k r _ ih=>simp only[infF,List.length_cons,Fr.len,ih]
theorem nD (f:Fr) (i:Nat):(infF nk lg f)[i]? = (f.get i).map (infT nk lg):=by
 induction f generalizing i with
 | nil=>rfl
 | cons x k r _ ih=>
  cases i with
  | zero=>rfl
  | succ i=>exact ih i
theorem qY {x:Nod} {l:List Inf} {c:Int}:isX nk lg x l c=true↔∃r∈RWS,fitR nk lg x l c r=true:=by
 unfold isX;rw[List.any_eq_true]
theorem zH {x:Nod} {l:List Inf} {c:Int} {r:Rw}:fitR nk lg x l c r=true↔r.cat=c∧r.kind=x.k∧wordR nk lg x.a r.nm=true∧wordR nk lg x.m r.mr=true∧r.fr≤x.n∧x.n≤r.toF∧seqOk l r.ks=true:=by
 unfold fitR;simp only[Bool.and_eq_true,decide_eq_true_iff,and_assoc]
end
structure Tk where
 k:Int
 s:ByteArray
abbrev Rs (α:Type):=(α×Nat) ⊕ (Nat×Int)
def kInt:ByteArray:=⟨#[105,110,116]⟩
def kBool:ByteArray:=⟨#[98,111,111,108]⟩
def kUnit:ByteArray:=⟨#[117,110,105,116]⟩
def kOpen:ByteArray:=⟨#[40]⟩
def kShut:ByteArray:=⟨#[41]⟩
def kMu:ByteArray:=⟨#[109,117]⟩
def kLeft:ByteArray:=⟨#[123]⟩
def zY:ByteArray:=⟨#[125]⟩
def kOf:ByteArray:=⟨#[111,102]⟩
def kBar:ByteArray:=⟨#[124]⟩
def zI:ByteArray:=⟨#[45,62]⟩
def kStar:ByteArray:=⟨#[42]⟩
def nob:ByteArray:=⟨#[]⟩
def key (l:List Tk) (i:Nat) (x:ByteArray):Bool:=match l[i]? with
 | some t=>decide (t.k=3)&&decide (t.s=x)
 | none=>false
def nam (p:ByteArray→Bool) (l:List Tk) (i:Nat):Option ByteArray:=match l[i]? with
 | some t=>if decide (t.k=1)&&p t.s then some t.s else none
 | none=>none
def nd (k:Int) (a:ByteArray) (ks:Fr):Tr:=(⟨k,0,a,nob⟩,ks)
def fr1 (a:Tr):Fr:=.cons a.1 a.2 .nil
def fr2 (a b:Tr):Fr:=.cons a.1 a.2 (fr1 b)
def hasN:Fr→ByteArray→Bool
 | .nil,_=>false
 | .cons x _ r,s=>decide (x.a=s)||hasN r s
section
variable (nk lg:ByteArray→Bool)
mutual
def typF:Nat→List Tk→Nat→Rs Tr
 | 0,_,i=>.inr (i,6)
 | n+1,l,i=>match prodF n l i with
  | .inr e=>.inr e
  | .inl (a,j)=>if key l j zI then (match typF n l (j+1) with
   | .inr e=>.inr e
   | .inl (b,m)=>.inl (nd 5 nob (fr2 a b),m)) else .inl (a,j)
def prodF:Nat→List Tk→Nat→Rs Tr
 | 0,_,i=>.inr (i,6)
 | n+1,l,i=>match atomF n l i with
  | .inr e=>.inr e
  | .inl (a,j)=>if key l j kStar then (match prodF n l (j+1) with
   | .inr e=>.inr e
   | .inl (b,m)=>.inl (nd 6 nob (fr2 a b),m)) else .inl (a,j)
def atomF:Nat→List Tk→Nat→Rs Tr
 | 0,_,i=>.inr (i,6)
 | n+1,l,i=>match nam lg l i with
  | some s=>.inl (nd 4 s .nil,i+1)
  | none=>
   if key l i kInt then .inl (nd 1 nob .nil,i+1)
   else if key l i kBool then .inl (nd 2 nob .nil,i+1)
   else if key l i kUnit then .inl (nd 3 nob .nil,i+1)
   else if key l i kOpen then (match typF n l (i+1) with
    | .inr e=>.inr e
    | .inl (t,j)=>if key l j kShut then .inl (t,j+1) else .inr (j,6))
   else if key l i kMu then (match nam nk l (i+1) with
    | none=>.inr (i+1,6)
    | some s=>if key l (i+2) kLeft then (match consF n l (i+3) .nil with
     | .inr e=>.inr e
     | .inl (c,j)=>if key l j zY then .inl (nd 7 s c,j+1) else .inr (j,6)) else .inr (i+2,6))
   else .inr (i,6)
def consF:Nat→List Tk→Nat→Fr→Rs Fr
 | 0,_,i,_=>.inr (i,6)
 | n+1,l,i,acc=>match nam nk l i with
  | none=>.inr (i,6)
  | some s=>if hasN acc s then .inr (i,9) else if key l (i+1) kOf then (match typF n l (i+2) with
   | .inr e=>.inr e
   | .inl (t,j)=>if key l j kBar then consF n l (j+1) (acc.app (fr1 (nd 8 s (fr1 t)))) else .inl (acc.app (fr1 (nd 8 s (fr1 t))),j)) else .inr (i+1,6)
end
end
section
variable {nk lg:ByteArray→Bool}
theorem yN {l:List Tk} {i:Nat} {x:ByteArray} (h:key l i x=true):i<l.length:=by
 unfold key at h
 split at h
 ·rename_i t ht
  exact(List.getElem?_eq_some_iff.1 ht).1
 ·cases h
theorem zXu {p:ByteArray→Bool} {l:List Tk} {i:Nat} {s:ByteArray} (h:nam p l i=some s):i<l.length:=by
 unfold nam at h
 split at h
 ·rename_i t ht
  exact(List.getElem?_eq_some_iff.1 ht).1
 ·cases h
def Ahead {α:Type} (i:Nat):Rs α→Prop
 | .inl (_,j)=>i<j
 | .inr (p,_)=>i≤p
theorem wH (l:List Tk):∀(n:Nat),(∀i,Ahead i (typF nk lg n l i))∧(∀i,Ahead i (prodF nk lg n l i))∧(∀i,Ahead i (atomF nk lg n l i))∧(∀i acc,Ahead i (consF nk lg n l i acc))
 | 0=>⟨fun i=>by unfold typF;exact Nat.le_refl _,fun i=>by unfold prodF;exact Nat.le_refl _,fun i=>by unfold atomF;exact Nat.le_refl _,fun i _=>by unfold consF;exact Nat.le_refl _⟩
 | n+1=>by
  obtain⟨hT,hP,hA,hC⟩:=wH l n;refine⟨fun i=>?_,fun i=>?_,fun i=>?_,fun i acc=>?_⟩
  ·have h1:=hP i
   unfold typF
   cases h:prodF nk lg n l i with
   | inr e=>rw[h] at h1;exact h1
   | inl r=>
    obtain⟨a,j⟩:=r;rw[h] at h1;have h1:i<j:=h1;have h2:=hT (j+1);simp only
    split
    ·cases h':typF nk lg n l (j+1) with
     | inr e=>rw[h'] at h2;have h2:j+1≤e.1:=h2;show i≤e.1;omega
     | inl r=>rw[h'] at h2;have h2:j+1<r.2:=h2;show i<r.2;omega
    ·exact h1
  ·have h1:=hA i
   unfold prodF
   cases h:atomF nk lg n l i with
   | inr e=>rw[h] at h1;exact h1
   | inl r=>
    obtain⟨a,j⟩:=r;rw[h] at h1;have h1:i<j:=h1;have h2:=hP (j+1);simp only
    split
    ·cases h':prodF nk lg n l (j+1) with
     | inr e=>rw[h'] at h2;have h2:j+1≤e.1:=h2;show i≤e.1;omega
     | inl r=>rw[h'] at h2;have h2:j+1<r.2:=h2;show i<r.2;omega
    ·exact h1
  ·have h1:=hT (i+1)
   have h2:=hC (i+3) .nil;unfold atomF
   split
   ·show i<i+1;omega
   ·split
    ·show i<i+1;omega
    ·split
     ·show i<i+1;omega
     ·split
      ·show i<i+1;omega
      ·split
       ·cases h:typF nk lg n l (i+1) with
        | inr e=>rw[h] at h1;have h1:i+1≤e.1:=h1;show i≤e.1;omega
        | inl r=>
         rw[h] at h1;have h1:i+1<r.2:=h1;simp only
         split
         ·show i<r.2+1;omega
         ·show i≤r.2;omega
       ·split
        ·split
         ·show i≤i+1;omega
         ·split
          ·cases h:consF nk lg n l (i+3) .nil with
           | inr e=>rw[h] at h2;have h2:i+3≤e.1:=h2;show i≤e.1;omega
           | inl r=>
            rw[h] at h2;have h2:i+3<r.2:=h2;simp only
            split
            ·show i<r.2+1;omega
            ·show i≤r.2;omega
          ·show i≤i+2;omega
        ·exact Nat.le_refl _
  ·have h1:=hT (i+2)
   unfold consF
   split
   ·exact Nat.le_refl _
   ·split
    ·exact Nat.le_refl _
    ·split
     ·cases h:typF nk lg n l (i+2) with
      | inr e=>rw[h] at h1;have h1:i+2≤e.1:=h1;show i≤e.1;omega
      | inl r=>
       rw[h] at h1;have h1:i+2<r.2:=h1;simp only
       split
       ·have h2:=hC (r.2+1) (acc.app (fr1 (nd 8 ‹ByteArray› (fr1 r.1))))
        cases h':consF nk lg n l (r.2+1) (acc.app (fr1 (nd 8 ‹ByteArray› (fr1 r.1)))) with
        | inr e=>rw[h'] at h2;have h2:r.2+1≤e.1:=h2;show i≤e.1;omega
        | inl q=>rw[h'] at h2;have h2:r.2+1<q.2:=h2;show i<q.2;omega
       ·show i<r.2;omega
     ·show i≤i+1;omega
def typS (m:ByteArray) (k:Int) (l:List Tk) (r:Rs Tr) (T:Nat→Rs Tr):Rs Tr:=match r with
 | .inr e=>.inr e
 | .inl (a,j)=>if key l j m then (match T (j+1) with
  | .inr e=>.inr e
  | .inl (b,q)=>.inl (nd k nob (fr2 a b),q)) else .inl (a,j)
def atomS (nk lg:ByteArray→Bool) (l:List Tk) (i:Nat) (T:Nat→Rs Tr) (C:Nat→Fr→Rs Fr):Rs Tr:=match nam lg l i with
 | some s=>.inl (nd 4 s .nil,i+1)
 | none=>
  if key l i kInt then .inl (nd 1 nob .nil,i+1)
  else if key l i kBool then .inl (nd 2 nob .nil,i+1)
  else if key l i kUnit then .inl (nd 3 nob .nil,i+1)
  else if key l i kOpen then (match T (i+1) with
   | .inr e=>.inr e
   | .inl (t,j)=>if key l j kShut then .inl (t,j+1) else .inr (j,6))
  else if key l i kMu then (match nam nk l (i+1) with
   | none=>.inr (i+1,6)
   | some s=>if key l (i+2) kLeft then (match C (i+3) .nil with
    | .inr e=>.inr e
    | .inl (c,j)=>if key l j zY then .inl (nd 7 s c,j+1) else .inr (j,6)) else .inr (i+2,6))
  else .inr (i,6)
def consS (nk:ByteArray→Bool) (l:List Tk) (i:Nat) (acc:Fr) (T:Nat→Rs Tr) (C:Nat→Fr→Rs Fr):Rs Fr:=match nam nk l i with
 | none=>.inr (i,6)
 | some s=>if hasN acc s then .inr (i,9) else if key l (i+1) kOf then (match T (i+2) with
  | .inr e=>.inr e
  | .inl (t,j)=>if key l j kBar then C (j+1) (acc.app (fr1 (nd 8 s (fr1 t)))) else .inl (acc.app (fr1 (nd 8 s (fr1 t))),j)) else .inr (i+1,6)
theorem dD (n:Nat) (l:List Tk) (i:Nat):typF nk lg (n+1) l i=typS zI 5 l (prodF nk lg n l i) (typF nk lg n l):=by rw[typF];rfl
theorem pK (n:Nat) (l:List Tk) (i:Nat):prodF nk lg (n+1) l i=typS kStar 6 l (atomF nk lg n l i) (prodF nk lg n l):=by rw[prodF];rfl
theorem pL (n:Nat) (l:List Tk) (i:Nat):atomF nk lg (n+1) l i=atomS nk lg l i (typF nk lg n l) (consF nk lg n l):=by rw[atomF];rfl
theorem pM (n:Nat) (l:List Tk) (i:Nat) (acc:Fr):consF nk lg (n+1) l i acc=consS nk l i acc (typF nk lg n l) (consF nk lg n l):=by rw[consF];rfl
theorem zZz {m:ByteArray} {k:Int} {l:List Tk} {r:Rs Tr} {T T':Nat→Rs Tr} (h:∀a j,r = .inl (a,j)→key l j m=true→T (j+1)=T' (j+1)):typS m k l r T=typS m k l r T':=by
 unfold typS
 cases r with
 | inr e=>rfl
 | inl r=>
  obtain⟨a,j⟩:=r;simp only
  split
  ·rw[h a j rfl ‹_›]
  ·rfl
theorem zRj {l:List Tk} {i:Nat} {T T':Nat→Rs Tr} {C C':Nat→Fr→Rs Fr} (h1:i<l.length→T (i+1)=T' (i+1)) (h2:i+2<l.length→C (i+3) .nil=C' (i+3) .nil):atomS nk lg l i T C=atomS nk lg l i T' C':=by
 unfold atomS
 split
 ·rfl
 ·split
  ·rfl
  ·split
   ·rfl
   ·split
    ·rfl
    ·split
     ·rename_i hk
      rw[h1 (yN hk)]
     ·split
      ·split
       ·rfl
       ·split
        ·rename_i hk
         rw[h2 (yN hk)]
        ·rfl
      ·rfl
theorem zRk {l:List Tk} {i:Nat} {acc:Fr} {T T':Nat→Rs Tr} {C C':Nat→Fr→Rs Fr} (h1:i+1<l.length→T (i+2)=T' (i+2)) (h2:∀t j a,T' (i+2) = .inl (t,j)→j<l.length→C (j+1) a=C' (j+1) a):consS nk l i acc T C=consS nk l i acc T' C':=by
 unfold consS
 split
 ·rfl
 ·split
  ·rfl
  ·split
   ·rename_i hk
    rw[h1 (yN hk)]
    cases h:T' (i+2) with
    | inr e=>rfl
    | inl r=>
     obtain⟨t,j⟩:=r;simp only
     split
     ·rename_i hk
      exact h2 t j _ h (yN hk)
     ·rfl
   ·rfl
theorem nE (l:List Tk):∀(n:Nat),(∀i,4*(l.length-i)+3≤n→typF nk lg (n+1) l i=typF nk lg n l i)∧(∀i,4*(l.length-i)+2≤n→prodF nk lg (n+1) l i=prodF nk lg n l i)∧
  (∀i,4*(l.length-i)+1≤n→atomF nk lg (n+1) l i=atomF nk lg n l i)∧(∀i acc,4*(l.length-i)+4≤n→consF nk lg (n+1) l i acc=consF nk lg n l i acc)
 | 0=>⟨fun i h=>by omega,fun i h=>by omega,fun i h=>by omega,fun i _ h=>by omega⟩
 | n+1=>by
  obtain⟨hT,hP,hA,hC⟩:=nE l n;obtain⟨aT,aP,aA,aC⟩:=wH (nk:=nk) (lg:=lg) l n;refine⟨fun i hi=>?_,fun i hi=>?_,fun i hi=>?_,fun i acc hi=>?_⟩
  ·rw[dD (n+1),dD n,hP i (by omega)]
   refine zZz fun a j h hk=>hT _ ?_
   have h1:=aP i;rw[h] at h1;have h1:i<j:=h1;have:=yN hk;omega
  ·rw[pK (n+1),pK n,hA i (by omega)]
   refine zZz fun a j h hk=>hP _ ?_
   have h1:=aA i;rw[h] at h1;have h1:i<j:=h1;have:=yN hk;omega
  ·rw[pL (n+1),pL n]
   exact zRj (fun h=>hT _ (by omega)) (fun h=>hC _ _ (by omega))
  ·rw[pM (n+1),pM n]
   refine zRk (fun h=>hT _ (by omega)) fun t j a h hj=>hC _ _ ?_
   have h1:=aT (i+2);rw[h] at h1;have h1:i+2<j:=h1;omega
theorem dE {l:List Tk} {i n:Nat} (h:4*(l.length-i)+3≤n):∀d,typF nk lg (n+d) l i=typF nk lg n l i
 | 0=>rfl
 | d+1=>by rw[←Nat.add_assoc,(nE l (n+d)).1 i (by omega),dE h d]
theorem oB {l:List Tk} {i n:Nat} (h:4*(l.length-i)+2≤n):∀d,prodF nk lg (n+d) l i=prodF nk lg n l i
 | 0=>rfl
 | d+1=>by rw[←Nat.add_assoc,(nE l (n+d)).2.1 i (by omega),oB h d]
theorem oC {l:List Tk} {i n:Nat} (h:4*(l.length-i)+1≤n):∀d,atomF nk lg (n+d) l i=atomF nk lg n l i
 | 0=>rfl
 | d+1=>by rw[←Nat.add_assoc,(nE l (n+d)).2.2.1 i (by omega),oC h d]
theorem oD {l:List Tk} {i n:Nat} {acc:Fr} (h:4*(l.length-i)+4≤n):∀d,consF nk lg (n+d) l i acc=consF nk lg n l i acc
 | 0=>rfl
 | d+1=>by rw[←Nat.add_assoc,(nE l (n+d)).2.2.2 i acc (by omega),oD h d]
end
section
variable (nk lg:ByteArray→Bool)
def typL (l:List Tk) (i:Nat):Rs Tr:=typF nk lg (4*l.length+8) l i
def prodL (l:List Tk) (i:Nat):Rs Tr:=prodF nk lg (4*l.length+8) l i
def atomL (l:List Tk) (i:Nat):Rs Tr:=atomF nk lg (4*l.length+8) l i
def consL (l:List Tk) (i:Nat) (acc:Fr):Rs Fr:=consF nk lg (4*l.length+8) l i acc
end
section
variable {nk lg:ByteArray→Bool}
theorem eA (l:List Tk) (i:Nat):typL nk lg l i=typS zI 5 l (prodL nk lg l i) (typL nk lg l):=by
 have h:typL nk lg l i=typF nk lg (4*l.length+8+1) l i:=(dE (by omega) 1).symm;rw[h,dD]
 rfl
theorem tU (l:List Tk) (i:Nat):prodL nk lg l i=typS kStar 6 l (atomL nk lg l i) (prodL nk lg l):=by
 have h:prodL nk lg l i=prodF nk lg (4*l.length+8+1) l i:=(oB (by omega) 1).symm;rw[h,pK]
 rfl
theorem zR (l:List Tk) (i:Nat):atomL nk lg l i=atomS nk lg l i (typL nk lg l) (consL nk lg l):=by
 have h:atomL nk lg l i=atomF nk lg (4*l.length+8+1) l i:=(oC (by omega) 1).symm;rw[h,pL]
 rfl
theorem vP (l:List Tk) (i:Nat) (acc:Fr):consL nk lg l i acc=consS nk l i acc (typL nk lg l) (consL nk lg l):=by
 have h:consL nk lg l i acc=consF nk lg (4*l.length+8+1) l i acc:=(oD (by omega) 1).symm;rw[h,pM]
 rfl
theorem sO (l:List Tk) (i:Nat):Ahead i (typL nk lg l i):=(wH l _).1 i
theorem wX (l:List Tk) (i:Nat):Ahead i (prodL nk lg l i):=(wH l _).2.1 i
theorem wY (l:List Tk) (i:Nat):Ahead i (atomL nk lg l i):=(wH l _).2.2.1 i
end
end Go.Proofs.YtbpijnalmakfaaaGreatDoor
namespace Go.Proofs.YtbpijnalmakfaaaGreatDoor
section
variable {nk lg:ByteArray→Bool}
def pl {α:Type}:Rs α→Nat
 | .inl (_,j)=>j
 | .inr (p,_)=>p
def BadOk {α:Type} (N:Nat) (R:Rs α):Prop:=∀p e,R = .inr (p,e)→e=6∨(e=9∧p<N)
structure St {α:Type} (N:Nat) (R R':Rs α):Prop where
 le:pl R≤N
 same:pl R<N→R'=R
 more:N≤pl R→N≤pl R'
 bad:BadOk N R
theorem St.at {α:Type} {N i:Nat} (h:i≤N):St (α:=α) N (.inr (i,6)) (.inr (i,6)):=⟨h,fun _=>rfl,fun h=>h,fun p e he=>by injection he with he;injection he with h1 h2;exact .inl h2.symm⟩
theorem St.yes {α:Type} {N i:Nat} (a:α) (h:i≤N):St N (.inl (a,i)) (.inl (a,i)):=⟨h,fun _=>rfl,fun h=>h,fun p e he=>by cases he⟩
theorem St.err {α β:Type} {N:Nat} {p q:Nat×Int} (h:St (α:=α) N (.inr p) (.inr q)):St (α:=β) N (.inr p) (.inr q):=
 ⟨h.le,fun hp=>by have:=h.same hp;injection this with this;rw[this],h.more,fun p' e he=>h.bad p' e (by injection he with he;rw[he])⟩
theorem St.end {α:Type} {N:Nat} {R R':Rs α} (h1:pl R=N) (h2:N≤pl R') (h3:BadOk N R):St N R R':=⟨by omega,fun h=>by omega,fun _=>h2,h3⟩
theorem eB {α:Type} {N:Nat} (r:α×Nat):BadOk (α:=α) N (.inl r):=fun p e h=>by cases h
theorem zY0 {α:Type} {N i:Nat}:BadOk (α:=α) N (.inr (i,6)):=fun p e he=>by injection he with he;injection he with h1 h2;exact .inl h2.symm
theorem mD {α β:Type} {N:Nat} {p:Nat×Int} (h:BadOk (α:=α) N (.inr p)):BadOk (α:=β) N (.inr p):=fun p' e he=>h p' e (by injection he with he;rw[he])
theorem vM {l m:List Tk} {i:Nat} {x:ByteArray} (h:i<l.length):key (l++m) i x=key l i x:=by
 unfold key;rw[List.getElem?_append_left h]
theorem kI {l:List Tk} {i:Nat} {x:ByteArray} (h:l.length≤i):key l i x=false:=by
 unfold key;rw[List.getElem?_eq_none h]
theorem zXv {p:ByteArray→Bool} {l m:List Tk} {i:Nat} (h:i<l.length):nam p (l++m) i=nam p l i:=by
 unfold nam;rw[List.getElem?_append_left h]
theorem tV {p:ByteArray→Bool} {l:List Tk} {i:Nat} (h:l.length≤i):nam p l i=none:=by
 unfold nam;rw[List.getElem?_eq_none h]
theorem gE {α:Type} {i:Nat} {R:Rs α} (h:Ahead i R):i≤pl R:=by
 cases R with
 | inl r=>exact Nat.le_of_lt h
 | inr r=>exact h
theorem zBq {m:ByteArray} {k:Int} {l:List Tk} {r:Rs Tr} {T:Nat→Rs Tr} (hT:∀j,j≤pl (T j)):pl r≤pl (typS m k l r T):=by
 unfold typS
 cases r with
 | inr e=>exact Nat.le_refl _
 | inl r=>
  obtain⟨a,j⟩:=r;simp only
  split
  ·have:=hT (j+1)
   cases h:T (j+1) with
   | inr e=>rw[h] at this;have this:j+1≤e.1:=this;show j≤e.1;omega
   | inl q=>rw[h] at this;have this:j+1≤q.2:=this;show j≤q.2;omega
  ·exact Nat.le_refl _
theorem zO3 {m:ByteArray} {k:Int} {l x:List Tk} {r r':Rs Tr} {T T':Nat→Rs Tr} (hr:St l.length r r') (hT:∀j,j≤l.length→St l.length (T j) (T' j)) (hT':∀j,j≤pl (T' j)) :
  St l.length (typS m k l r T) (typS m k (l++x) r' T'):=by
 by_cases hlt:pl r<l.length
 ·rw[hr.same hlt]
  cases r with
  | inr e=>exact⟨hr.le,fun _=>rfl,fun h=>h,mD hr.bad⟩
  | inl r=>
   obtain⟨a,j⟩:=r;have hlt:j<l.length:=hlt;unfold typS;simp only[vM hlt]
   split
   ·have h:=hT (j+1) hlt
    cases h1:T (j+1) with
    | inr e=>
     rw[h1] at h
     cases h2:T' (j+1) with
     | inr e'=>rw[h2] at h;exact h.err
     | inl q=>
      rw[h2] at h;refine⟨h.le,fun hp=>?_,h.more,mD h.bad⟩;have:=h.same hp
      cases this
    | inl q=>
     rw[h1] at h
     cases h2:T' (j+1) with
     | inr e'=>
      rw[h2] at h;refine⟨h.le,fun hp=>?_,h.more,eB _⟩;have:=h.same hp
      cases this
     | inl q'=>
      rw[h2] at h;refine⟨h.le,fun hp=>?_,h.more,eB _⟩;have:=h.same hp;injection this with this;rw[this]
   ·exact St.yes a (by omega)
 ·have he:pl r=l.length:=by have:=hr.le;omega
  have h2:l.length≤pl r':=hr.more (by omega);have h3:l.length≤pl (typS m k (l++x) r' T'):=Nat.le_trans h2 (zBq hT')
  cases r with
  | inr e=>exact St.end he h3 (mD hr.bad)
  | inl r=>
   obtain⟨a,j⟩:=r;have he:j=l.length:=he;have:typS m k l (.inl (a,j)) T = .inl (a,j):=by
    unfold typS;simp only;rw[kI (by omega)]
    rfl
   rw[this];exact St.end he h3 (eB _)
theorem zHl {l:List Tk} {i:Nat} {T:Nat→Rs Tr} {C:Nat→Fr→Rs Fr} (hT:∀j,j≤pl (T j)) (hC:∀j a,j≤pl (C j a)):i≤pl (atomS nk lg l i T C):=by
 have h1:=hT (i+1);have h2:=hC (i+3) .nil;unfold atomS
 split
 ·exact Nat.le_succ i
 ·split
  ·exact Nat.le_succ i
  ·split
   ·exact Nat.le_succ i
   ·split
    ·exact Nat.le_succ i
    ·split
     ·cases h:T (i+1) with
      | inr e=>rw[h] at h1;have h1:i+1≤e.1:=h1;show i≤e.1;omega
      | inl r=>
       rw[h] at h1;have h1:i+1≤r.2:=h1;simp only
       split
       ·show i≤r.2+1;omega
       ·show i≤r.2;omega
     ·split
      ·split
       ·exact Nat.le_succ i
       ·split
        ·cases h:C (i+3) .nil with
         | inr e=>rw[h] at h2;have h2:i+3≤e.1:=h2;show i≤e.1;omega
         | inl r=>
          rw[h] at h2;have h2:i+3≤r.2:=h2;simp only
          split
          ·show i≤r.2+1;omega
          ·show i≤r.2;omega
        ·show i≤i+2;omega
      ·exact Nat.le_refl i
def shutS {α:Type} (l:List Tk) (x:ByteArray) (g:α→Tr) (R:Rs α):Rs Tr:=match R with
 | .inr e=>.inr e
 | .inl (t,j)=>if key l j x then .inl (g t,j+1) else .inr (j,6)
theorem oE {α:Type} {l:List Tk} {x:ByteArray} {g:α→Tr} {R:Rs α}:pl R≤pl (shutS l x g R):=by
 unfold shutS
 cases R with
 | inr e=>exact Nat.le_refl _
 | inl r=>
  simp only
  split
  ·exact Nat.le_succ _
  ·exact Nat.le_refl _
theorem zUg {α:Type} {l m:List Tk} {x:ByteArray} {g:α→Tr} {R R':Rs α} (h:St l.length R R'):St l.length (shutS l x g R) (shutS (l++m) x g R'):=by
 by_cases hlt:pl R<l.length
 ·rw[h.same hlt]
  cases R with
  | inr e=>exact⟨h.le,fun _=>rfl,fun h=>h,mD h.bad⟩
  | inl r=>
   obtain⟨a,j⟩:=r;have hlt:j<l.length:=hlt;unfold shutS;simp only[vM hlt]
   split
   ·exact St.yes _ hlt
   ·exact St.at (by omega)
 ·have he:pl R=l.length:=by have:=h.le;omega
  have h3:l.length≤pl (shutS (l++m) x g R'):=Nat.le_trans (h.more (by omega)) oE
  cases R with
  | inr e=>exact St.end he h3 (mD h.bad)
  | inl r=>
   obtain⟨a,j⟩:=r;have he:j=l.length:=he;have:shutS l x g (.inl (a,j)) = .inr (j,6):=by
    unfold shutS;simp only;rw[kI (by omega)]
    rfl
   rw[this];exact St.end he h3 zY0
theorem zHm {l x:List Tk} {i:Nat} {T T':Nat→Rs Tr} {C C':Nat→Fr→Rs Fr} (hi:i≤l.length) (hT:∀j,j≤l.length→St l.length (T j) (T' j)) (hC:∀j a,j≤l.length→St l.length (C j a) (C' j a)) (hT':∀j,j≤pl (T' j)) (hC':∀j a,j≤pl (C' j a)) :
  St l.length (atomS nk lg l i T C) (atomS nk lg (l++x) i T' C'):=by
 by_cases hlt:i<l.length
 ·unfold atomS
  rw[zXv hlt,vM hlt,vM hlt,vM hlt,vM hlt,vM hlt]
  split
  ·exact St.yes _ hlt
  ·split
   ·exact St.yes _ hlt
   ·split
    ·exact St.yes _ hlt
    ·split
     ·exact St.yes _ hlt
     ·split
      ·have h:=zUg (m:=x) (x:=kShut) (g:=fun t=>t) (hT (i+1) hlt)
       revert h
       cases T (i+1)<;>cases T' (i+1)<;>exact fun h=>h
      ·split
       ·by_cases h1:i+1<l.length
        ·rw[zXv h1]
         split
         ·exact St.at hlt
         ·rename_i s hs
          by_cases h2:i+2<l.length
          ·rw[vM h2]
           split
           ·have h:=zUg (m:=x) (x:=zY) (g:=fun c=>nd 7 s c) (hC (i+3) .nil h2)
            revert h
            cases C (i+3) .nil<;>cases C' (i+3) .nil<;>exact fun h=>h
           ·exact St.at (by omega)
          ·rw[kI (i:=i+2) (by omega)]
           refine St.end (by show i+2=_;omega) ?_ zY0
           split
           ·have h:=Nat.le_trans (hC' (i+3) .nil) (oE (l:=l++x) (x:=zY) (g:=fun c=>nd 7 s c))
            have h3:l.length≤i+3:=by omega
            revert h
            cases C' (i+3) .nil<;>exact fun h=>Nat.le_trans h3 h
           ·show _≤i+2;omega
        ·rw[tV (i:=i+1) (by omega)]
         refine St.end (by show i+1=_;omega) ?_ zY0
         split
         ·show _≤i+1;omega
         ·rename_i s hs
          split
          ·have h:=Nat.le_trans (hC' (i+3) .nil) (oE (l:=l++x) (x:=zY) (g:=fun c=>nd 7 s c))
           have h3:l.length≤i+3:=by omega
           revert h
           cases C' (i+3) .nil<;>exact fun h=>Nat.le_trans h3 h
          ·show _≤i+2;omega
       ·exact St.at hi
 ·have he:i=l.length:=by omega
  have h0:atomS nk lg l i T C = .inr (i,6):=by
   unfold atomS;rw[tV (by omega)];simp only;rw[kI (by omega),kI (by omega),kI (by omega),kI (by omega),kI (by omega)]
   rfl
  rw[h0];exact St.end he (by rw[←he];exact zHl hT' hC') zY0
theorem zHn {l:List Tk} {i:Nat} {acc:Fr} {T:Nat→Rs Tr} {C:Nat→Fr→Rs Fr} (hT:∀j,j≤pl (T j)) (hC:∀j a,j≤pl (C j a)):i≤pl (consS nk l i acc T C):=by
 have h1:=hT (i+2);unfold consS
 split
 ·exact Nat.le_refl _
 ·split
  ·exact Nat.le_refl _
  ·split
   ·cases h:T (i+2) with
    | inr e=>rw[h] at h1;have h1:i+2≤e.1:=h1;show i≤e.1;omega
    | inl r=>
     rw[h] at h1;have h1:i+2≤r.2:=h1;simp only
     split
     ·have:=hC (r.2+1) (acc.app (fr1 (nd 8 ‹ByteArray› (fr1 r.1))));omega
     ·show i≤r.2;omega
   ·exact Nat.le_succ _
def barS (l:List Tk) (g:Tr→Fr) (R:Rs Tr) (C:Nat→Fr→Rs Fr):Rs Fr:=match R with
 | .inr e=>.inr e
 | .inl (t,j)=>if key l j kBar then C (j+1) (g t) else .inl (g t,j)
theorem zO4 {l:List Tk} {g:Tr→Fr} {R:Rs Tr} {C:Nat→Fr→Rs Fr} (hC:∀j a,j≤pl (C j a)):pl R≤pl (barS l g R C):=by
 unfold barS
 cases R with
 | inr e=>exact Nat.le_refl _
 | inl r=>
  simp only
  split
  ·have:=hC (r.2+1) (g r.1)
   show r.2≤_
   omega
  ·exact Nat.le_refl _
theorem zBr {l m:List Tk} {g:Tr→Fr} {R R':Rs Tr} {C C':Nat→Fr→Rs Fr} (h:St l.length R R') (hC:∀j a,j≤l.length→St l.length (C j a) (C' j a)) (hC':∀j a,j≤pl (C' j a)):St l.length (barS l g R C) (barS (l++m) g R' C'):=by
 by_cases hlt:pl R<l.length
 ·rw[h.same hlt]
  cases R with
  | inr e=>exact⟨h.le,fun _=>rfl,fun h=>h,mD h.bad⟩
  | inl r=>
   obtain⟨a,j⟩:=r;have hlt:j<l.length:=hlt;unfold barS;simp only[vM hlt]
   split
   ·exact hC _ _ hlt
   ·exact St.yes _ (by omega)
 ·have he:pl R=l.length:=by have:=h.le;omega
  have h3:l.length≤pl (barS (l++m) g R' C'):=Nat.le_trans (h.more (by omega)) (zO4 hC')
  cases R with
  | inr e=>exact St.end he h3 (mD h.bad)
  | inl r=>
   obtain⟨a,j⟩:=r;have he:j=l.length:=he;have:barS l g (.inl (a,j)) C = .inl (g a,j):=by
    unfold barS;simp only;rw[kI (by omega)]
    rfl
   rw[this];exact St.end he h3 (eB _)
theorem zHo {l x:List Tk} {i:Nat} {acc:Fr} {T T':Nat→Rs Tr} {C C':Nat→Fr→Rs Fr} (hi:i≤l.length) (hT:∀j,j≤l.length→St l.length (T j) (T' j)) (hC:∀j a,j≤l.length→St l.length (C j a) (C' j a)) (hT':∀j,j≤pl (T' j)) (hC':∀j a,j≤pl (C' j a)) :
  St l.length (consS nk l i acc T C) (consS nk (l++x) i acc T' C'):=by
 by_cases hlt:i<l.length
 ·unfold consS
  rw[zXv hlt]
  split
  ·exact St.at hi
  ·rename_i s hs
   split
   ·refine⟨hi,fun _=>rfl,fun h=>h,fun p e he=>?_⟩
    injection he with he;injection he with h1 h2;exact .inr ⟨h2.symm,by omega⟩
   ·by_cases h1:i+1<l.length
    ·rw[vM h1]
     split
     ·exact zBr (g:=fun t=>acc.app (fr1 (nd 8 s (fr1 t)))) (hT (i+2) h1) hC hC'
     ·exact St.at hlt
    ·rw[kI (i:=i+1) (by omega)]
     refine St.end (by show i+1=_;omega) ?_ zY0
     split
     ·refine Nat.le_trans ?_ (zO4 (g:=fun t=>acc.app (fr1 (nd 8 s (fr1 t)))) hC')
      have:=hT' (i+2);omega
     ·show _≤i+1;omega
 ·have he:i=l.length:=by omega
  have h0:consS nk l i acc T C = .inr (i,6):=by
   unfold consS;rw[tV (by omega)]
  rw[h0];exact St.end he (by rw[←he];exact zHn hT' hC') zY0
theorem dF (l x:List Tk):∀(n:Nat),(∀i,i≤l.length→St l.length (typF nk lg n l i) (typF nk lg n (l++x) i))∧(∀i,i≤l.length→St l.length (prodF nk lg n l i) (prodF nk lg n (l++x) i))∧
  (∀i,i≤l.length→St l.length (atomF nk lg n l i) (atomF nk lg n (l++x) i))∧(∀i acc,i≤l.length→St l.length (consF nk lg n l i acc) (consF nk lg n (l++x) i acc))
 | 0=>⟨fun i h=>by rw[typF,typF];exact St.at h,fun i h=>by rw[prodF,prodF];exact St.at h,fun i h=>by rw[atomF,atomF];exact St.at h,fun i _ h=>by rw[consF,consF];exact St.at h⟩
 | n+1=>by
  obtain⟨hT,hP,hA,hC⟩:=dF l x n;obtain⟨aT,aP,aA,aC⟩:=wH (nk:=nk) (lg:=lg) (l++x) n;refine⟨fun i hi=>?_,fun i hi=>?_,fun i hi=>?_,fun i acc hi=>?_⟩
  ·rw[dD,dD]
   exact zO3 (hP i hi) hT fun j=>gE (aT j)
  ·rw[pK,pK]
   exact zO3 (hA i hi) hP fun j=>gE (aP j)
  ·rw[pL,pL]
   exact zHm hi hT (fun j a h=>hC j a h) (fun j=>gE (aT j)) fun j a=>gE (aC j a)
  ·rw[pM,pM]
   exact zHo hi hT (fun j a h=>hC j a h) (fun j=>gE (aT j)) fun j a=>gE (aC j a)
theorem zBs (l x:List Tk) (i:Nat) (hi:i≤l.length):St l.length (typL nk lg l i) (typL nk lg (l++x) i):=by
 have h:=(dF (nk:=nk) (lg:=lg) l x (4*l.length+8+4*x.length)).1 i hi;rw[dE (by omega) (4*x.length)] at h;have e:4*l.length+8+4*x.length=4*(l++x).length+8:=by rw[List.length_append];omega
 rw[e] at h;exact h
end
end Go.Proofs.YtbpijnalmakfaaaGreatDoor
namespace Go.Proofs.YtbpijnalmakfaaaGreatDoor
section
variable {nk lg:ByteArray→Bool}
def ConOk (nk lg:ByteArray→Bool) (f:Fr):Prop:=((infF nk lg f).all fun i=>i.is 8)=true∧kB (infF nk lg f)=true
end
def ky (x:ByteArray):Tk:=⟨3,x⟩
def nmT (s:ByteArray):Tk:=⟨1,s⟩
def wi (b:Bool) (ts:List Tk):List Tk:=if b then ky kOpen::(ts++[ky kShut]) else ts
def bars:List (List Tk)→List Tk
 | []=>[]
 | [a]=>a
 | a::b::r=>a++ky kBar::bars (b::r)
def is5 (x:Nod):Bool:=decide (x.k=5)
def nG (x:Nod):Bool:=decide (x.k=5)||decide (x.k=6)
def tkN (x:Nod) (ks:List (Nod×List Tk)):List Tk:=
 if x.k=1 then [ky kInt] else if x.k=2 then [ky kBool] else if x.k=3 then [ky kUnit] else if x.k=4 then [nmT x.a]
 else if x.k=5 then (match ks with
  | [a,b]=>wi (is5 a.1) a.2++ky zI::b.2
  | _=>[])
 else if x.k=6 then (match ks with
  | [a,b]=>wi (nG a.1) a.2++ky kStar::wi (is5 b.1) b.2
  | _=>[])
 else if x.k=7 then ky kMu::nmT x.a::ky kLeft::(bars (ks.map (·.2))++[ky zY])
 else if x.k=8 then (match ks with
  | [a]=>nmT x.a::ky kOf::a.2
  | _=>[])
 else []
def tkF:Fr→List (Nod×List Tk)
 | .nil=>[]
 | .cons x k r=>(x,tkN x (tkF k))::tkF r
def tkT (t:Tr):List Tk:=tkN t.1 (tkF t.2)
section
variable {nk lg:ByteArray→Bool}
theorem kG {s:ByteArray} (h:isEmp s=true):s=nob:=by
 have h:=of_decide_eq_true h;obtain⟨⟨l⟩⟩:=s
 cases l with
 | nil=>rfl
 | cons a l=>simp[ByteArray.size] at h
theorem kJ {x:Nod} {k:Int} {a:ByteArray} (hk:k=x.k) (h1:0≤x.n) (h2:x.n≤0) (ha:x.a=a) (hm:isEmp x.m=true):x=⟨k,0,a,nob⟩:=by
 obtain⟨k',n,a',m⟩:=x;simp only at hk h1 h2 ha hm;subst hk;subst ha;have h3:n=0:=by omega
 rw[h3,kG hm]
inductive oG (nk lg:ByteArray→Bool):Tr→Prop
 | leaf (k:Int) (h:k=1∨k=2∨k=3):oG nk lg (nd k nob .nil)
 | name (s:ByteArray) (h:lg s=true):oG nk lg (nd 4 s .nil)
 | two (k:Int) (h:k=5∨k=6) (a b:Tr) (ha:isT nk lg a 1=true) (hb:isT nk lg b 1=true):oG nk lg (nd k nob (fr2 a b))
 | mu (s:ByteArray) (h:nk s=true) (c:Fr) (hc:ConOk nk lg c) (h0:0<c.len):oG nk lg (nd 7 s c)
theorem zO5 (l:List Inf):seqOk l []=l.isEmpty:=by cases l<;>rfl
theorem wB {f:Fr} (h:seqOk (infF nk lg f) []=true):f = .nil:=by
 cases f with
 | nil=>rfl
 | cons x k r=>cases h
theorem zO6 {f:Fr} (h:seqOk (infF nk lg f) [116,116]=true):∃a b,f=fr2 a b∧isT nk lg a 1=true∧isT nk lg b 1=true:=by
 cases f with
 | nil=>cases h
 | cons x k r=>
  cases r with
  | nil=>
   have h:(isT nk lg (x,k) 1&&false)=true:=h;rw[Bool.and_false] at h
   cases h
  | cons y m q=>
   have h:(isT nk lg (x,k) 1&&(isT nk lg (y,m) 1&&seqOk (infF nk lg q) []))=true:=h;rw[zO5] at h;simp only[Bool.and_eq_true] at h;refine⟨(x,k),(y,m),?_,h.1,h.2.1⟩
   cases q with
   | nil=>rfl
   | cons _ _ _=>cases h.2.2
theorem wC {t:Tr} (h:isT nk lg t 1=true):oG nk lg t:=by
 obtain⟨x,f⟩:=t;obtain⟨r,hr,hf⟩:=qY.1 h;obtain⟨hc,hk,ha,hm,h1,h2,hs⟩:=zH.1 hf;simp only[RWS,List.mem_cons,List.not_mem_nil,or_false] at hr
 rcases hr with rfl | rfl | rfl | rfl | rfl | rfl | rfl | rfl | rfl | rfl | rfl | rfl | rfl | rfl | rfl | rfl | rfl | rfl | rfl | rfl | rfl | rfl | rfl | rfl | rfl | rfl | rfl | rfl | rfl | rfl | rfl | rfl | rfl | rfl | rfl | rfl | rfl | rfl | rfl | rfl | rfl | rfl | rfl | rfl | rfl | rfl | rfl
 all_goals try (exact absurd hc (by decide))
 ·have e:x=⟨1,0,nob,nob⟩:=kJ hk h1 h2 (kG ha) hm
  have ef:f = .nil:=wB hs;rw[e,ef];exact .leaf 1 (by omega)
 ·have e:x=⟨2,0,nob,nob⟩:=kJ hk h1 h2 (kG ha) hm
  have ef:f = .nil:=wB hs;rw[e,ef];exact .leaf 2 (by omega)
 ·have e:x=⟨3,0,nob,nob⟩:=kJ hk h1 h2 (kG ha) hm
  have ef:f = .nil:=wB hs;rw[e,ef];exact .leaf 3 (by omega)
 ·have e:x=⟨4,0,x.a,nob⟩:=kJ hk h1 h2 rfl hm
  have ha:lg x.a=true:=ha;have ef:f = .nil:=wB hs;rw[e,ef];exact .name x.a ha
 ·obtain⟨a,b,rfl,hA,hB⟩:=zO6 hs
  have e:x=⟨5,0,nob,nob⟩:=kJ hk h1 h2 (kG ha) hm;rw[e];exact .two 5 (by omega) a b hA hB
 ·obtain⟨a,b,rfl,hA,hB⟩:=zO6 hs
  have e:x=⟨6,0,nob,nob⟩:=kJ hk h1 h2 (kG ha) hm;rw[e];exact .two 6 (by omega) a b hA hB
 ·have e7:x=⟨7,0,x.a,nob⟩:=kJ hk h1 h2 rfl hm
  have ha:nk x.a=true:=ha;rw[e7];have e:seqOk (infF nk lg f) [67]=(!(infF nk lg f).isEmpty&&((infF nk lg f).all fun i=>i.is 8)&&kB (infF nk lg f)):=by cases infF nk lg f<;>rfl
  have hs:seqOk (infF nk lg f) [67]=true:=hs;rw[e] at hs;simp only[Bool.and_eq_true] at hs;refine .mu x.a ha f ⟨hs.1.2,hs.2⟩ ?_
  cases f with
  | nil=>cases hs.1.1
  | cons _ _ _=>exact Nat.succ_pos _
end
end Go.Proofs.YtbpijnalmakfaaaGreatDoor
