/-
  Plain: what is parsed has a type's form, and no more nodes than tokens.
-/
import Derived.Test.YtbpijnalmakfaaaGreatDoorGs09
import Derived.Test.YtbpijnalmakfaaaGreatDoorGs35
set_option maxHeartbeats 40000000
set_option maxRecDepth 100000
namespace Go.Proofs.YtbpijnalmakfaaaGreatDoor
section
variable {nk lg:ByteArray→Bool}
theorem zW3 (k:Int) (h:k=1∨k=2∨k=3):isT nk lg (nd k nob .nil) 1=true:=by
 rcases h with rfl | rfl | rfl
 ·exact zC.2 ⟨⟨1,1,[],[],0,0,[]⟩,by simp[RWS],zJ.2 ⟨rfl,rfl,rfl,rfl,Int.le_refl 0,Int.le_refl 0,rfl⟩⟩
 ·exact zC.2 ⟨⟨1,2,[],[],0,0,[]⟩,by simp[RWS],zJ.2 ⟨rfl,rfl,rfl,rfl,Int.le_refl 0,Int.le_refl 0,rfl⟩⟩
 ·exact zC.2 ⟨⟨1,3,[],[],0,0,[]⟩,by simp[RWS],zJ.2 ⟨rfl,rfl,rfl,rfl,Int.le_refl 0,Int.le_refl 0,rfl⟩⟩
theorem zAy {s:ByteArray} (h:lg s=true):isT nk lg (nd 4 s .nil) 1=true:=
 zC.2 ⟨⟨1,4,[108],[],0,0,[]⟩,by simp[RWS],zJ.2 ⟨rfl,rfl,h,rfl,Int.le_refl 0,Int.le_refl 0,rfl⟩⟩
theorem yU1 {k:Int} (h:k=5∨k=6) {a b:Tr} (ha:isT nk lg a 1=true) (hb:isT nk lg b 1=true):isT nk lg (nd k nob (fr2 a b)) 1=true:=by
 have hs:seqOk (infF nk lg (fr2 a b)) [116,116]=true:=by
  show((isT nk lg a 1)&&((isT nk lg b 1)&&true))=true
  rw[ha,hb]
  rfl
 rcases h with rfl | rfl
 ·exact zC.2 ⟨⟨1,5,[],[],0,0,[116,116]⟩,by simp[RWS],zJ.2 ⟨rfl,rfl,rfl,rfl,Int.le_refl 0,Int.le_refl 0,hs⟩⟩
 ·exact zC.2 ⟨⟨1,6,[],[],0,0,[116,116]⟩,by simp[RWS],zJ.2 ⟨rfl,rfl,rfl,rfl,Int.le_refl 0,Int.le_refl 0,hs⟩⟩
theorem yU2 {s:ByteArray} (h:nk s=true) {t:Tr} (ht:isT nk lg t 1=true):isT nk lg (nd 8 s (fr1 t)) 8=true:=by
 have hs:seqOk (infF nk lg (fr1 t)) [116]=true:=by
  show((isT nk lg t 1)&&true)=true
  rw[ht]
  rfl
 exact zC.2 ⟨⟨8,8,[110],[],0,0,[116]⟩,by simp[RWS],zJ.2 ⟨rfl,rfl,h,rfl,Int.le_refl 0,Int.le_refl 0,hs⟩⟩
theorem oO (j:Inf):∀l:List Inf,kC (l++[j])=(kC l&&l.all fun i=>decide (i.a≠j.a))
 | []=>rfl
 | i::t=>by
  show((t++[j]).all (fun x=>decide (i.a≠x.a))&&kC (t++[j]))=((t.all (fun x=>decide (i.a≠x.a))&&kC t)&&(decide (i.a≠j.a)&&t.all fun x=>decide (x.a≠j.a)))
  rw[oO j t,List.all_append,List.all_cons,List.all_nil]
  cases t.all (fun x=>decide (i.a≠x.a))<;>cases decide (i.a≠j.a)<;>cases kC t<;>cases (t.all fun x=>decide (x.a≠j.a))<;>rfl
theorem zT8:∀(f:Fr) (s:ByteArray),hasN f s=false→((infF nk lg f).all fun i=>decide (i.a≠s))=true
 | .nil,_,_=>rfl
 | .cons x k r,s,h=>by
  unfold hasN at h;rw[Bool.or_eq_false_iff] at h
  show(decide (x.a≠s)&&(infF nk lg r).all fun i=>decide (i.a≠s))=true
  rw[zT8 r s h.2,Bool.and_true,decide_eq_true_eq];exact of_decide_eq_false h.1
theorem ConOk.more {f:Fr} (h:ConOk nk lg f) {s:ByteArray} (hs:nk s=true) (hn:hasN f s=false) {t:Tr} (ht:isT nk lg t 1=true):ConOk nk lg (f.app (fr1 (nd 8 s (fr1 t)))):=by
 have e:infF nk lg (f.app (fr1 (nd 8 s (fr1 t))))=infF nk lg f++[infT nk lg (nd 8 s (fr1 t))]:=lR f _;unfold ConOk;rw[e];refine⟨?_,?_⟩
 ·rw[List.all_append,h.1]
  show(true&&(isT nk lg (nd 8 s (fr1 t)) 8&&true))=true
  rw[yU2 hs ht]
  rfl
 ·rw[oO,h.2]
  exact zT8 f s hn
theorem is_mu {s:ByteArray} (h:nk s=true) {c:Fr} (hc:ConOk nk lg c) (h0:0<c.len):isT nk lg (nd 7 s c) 1=true:=by
 have hs:seqOk (infF nk lg c) [67]=true:=by
  have hl:=jU (nk:=nk) (lg:=lg) c
  cases hq:infF nk lg c with
  | nil=>rw[hq] at hl;simp at hl;omega
  | cons i t=>
   rw[←hq];have e:seqOk (infF nk lg c) [67]=(!(infF nk lg c).isEmpty&&((infF nk lg c).all fun i=>i.is 8)&&kC (infF nk lg c)):=by cases infF nk lg c<;>rfl
   rw[e,hc.1,hc.2,hq]
   rfl
 exact zC.2 ⟨⟨1,7,[110],[],0,0,[67]⟩,by simp[RWS],zJ.2 ⟨rfl,rfl,h,rfl,Int.le_refl 0,Int.le_refl 0,hs⟩⟩
theorem zW4 {p:ByteArray→Bool} {l:List Tk} {i:Nat} {s:ByteArray} (h:nam p l i=some s):p s=true:=by
 unfold nam at h
 split at h
 ·split at h
  ·rename_i hp
   injection h with h;rw[Bool.and_eq_true] at hp;rw[←h];exact hp.2
  ·cases h
 ·cases h
def FormT (nk lg:ByteArray→Bool) (i:Nat) (R:Rs Tr):Prop:=∀t j,R = .inl (t,j)→isT nk lg t 1=true∧szT t+i≤j
def FormC (nk lg:ByteArray→Bool) (i:Nat) (acc:Fr) (R:Rs Fr):Prop:=∀c j,R = .inl (c,j)→ConOk nk lg c∧c.sz+i≤acc.sz+j∧0<c.len
theorem zZv {m:ByteArray} {k:Int} (hk:k=5∨k=6) {l:List Tk} {i:Nat} {r:Rs Tr} {T:Nat→Rs Tr} (hr:FormT nk lg i r) (hT:∀j,FormT nk lg j (T j)):FormT nk lg i (typS m k l r T):=by
 intro t j h;unfold typS at h
 cases r with
 | inr e=>cases h
 | inl r=>
  obtain⟨a,q⟩:=r;obtain⟨h1,h2⟩:=hr a q rfl;simp only at h
  split at h
  ·cases h':T (q+1) with
   | inr e=>rw[h'] at h;cases h
   | inl r=>
    obtain⟨b,p⟩:=r;rw[h'] at h;injection h with h;injection h with h3 h4;obtain⟨h5,h6⟩:=hT (q+1) b p h';subst h3;subst h4;refine⟨yU1 hk h1 h5,?_⟩;have e:szT (nd k nob (fr2 a b))=1+(szT a+szT b):=by unfold szT;simp only[nd,fr2,fr1,Fr.sz];omega
    omega
  ·injection h with h
   injection h with h3 h4;subst h3;subst h4;exact⟨h1,h2⟩
theorem zQ2 {l:List Tk} {i:Nat} {T:Nat→Rs Tr} {C:Nat→Fr→Rs Fr} (hT:∀j,FormT nk lg j (T j)) (hC:∀j,FormC nk lg j .nil (C j .nil)):FormT nk lg i (atomS nk lg l i T C):=by
 intro t j h;have one:∀k s,szT (nd k s .nil)=1:=fun _ _=>rfl
 unfold atomS at h
 split at h
 ·rename_i s hs
  injection h with h;injection h with h1 h2;subst h1;subst h2;exact⟨zAy (zW4 hs),by rw[one];omega⟩
 ·split at h
  ·injection h with h
   injection h with h1 h2;subst h1;subst h2;exact⟨zW3 1 (by omega),by rw[one];omega⟩
  ·split at h
   ·injection h with h
    injection h with h1 h2;subst h1;subst h2;exact⟨zW3 2 (by omega),by rw[one];omega⟩
   ·split at h
    ·injection h with h
     injection h with h1 h2;subst h1;subst h2;exact⟨zW3 3 (by omega),by rw[one];omega⟩
    ·split at h
     ·cases h':T (i+1) with
      | inr e=>rw[h'] at h;cases h
      | inl r=>
       obtain⟨a,q⟩:=r;rw[h'] at h;simp only at h;obtain⟨h5,h6⟩:=hT (i+1) a q h'
       split at h
       ·injection h with h
        injection h with h1 h2;subst h1;subst h2;exact⟨h5,by omega⟩
       ·cases h
     ·split at h
      ·split at h
       ·cases h
       ·rename_i s hs
        split at h
        ·cases h':C (i+3) .nil with
         | inr e=>rw[h'] at h;cases h
         | inl r=>
          obtain⟨c,q⟩:=r;rw[h'] at h;simp only at h;obtain⟨h5,h6,h7⟩:=hC (i+3) c q h';have h8:Fr.nil.sz=0:=rfl
          split at h
          ·injection h with h
           injection h with h1 h2;subst h1;subst h2;exact⟨is_mu (zW4 hs) h5 h7,by show 1+c.sz+i≤q+1;omega⟩
          ·cases h
        ·cases h
      ·cases h
theorem zQ3 {l:List Tk} {i:Nat} {acc:Fr} {T:Nat→Rs Tr} {C:Nat→Fr→Rs Fr} (ha:ConOk nk lg acc) (hT:∀j,FormT nk lg j (T j)) (hC:∀j a,ConOk nk lg a→FormC nk lg j a (C j a)):FormC nk lg i acc (consS nk l i acc T C):=by
 intro c j h;unfold consS at h
 split at h
 ·cases h
 ·rename_i s hs
  split at h
  ·cases h
  ·rename_i hn
   split at h
   ·cases h':T (i+2) with
    | inr e=>rw[h'] at h;cases h
    | inl r=>
     obtain⟨t,q⟩:=r;rw[h'] at h;simp only at h;obtain⟨h5,h6⟩:=hT (i+2) t q h';have hk:=ha.more (zW4 hs) (Bool.eq_false_iff.2 hn) h5;have hz:(acc.app (fr1 (nd 8 s (fr1 t)))).sz=acc.sz+(1+szT t):=by rw[Fr.sz_app];unfold szT;simp only[nd,fr1,Fr.sz];omega
     split at h
     ·obtain⟨h7,h8,h9⟩:=hC (q+1) _ hk c j h
      exact⟨h7,by omega,h9⟩
     ·injection h with h
      injection h with h1 h2;subst h1;subst h2;exact⟨hk,by omega,by rw[Fr.len_app];show 0<acc.len+1;omega⟩
   ·cases h
theorem zT9 (l:List Tk):∀(n:Nat),(∀i,FormT nk lg i (typF nk lg n l i))∧(∀i,FormT nk lg i (prodF nk lg n l i))∧(∀i,FormT nk lg i (atomF nk lg n l i))∧(∀i acc,ConOk nk lg acc→FormC nk lg i acc (consF nk lg n l i acc))
 | 0=>⟨(fun i t j h=>by rw[typF] at h;cases h),(fun i t j h=>by rw[prodF] at h;cases h),(fun i t j h=>by rw[atomF] at h;cases h),(fun i _ _ c j h=>by rw[consF] at h;cases h)⟩
 | n+1=>by
  obtain⟨hT,hP,hA,hC⟩:=zT9 l n;refine⟨fun i=>?_,fun i=>?_,fun i=>?_,fun i acc ha=>?_⟩
  ·rw[mZ]
   exact zZv (.inl rfl) (hP i) hT
  ·rw[fE]
   exact zZv (.inr rfl) (hA i) hP
  ·rw[fF]
   exact zQ2 hT fun j=>hC j .nil ConOk.nil
  ·rw[fG]
   exact zQ3 ha hT hC
theorem zZw {l:List Tk} {i j:Nat} {t:Tr} (h:typL nk lg l i = .inl (t,j)):isT nk lg t 1=true∧szT t+i≤j:=(zT9 l _).1 i t j h
end
section
variable {nk lg:ByteArray→Bool}
theorem yU3 {n:Int} (h1 : -1073741824≤n) (h2:n≤1073741824):isT nk lg (⟨20,n,nob,nob⟩,.nil) 2=true:=
 zC.2 ⟨⟨2,20,[],[],-1073741824,1073741824,[]⟩,by simp[RWS],zJ.2 ⟨rfl,rfl,rfl,rfl,h1,h2,rfl⟩⟩
theorem yU4 {n:Int} (h1:0≤n) (h2:n≤1):isT nk lg (⟨21,n,nob,nob⟩,.nil) 2=true:=
 zC.2 ⟨⟨2,21,[],[],0,1,[]⟩,by simp[RWS],zJ.2 ⟨rfl,rfl,rfl,rfl,h1,h2,rfl⟩⟩
theorem zAz:isT nk lg (nd 22 nob .nil) 2=true:=
 zC.2 ⟨⟨2,22,[],[],0,0,[]⟩,by simp[RWS],zJ.2 ⟨rfl,rfl,rfl,rfl,Int.le_refl 0,Int.le_refl 0,rfl⟩⟩
theorem yU5 {s:ByteArray} (h:lg s=true):isT nk lg (nd 23 s .nil) 2=true:=
 zC.2 ⟨⟨2,23,[108],[],0,0,[]⟩,by simp[RWS],zJ.2 ⟨rfl,rfl,h,rfl,Int.le_refl 0,Int.le_refl 0,rfl⟩⟩
theorem yU6 {a b:Tr} (ha:isT nk lg a 1=true) (hb:isT nk lg b 2=true):seqOk (infF nk lg (fr2 a b)) [116,101]=true:=by
 show((isT nk lg a 1)&&((isT nk lg b 2)&&true))=true
 rw[ha,hb]
 rfl
theorem zW5 {a b:Tr} (ha:isT nk lg a 2=true) (hb:isT nk lg b 2=true):seqOk (infF nk lg (fr2 a b)) [101,101]=true:=by
 show((isT nk lg a 2)&&((isT nk lg b 2)&&true))=true
 rw[ha,hb]
 rfl
theorem zFz {a:Tr} (ha:isT nk lg a 2=true):seqOk (infF nk lg (fr1 a)) [101]=true:=by
 show((isT nk lg a 2)&&true)=true
 rw[ha]
 rfl
theorem yZ0 {a b c:Tr} (ha:isT nk lg a 2=true) (hb:isT nk lg b 2=true) (hc:isT nk lg c 2=true):seqOk (infF nk lg (fr3 a b c)) [101,101,101]=true:=by
 show((isT nk lg a 2)&&((isT nk lg b 2)&&((isT nk lg c 2)&&true)))=true
 rw[ha,hb,hc]
 rfl
theorem yU7 {s:ByteArray} (h:nk s=true) {a b:Tr} (ha:isT nk lg a 1=true) (hb:isT nk lg b 2=true):isT nk lg (nd 24 s (fr2 a b)) 2=true:=
 zC.2 ⟨⟨2,24,[110],[],0,0,[116,101]⟩,by simp[RWS],zJ.2 ⟨rfl,rfl,h,rfl,Int.le_refl 0,Int.le_refl 0,yU6 ha hb⟩⟩
theorem yU8 {a b:Tr} (ha:isT nk lg a 2=true) (hb:isT nk lg b 2=true):isT nk lg (⟨25,0,nob,nob⟩,fr2 a b) 2=true:=
 zC.2 ⟨⟨2,25,[],[],0,0,[101,101]⟩,by simp[RWS],zJ.2 ⟨rfl,rfl,rfl,rfl,Int.le_refl 0,Int.le_refl 0,zW5 ha hb⟩⟩
theorem yZ1 {a b:Tr} (ha:isT nk lg a 2=true) (hb:isT nk lg b 2=true):isT nk lg (nd 26 nob (fr2 a b)) 2=true:=
 zC.2 ⟨⟨2,26,[],[],0,0,[101,101]⟩,by simp[RWS],zJ.2 ⟨rfl,rfl,rfl,rfl,Int.le_refl 0,Int.le_refl 0,zW5 ha hb⟩⟩
theorem yU9 {k:Int} (hk:k=27∨k=28) {a:Tr} (ha:isT nk lg a 2=true):isT nk lg (nd k nob (fr1 a)) 2=true:=by
 rcases hk with rfl | rfl
 ·exact zC.2 ⟨⟨2,27,[],[],0,0,[101]⟩,by simp[RWS],zJ.2 ⟨rfl,rfl,rfl,rfl,Int.le_refl 0,Int.le_refl 0,zFz ha⟩⟩
 ·exact zC.2 ⟨⟨2,28,[],[],0,0,[101]⟩,by simp[RWS],zJ.2 ⟨rfl,rfl,rfl,rfl,Int.le_refl 0,Int.le_refl 0,zFz ha⟩⟩
theorem yUa {s:ByteArray} (h:nk s=true) {a b:Tr} (ha:isT nk lg a 2=true) (hb:isT nk lg b 2=true):isT nk lg (nd 29 s (fr2 a b)) 2=true:=
 zC.2 ⟨⟨2,29,[110],[],0,0,[101,101]⟩,by simp[RWS],zJ.2 ⟨rfl,rfl,h,rfl,Int.le_refl 0,Int.le_refl 0,zW5 ha hb⟩⟩
theorem is_if {a b c:Tr} (ha:isT nk lg a 2=true) (hb:isT nk lg b 2=true) (hc:isT nk lg c 2=true):isT nk lg (nd 30 nob (fr3 a b c)) 2=true:=
 zC.2 ⟨⟨2,30,[],[],0,0,[101,101,101]⟩,by simp[RWS],zJ.2 ⟨rfl,rfl,rfl,rfl,Int.le_refl 0,Int.le_refl 0,yZ0 ha hb hc⟩⟩
theorem is_op {k:Int} (h1:1≤k) (h2:k≤5) {a b:Tr} (ha:isT nk lg a 2=true) (hb:isT nk lg b 2=true):isT nk lg (opN k,fr2 a b) 2=true:=
 zC.2 ⟨⟨2,31,[],[],1,5,[101,101]⟩,by simp[RWS],zJ.2 ⟨rfl,rfl,rfl,rfl,h1,h2,zW5 ha hb⟩⟩
theorem yUb {c x:ByteArray} (hc:nk c=true) (hx:nk x=true) {b:Tr} (hb:isT nk lg b 2=true):isT nk lg (⟨34,0,c,x⟩,fr1 b) 9=true:=
 zC.2 ⟨⟨9,34,[110],[110],0,0,[101]⟩,by simp[RWS],zJ.2 ⟨rfl,rfl,hc,hx,Int.le_refl 0,Int.le_refl 0,zFz hb⟩⟩
theorem ArmOk.more {f:Fr} (h:ArmOk nk lg f) {t:Tr} (ht:isT nk lg t 9=true):ArmOk nk lg (f.app (fr1 t)):=by
 unfold ArmOk;rw[lR,List.all_append,h]
 show(true&&(isT nk lg t 9&&true))=true
 rw[ht]
 rfl
theorem zE0 {f:Fr} (h:ArmOk nk lg f) (h0:0<f.len):seqOk (infF nk lg f) [65]=true:=by
 have hl:=jU (nk:=nk) (lg:=lg) f;have e:seqOk (infF nk lg f) [65]=(!(infF nk lg f).isEmpty&&(infF nk lg f).all fun i=>i.is 9):=by cases infF nk lg f<;>rfl
 rw[e,h]
 cases hq:infF nk lg f with
 | nil=>rw[hq] at hl;simp at hl;omega
 | cons i t=>rfl
theorem yZ2 {a:Tr} (ha:isT nk lg a 2=true) {k:Fr} (hk:ArmOk nk lg k) (h0:0<k.len):isT nk lg (nd 32 nob (.cons a.1 a.2 k)) 2=true:=by
 refine zC.2 ⟨⟨2,32,[],[],0,0,[101,65]⟩,by simp[RWS],zJ.2 ⟨rfl,rfl,rfl,rfl,Int.le_refl 0,Int.le_refl 0,?_⟩⟩
 show((isT nk lg a 2)&&seqOk (infF nk lg k) [65])=true
 rw[ha,zE0 hk h0]
 rfl
theorem yZ3 {a t:Tr} (ha:isT nk lg a 2=true) (ht:isT nk lg t 1=true) {k:Fr} (hk:ArmOk nk lg k) (h0:0<k.len):isT nk lg (nd 33 nob (.cons a.1 a.2 (.cons t.1 t.2 k))) 2=true:=by
 refine zC.2 ⟨⟨2,33,[],[],0,0,[101,116,65]⟩,by simp[RWS],zJ.2 ⟨rfl,rfl,rfl,rfl,Int.le_refl 0,Int.le_refl 0,?_⟩⟩
 show((isT nk lg a 2)&&((isT nk lg t 1)&&seqOk (infF nk lg k) [65]))=true
 rw[ha,ht,zE0 hk h0]
 rfl
def wT (t:Tr):Nat:=if t.1.k<20 then 150*szT t else wN t.1+wF t.2
theorem zE1 (a b:Tr):wF (fr2 a b)=wT a+wT b:=rfl
theorem yUc (a b:Fr):wF (a.app b)=wF a+wF b:=by
 induction a with
 | nil=>exact(Nat.zero_add _).symm
 | cons x k r _ ih=>simp only[Fr.app,wF,ih];omega
theorem yYq {x:Nod} {f:Fr} (h:20≤x.k):wT (x,f)=wN x+wF f:=by unfold wT;rw[if_neg (by show ¬x.k<20;omega)]
theorem zE2 {t:Tr} (h:isT nk lg t 1=true):wT t=150*szT t:=by unfold wT;rw[if_pos (ty_k h)]
theorem oP (a:Tr) (r:Fr):(Fr.cons a.1 a.2 r).sz=szT a+r.sz:=rfl
structure Ok2 (nk lg:ByteArray→Bool) (i:Nat) (t:Tr) (j:Nat):Prop where
 is:isT nk lg t 2=true
 sz:szT t+1+2*i≤2*j
 w:wT t+8+160*i≤160*j
structure OkA (nk lg:ByteArray→Bool) (i:Nat) (f:Fr) (j:Nat):Prop where
 ok:ArmOk nk lg f
 sz:f.sz+2*i≤2*j
 w:wF f+160*i≤160*j
def xD (nk lg:ByteArray→Bool) (i:Nat) (R:Rs Tr):Prop:=∀t j,R = .inl (t,j)→Ok2 nk lg i t j
def FormA (nk lg:ByteArray→Bool) (i:Nat) (acc:Fr) (R:Rs Fr):Prop:=∀f j,R = .inl (f,j)→∀h,OkA nk lg h acc i→OkA nk lg h f j∧0<f.len
variable {l:List Te}
theorem gQ:∀(ks:List ByteArray) (i j:Nat),keysL (tks l) i ks = .inl ((),j)→j=i+ks.length
 | [],i,j,h=>by
  unfold keysL at h;injection h with h;injection h with _ h;exact h.symm
 | k::r,i,j,h=>by
  unfold keysL at h
  split at h
  ·have:=gQ r (i+1) j h
   rw[List.length_cons];omega
  ·cases h
theorem jO {α:Type} {R:Rs α} {ks:List ByteArray} {a:α} {m:Nat} (h:thenK (tks l) R ks = .inl (a,m)):∃j,R = .inl (a,j)∧keysL (tks l) j ks = .inl ((),m)∧m=j+ks.length:=by
 obtain⟨a',j,h1,h2⟩:=qG h;obtain⟨u,m',h3,h4⟩:=qG h2;injection h4 with h4;injection h4 with h5 h6;subst h5;subst h6;exact⟨j,h1,h3,gQ _ _ _ h3⟩
theorem pO {p:ByteArray→Bool} {ks:List ByteArray} {i m:Nat} {s:ByteArray} (h:nameQ p (tks l) i ks = .inl (s,m)):nam p (tks l) i=some s∧p s=true∧keysL (tks l) (i+1) ks = .inl ((),m)∧m=i+1+ks.length:=by
 unfold nameQ at h
 split at h
 ·cases h
 ·rename_i s' hs
  obtain⟨u,m',h3,h4⟩:=qG h;injection h4 with h4;injection h4 with h5 h6;subst h5;subst h6;exact⟨hs,zW4 hs,h3,gQ _ _ _ h3⟩
theorem zW6 {x:Nod} {a b:Tr} {i j d m:Nat} (hx:(x=⟨25,0,nob,nob⟩∧d=0)∨(∃k,1≤k∧k≤5∧x=opN k∧d=1)) (ha:Ok2 nk lg i a j) (hb:Ok2 nk lg (j+d) b m):Ok2 nk lg i (x,fr2 a b) m:=by
 have a1:=ha.sz;have a2:=ha.w;have b1:=hb.sz;have b2:=hb.w
 rcases hx with ⟨rfl,rfl⟩ | ⟨k,h1,h2,rfl,rfl⟩
 ·refine⟨yU8 ha.is hb.is,?_,?_⟩
  ·rw[qT];omega
  ·rw[yYq (by decide),zE1]
   have e:wN ⟨25,0,nob,nob⟩=8:=rfl;rw[e];omega
 ·refine⟨is_op h1 h2 ha.is hb.is,?_,?_⟩
  ·rw[qT];omega
  ·rw[yYq (show(20:Int)≤31 by decide),zE1]
   have e:wN (opN k)=24:=rfl;rw[e];omega
theorem zTa {T:Nat→Rs Tr} {s:Nat→Option (Nod×Nat)} (hT:∀j,xD nk lg j (T j)) (hs:∀j x d,s j=some (x,d)→(x=⟨25,0,nob,nob⟩∧d=0)∨(∃k,1≤k∧k≤5∧x=opN k∧d=1)) {i:Nat} :
  ∀(n:Nat) (a:Tr) (j:Nat),Ok2 nk lg i a j→xD nk lg i (lop T s n a j)
 | 0,a,j,_=>fun t m h=>by unfold lop at h;cases h
 | n+1,a,j,ha=>fun t m h=>by
  unfold lop at h
  split at h
  ·injection h with h
   injection h with h1 h2;subst h1;subst h2;exact ha
  ·rename_i x d hx
   obtain⟨b,q,h1,h2⟩:=qG h;exact zTa hT hs n _ q (zW6 (hs j x d hx) ha (hT _ b q h1)) t m h2
theorem dV {T:Nat→Rs Tr} {s:Nat→Option (Nod×Nat)} (hT:∀j,xD nk lg j (T j)) (hs:∀j x d,s j=some (x,d)→(x=⟨25,0,nob,nob⟩∧d=0)∨(∃k,1≤k∧k≤5∧x=opN k∧d=1)) (n i:Nat):xD nk lg i (lopS T s n i):=fun t m h=>by
 obtain⟨a,j,h1,h2⟩:=qG h;exact zTa hT hs n a j (hT i a j h1) t m h2
theorem zK5 {n:Nat} {A:Nat→Rs Tr} (hA:∀j,xD nk lg j (A j)) (i:Nat):xD nk lg i (appS lg l n A i):=dV hA (fun _ _ _ h=>.inl (zX5 h).2) n i
theorem zK6 {n:Nat} {A:Nat→Rs Tr} (hA:∀j,xD nk lg j (A j)) (i:Nat):xD nk lg i (mulS lg l n A i):=dV (zK5 hA) (fun _ _ _ h=>.inr ⟨3,by decide,by decide,(zX6 h).2⟩) n i
theorem zZx {n:Nat} {A:Nat→Rs Tr} (hA:∀j,xD nk lg j (A j)) (i:Nat):xD nk lg i (addS lg l n A i):=dV (zK6 hA) (fun _ _ _ h=>by
 obtain⟨_,h1 | h1,h2⟩:=zX7 h
 ·exact .inr ⟨1,by decide,by decide,h1,h2⟩
 ·exact .inr ⟨2,by decide,by decide,h1,h2⟩) n i
theorem zK7 {n:Nat} {A:Nat→Rs Tr} (hA:∀j,xD nk lg j (A j)) (i:Nat):xD nk lg i (cmpS lg l n A i):=fun t m h=>by
 obtain⟨a,j,h1,h2⟩:=qG h;have ha:=zZx hA i a j h1
 split at h2
 ·injection h2 with h2
  injection h2 with h3 h4;subst h3;subst h4;exact ha
 ·rename_i x d hx
  obtain⟨b,q,h3,h4⟩:=qG h2;injection h4 with h4;injection h4 with h5 h6;subst h5;subst h6;have hb:=zZx hA (j+d) b q h3;obtain⟨_,h7 | h7,h8⟩:=zX8 hx
  ·exact zW6 (.inr ⟨4,by decide,by decide,h7,h8⟩) ha hb
  ·exact zW6 (.inr ⟨5,by decide,by decide,h7,h8⟩) ha hb
theorem yZ4 {i:Nat} {n:Int} (h:hdE lg l i = .num n) : -1073741824≤n∧n≤1073741824:=by
 unfold hdE at h
 split at h
 ·unfold hdT at h
  repeat' split at h
  all_goals first | (cases h;done) | (injection h with h;subst h;assumption)
 ·cases h
theorem zE3 {i:Nat} {n:Int} (h:hdE lg l i = .boo n):0≤n∧n≤1:=by
 unfold hdE at h
 split at h
 ·unfold hdT at h
  repeat' split at h
  all_goals first | (injection h with h;omega) | cases h
 ·cases h
theorem yUd {i:Nat} {s:ByteArray} (h:hdE lg l i = .var s):lg s=true:=by
 unfold hdE at h
 split at h
 ·unfold hdT at h
  repeat' split at h
  all_goals first | (cases h;done) | (injection h with h;subst h;assumption)
 ·cases h
theorem zE4 {i:Nat} {k:Int} (h:hdE lg l i = .sel k):k=27∨k=28:=by
 unfold hdE at h
 split at h
 ·unfold hdT at h
  repeat' split at h
  all_goals first | (injection h with h;omega) | cases h
 ·cases h
section
variable (hn:∀s,nk s=true→s.size≤128) (hg:∀s,lg s=true→s.size≤128)
include hg in
theorem zTb {A E:Nat→Rs Tr} (hA:∀j,xD nk lg j (A j)) (hE:∀j,xD nk lg j (E j)) (i:Nat):xD nk lg i (qK lg l A E i):=fun t m h=>by
 unfold qK at h
 cases hh:hdE lg l i with
 | no=>rw[hh] at h;cases h
 | num n=>
  rw[hh] at h;injection h with h;injection h with h1 h2;subst h1;subst h2;have hr:=yZ4 hh;refine⟨yU3 hr.1 hr.2,by rw[kB];omega,?_⟩;have e:wT ((⟨20,n,nob,nob⟩,.nil):Tr)=24:=rfl;rw[e];omega
 | var s=>
  rw[hh] at h;injection h with h;injection h with h1 h2;subst h1;subst h2;have hs:=yUd hh;have hz:=hg s hs;refine⟨yU5 hs,by show 1+1+2*i≤_;omega,?_⟩;have e:wT (nd 23 s .nil)=2+s.size+0+0:=rfl;rw[e];omega
 | boo n=>
  rw[hh] at h;injection h with h;injection h with h1 h2;subst h1;subst h2;have hr:=zE3 hh;refine⟨yU4 hr.1 hr.2,by rw[kB];omega,?_⟩;have e:wT ((⟨21,n,nob,nob⟩,.nil):Tr)=24:=rfl;rw[e];omega
 | sel k=>
  rw[hh] at h;obtain⟨a,j,h1,h2⟩:=qG h;injection h2 with h2;injection h2 with h3 h4;subst h3;subst h4;have hk:=zE4 hh;obtain⟨a1,a2,a3⟩:=hA (i+1) a j h1;refine⟨yU9 hk a1,by show szT (_,fr1 a)+1+2*i≤_;rw[vY];omega,?_⟩;have e:wT (nd k nob (fr1 a))=24+wT a:=by rcases hk with rfl | rfl<;>rfl
  rw[e];omega
 | opn=>
  rw[hh] at h;simp only at h
  split at h
  ·injection h with h;injection h with h1 h2;subst h1;subst h2
   refine⟨zAz,by show 1+1+2*i≤_;omega,?_⟩;have e:wT (nd 22 nob .nil)=24:=rfl;rw[e];omega
  ·obtain⟨a,j,h1,h2⟩:=qG h
   obtain⟨a1,a2,a3⟩:=hE (i+1) a j h1
   split at h2
   ·obtain⟨b,q,h3,h4⟩:=qG h2
    injection h4 with h4;injection h4 with h5 h6;subst h5;subst h6;obtain⟨q',h7,_,h8⟩:=jO h3;obtain⟨b1,b2,b3⟩:=hE (j+1) b q' h7;have h8:q=q'+1:=h8;refine⟨yZ1 a1 b1,by show szT (_,fr2 a b)+1+2*i≤_;rw[qT];omega,?_⟩;have e:wT (nd 26 nob (fr2 a b))=24+(wT a+wT b):=rfl;rw[e];omega
   ·obtain⟨u,q,h3,h4⟩:=qG h2
    injection h4 with h4;injection h4 with h5 h6;subst h5;subst h6;have h8:=gQ _ _ _ h3;have h8:q=j+1:=h8;exact⟨a1,by omega,by omega⟩
include hn in
theorem zQ4 {E:Nat→Rs Tr} {M:Nat→Fr→Rs Fr} (hE:∀j,xD nk lg j (E j)) (hM:∀j a,FormA nk lg j a (M j a)) (i:Nat) (acc:Fr):FormA nk lg i acc (armsS nk l E M i acc):=fun f m h g hacc=>by
 obtain⟨c,j1,h1,h2⟩:=qG h;obtain⟨x,j2,h3,h4⟩:=qG h2;obtain⟨b,j3,h5,h6⟩:=qG h4;obtain⟨_,hc,_,e1⟩:=pO h1;obtain⟨_,hx,_,e2⟩:=pO h3;obtain⟨b1,b2,b3⟩:=hE j2 b j3 h5;have e1:j1=i+1:=e1;have e2:j2=j1+1+1:=e2;have zc:=hn c hc;have zx:=hn x hx;have ok:OkA nk lg g (acc.app (fr1 (⟨34,0,c,x⟩,fr1 b))) j3:=by
  refine⟨hacc.ok.more (yUb hc hx b1),?_,?_⟩
  ·rw[Fr.sz_app]
   have e:(fr1 (⟨34,0,c,x⟩,fr1 b)).sz=1+szT b:=by unfold szT;simp only[fr1,Fr.sz];omega
   have:=hacc.sz;rw[e];omega
  ·rw[yUc]
   have e:wF (fr1 (⟨34,0,c,x⟩,fr1 b))=24+c.size+x.size+wT b:=rfl;have:=hacc.w;rw[e];omega
 have hl:0<(acc.app (fr1 (⟨34,0,c,x⟩,fr1 b))).len:=by rw[Fr.len_app];show 0<acc.len+1;omega
 split at h6
 ·exact hM (j3+1) _ f m h6 g ⟨ok.ok,by have:=ok.sz;omega,by have:=ok.w;omega⟩
 ·obtain⟨u,q,h7,h8⟩:=qG h6
  injection h8 with h8;injection h8 with h9 h10;subst h9;subst h10;have h8:q=j3+1:=gQ _ _ _ h7;exact⟨⟨ok.ok,by have:=ok.sz;omega,by have:=ok.w;omega⟩,hl⟩
include hn in
theorem zQ5 {n:Nat} {A E:Nat→Rs Tr} {M:Nat→Fr→Rs Fr} (hA:∀j,xD nk lg j (A j)) (hE:∀j,xD nk lg j (E j)) (hM:∀j a,FormA nk lg j a (M j a)) (i:Nat):xD nk lg i (exprS nk lg l n A E M i):=fun t m h=>by
 unfold exprS at h
 split at h
 ·obtain⟨u,j1,h1,h2⟩:=qG h
  obtain⟨s,j2,h3,h4⟩:=qG h2;obtain⟨y,j3,h5,h6⟩:=qG h4;obtain⟨b,j4,h7,h8⟩:=qG h6;injection h8 with h8;injection h8 with h9 h10;subst h9;subst h10;have e1:j1=i+1+1:=gQ _ _ _ h1;obtain⟨_,hs,_,e2⟩:=pO h3;have e2:j2=j1+1+1:=e2;obtain⟨q,h9,_,e3⟩:=jO h5;have e3:j3=q+2:=e3;obtain⟨y1,y2⟩:=zZw h9;obtain⟨b1,b2,b3⟩:=hE j3 b j4 h7;have zs:=hn s hs;refine⟨yU7 hs y1 b1,by show szT (_,fr2 y b)+1+2*i≤_;rw[qT];omega,?_⟩;have e:wT (nd 24 s (fr2 y b))=24+s.size+0+(wT y+wT b):=rfl;rw[e,zE2 y1];omega
 ·split at h
  ·obtain⟨s,j1,h1,h2⟩:=qG h
   obtain⟨a,j2,h3,h4⟩:=qG h2;obtain⟨b,j3,h5,h6⟩:=qG h4;injection h6 with h8;injection h8 with h9 h10;subst h9;subst h10;obtain⟨_,hs,_,e1⟩:=pO h1;have e1:j1=i+1+1+1:=e1;obtain⟨q,h7,_,e2⟩:=jO h3;have e2:j2=q+1:=e2;obtain⟨p,h8,_,e3⟩:=jO h5;have e3:j3=p+1:=e3;obtain⟨a1,a2,a3⟩:=hE j1 a q h7;obtain⟨b1,b2,b3⟩:=hE j2 b p h8;have zs:=hn s hs;refine⟨yUa hs a1 b1,by show szT (_,fr2 a b)+1+2*i≤_;rw[qT];omega,?_⟩;have e:wT (nd 29 s (fr2 a b))=24+s.size+0+(wT a+wT b):=rfl;rw[e];omega
  ·split at h
   ·obtain⟨a,j1,h1,h2⟩:=qG h
    obtain⟨b,j2,h3,h4⟩:=qG h2;obtain⟨c,j3,h5,h6⟩:=qG h4;injection h6 with h8;injection h8 with h9 h10;subst h9;subst h10;obtain⟨q,h7,_,e2⟩:=jO h1;have e2:j1=q+1:=e2;obtain⟨p,h8,_,e3⟩:=jO h3;have e3:j2=p+1:=e3;obtain⟨a1,a2,a3⟩:=hE _ a q h7;obtain⟨b1,b2,b3⟩:=hE j1 b p h8;obtain⟨c1,c2,c3⟩:=hE j2 c j3 h5;refine⟨is_if a1 b1 c1,by show szT (_,fr3 a b c)+1+2*i≤_;rw[nE];omega,?_⟩;have e:wT (nd 30 nob (fr3 a b c))=24+(wT a+(wT b+wT c)):=rfl;rw[e];omega
   ·split at h
    ·obtain⟨a,j1,h1,h2⟩:=qG h
     obtain⟨k,j2,h3,h4⟩:=qG h2;injection h4 with h8;injection h8 with h9 h10;subst h9;subst h10;obtain⟨q,h7,_,e2⟩:=jO h1;have e2:j1=q+1:=e2;obtain⟨a1,a2,a3⟩:=hE _ a q h7;obtain⟨⟨k1,k2,k3⟩,k4⟩:=hM j1 .nil k j2 h3 j1 ⟨rfl,by show 0+_≤_;omega,by show 0+_≤_;omega⟩;refine⟨yZ2 a1 k1 k4,by show 1+(Fr.cons a.1 a.2 k).sz+1+2*i≤_;rw[oP];omega,?_⟩;have e:wT (nd 32 nob (.cons a.1 a.2 k))=24+(wT a+wF k):=rfl;rw[e];omega
    ·split at h
     ·obtain⟨a,j1,h1,h2⟩:=qG h
      obtain⟨y,j2,h3,h4⟩:=qG h2;obtain⟨k,j3,h5,h6⟩:=qG h4;injection h6 with h8;injection h8 with h9 h10;subst h9;subst h10;obtain⟨q,h7,_,e2⟩:=jO h1;have e2:j1=q+1:=e2;obtain⟨p,h8,_,e3⟩:=jO h3;have e3:j2=p+1:=e3;obtain⟨a1,a2,a3⟩:=hE _ a q h7;obtain⟨y1,y2⟩:=zZw h8;obtain⟨⟨k1,k2,k3⟩,k4⟩:=hM j2 .nil k j3 h5 j2 ⟨rfl,by show 0+_≤_;omega,by show 0+_≤_;omega⟩;refine⟨yZ3 a1 y1 k1 k4,by show 1+(Fr.cons a.1 a.2 (.cons y.1 y.2 k)).sz+1+2*i≤_;rw[oP,oP];omega,?_⟩;have e:wT (nd 33 nob (.cons a.1 a.2 (.cons y.1 y.2 k)))=24+(wT a+(wT y+wF k)):=rfl;rw[e,zE2 y1];omega
     ·exact zK7 hA i t m h
include hn hg in
theorem zZy:∀(n:Nat),(∀i,xD nk lg i (exprF nk lg l n i))∧(∀i,xD nk lg i (qL nk lg l n i))∧(∀i acc,FormA nk lg i acc (armsF nk lg l n i acc))
 | 0=>⟨(fun i t j h=>by rw[exprF] at h;cases h),(fun i t j h=>by rw[qL] at h;cases h),(fun i _ t j h=>by rw[armsF] at h;cases h)⟩
 | n+1=>by
  obtain⟨hE,hA,hM⟩:=zZy n;refine⟨fun i=>?_,fun i=>?_,fun i acc=>?_⟩
  ·rw[kZ];exact zQ5 hn hA hE hM i
  ·rw[zO];exact zTb hg hA hE i
  ·rw[mD];exact zQ4 hn hE hM i acc
end
end
end Go.Proofs.YtbpijnalmakfaaaGreatDoor
namespace Go.Proofs.YtbpijnalmakfaaaGreatDoor
open Go.RowKit
theorem zW7 {l:List Te} {n:Nat} {i:Int} {t:Tr} {j:Nat} (h:expZ B.nck B.long l n i = .inl (t,j)):szT t≤2*l.length∧j≤l.length∧isT B.nck B.long t 2=true∧wT t≤160*l.length∧i<(j:Int):=by
 unfold expZ at h
 split at h
 ·cases h
 ·have hi:i.toNat≤l.length:=by omega
  have h2:=(zZy pS gH n).1 i.toNat t j h;have h3:=xR (nk:=B.nck) (lg:=B.long) (l:=l) (n:=n) hi;rw[h] at h3;have h4:i.toNat<j∧j≤l.length:=h3;have a1:=h2.sz;have a2:=h2.w;exact⟨by omega,h4.2,h2.is,by omega,by omega⟩
def rc4 (t:B.RTok):List Value:=[.int .i64 t.k,.string t.s,.int .i64 t.n,.int .i64 t.a]
def Tkr (w:World) (v:Value) (l:List B.RTok):Prop:=∃A c,v = .slice A l.length c∧∀(j:Nat) t,l[j]? = some t→∃b o,A=some ⟨b,o,none⟩∧b<w.heap.size∧w.cell? ⟨b,o+j*4,none⟩=some (.int .i64 t.k)∧w.cell? ⟨b,o+j*4+1,none⟩=some (.string t.s)∧w.cell? ⟨b,o+j*4+2,none⟩=some (.int .i64 t.n)∧w.cell? ⟨b,o+j*4+3,none⟩=some (.int .i64 t.a)
theorem zK8 {w:World} {a:Addr} {v:Value} (h:w.cell? a=some v):a.spot=none:=by
 unfold World.cell? at h
 cases hs:a.spot with
 | none=>rfl
 | some z=>
  rw[hs] at h
  cases hh:w.heap[a.block]? with
  | none=>rw[hh] at h;cases h
  | some ob=>rw[hh] at h;cases ob<;>simp at h
theorem zW8 {w:World} {v:Value} {l:List B.RTok} (h:B.RTks w w.heap.size v l):Tkr w v l:=by
 obtain⟨A,c,hv,hc⟩:=h;refine⟨A,c,hv,fun j t ht=>?_⟩;obtain⟨ad,hA,hlt,h0,h1,h2,h3⟩:=hc j t ht;have hj:j<l.length:=(List.getElem?_eq_some_iff.1 ht).1;obtain⟨x0,hx0⟩:∃x0,l[0]? = some x0:=⟨_,List.getElem?_eq_getElem (by omega)⟩;obtain⟨ad0,hA0,_,k0,-⟩:=hc 0 x0 hx0;have e0:ad0=ad:=by rw[hA] at hA0;exact(Option.some.inj hA0).symm
 subst e0;have hsp:ad0.spot=none:=by
  have e:ad0.add (0*4)=ad0:=by simp[Addr.add]
  rw[e] at k0;exact zK8 k0
 have ha:ad0.add (j*4)=⟨ad0.block,ad0.off+j*4,none⟩:=by
  unfold Addr.add
  split
  ·rename_i hi
   rw[hi,←hsp]
   rfl
  ·rfl
 rw[ha] at h0 h1 h2 h3;exact⟨ad0.block,ad0.off,by rw[hA,←hsp],hlt,h0,h1,h2,h3⟩
theorem Tkr.up {W w:World} {v:Value} {l:List B.RTok} (h:Tkr W v l) (u:Up W w):Tkr w v l:=by
 obtain⟨A,c,hv,hc⟩:=h;refine⟨A,c,hv,fun j t ht=>?_⟩;obtain⟨b,o,h1,h2,h3,h4,h5,h6⟩:=hc j t ht;exact⟨b,o,h1,Nat.lt_of_lt_of_le h2 u.size,u.cell h3,u.cell h4,u.cell h5,u.cell h6⟩
def oQ (s:ByteArray):ByteArray:=s.extract 0 (min s.size 140)
theorem zK9 (s:ByteArray):(oQ s).size≤140:=by
 unfold oQ;rw[Lib.size_eq,Lib.extract_data,List.length_take];omega
def cutR (t:B.RTok):B.RTok:=⟨t.k,oQ t.s,t.n,t.a⟩
def fewR (l:List B.RTok):List B.RTok:=(l.take 80).map cutR
theorem zE5 (l:List B.RTok):(fewR l).length≤80:=by unfold fewR;rw[List.length_map,List.length_take];omega
def fl4 (l:List B.RTok):List Value:=l.flatMap rc4
theorem zOx (a b:List B.RTok):fl4 (a++b)=fl4 a++fl4 b:=List.flatMap_append
theorem zE6:∀{l:List B.RTok} {j:Nat} {t:B.RTok},l[j]? = some t→∀i u,(rc4 t)[i]? = some u→(fl4 l)[j*4+i]? = some u
 | [],_,_,h,_,_,_=>by cases h
 | x::r,0,t,h,i,u,hu=>by
  have h:x=t:=Option.some.inj h;subst h
  show(rc4 x++fl4 r)[0*4+i]? = some u
  rw[Nat.zero_mul,Nat.zero_add,List.getElem?_append_left (List.getElem?_eq_some_iff.1 hu).1];exact hu
 | x::r,j+1,t,h,i,u,hu=>by
  show(rc4 x++fl4 r)[(j+1)*4+i]? = some u
  have e:(j+1)*4+i=(rc4 x).length+(j*4+i):=by show _=4+_;omega
  rw[e,List.getElem?_append_right (by omega),Nat.add_sub_cancel_left];exact zE6 (l:=r) (j:=j) h i u hu
theorem zW9 {w:World} {B0:Nat} {v:Value} {n:Nat} {l:List B.RTok} (h:w.ownsRow B0 53 4 v n (fl4 l)) (hn:l.length=n):Tkr w v l:=by
 subst hn
 rcases h.2 with ⟨hv,h0⟩ | ⟨g,cap,cur,hv,hbg,hh,hc,_⟩
 ·exact⟨none,0,by rw[hv,h0],fun j t ht=>by have:=(List.getElem?_eq_some_iff.1 ht).1;omega⟩
 ·refine⟨some ⟨g,0,none⟩,cap,hv,fun j t ht=>?_⟩
  have hlt:=(World.ownsRow.lt h g (by rw[hv];rfl)).2;have hcl:∀i u,(rc4 t)[i]? = some u→w.cell? ⟨g,0+j*4+i,none⟩=some u:=fun i u hu=>by
   have h9:=h.cells (g:=g) (by rw[hv];rfl) _ _ (zE6 ht i u hu);have e1:(⟨g,0,none⟩:Addr).add (j*4+i)=⟨g,0+j*4+i,none⟩:=by unfold Addr.add;split<;>(try simp_all)<;>omega
   rwa [e1] at h9
  exact⟨g,0,rfl,hlt,hcl 0 _ rfl,hcl 1 _ rfl,hcl 2 _ rfl,hcl 3 _ rfl⟩
def FwP (l:List B.RTok) (W:World) (e:Ending) (w':World):Prop:=∃v,e = .returned v∧Tkr w' v (fewR l)∧Up W w'
theorem zWa (l:List B.RTok) (hz:∀t∈l,t.s.size≤9223372036854775807) (W w:World) (v:Value) (hv:Tkr W v l) (hu:Up W w) (_hl:l.length≤9223372036854775807):Calls Tryz.prog 9 #[v] w (FwP l W):=by
 obtain⟨A,c,rfl,hc⟩:=hv.up hu;have HC:=Lib.hid hc;have HZ:=Lib.hid hz;have HU:=Lib.hid hu;obtain⟨N,hN⟩:∃N,l.length=N:=⟨_,rfl⟩;have HN:=Lib.hid hN;rw[hN] at _hl ⊢;obtain⟨i0,hi0,hz0,hz1,hz2⟩:=info_parts tK;clear hc hz hu hv hN
 go_enter Tryz.func9,Tryz.ntmps9
 go_wp2_with fail
 go_loopw [3,4] (fun vo x wr=>∃k:Nat,x = .int .i64 (k:Int)∧k≤N∧k≤80∧wr.ownsRow w.heap.size 53 4 vo k (fl4 ((l.take k).map cutR))∧Up w wr) (fun _ x _=>81-(intOf x).toNat)
 case atStart=>exact⟨0,rfl,Nat.zero_le _,Nat.zero_le _,World.ownsRow_nil _ _ _ _,Up.refl _⟩
 case round=>
  obtain⟨k,rfl,hk,hk80,ho,hur⟩:=hrel;have HO:=Lib.hid ho;have HUR:=Lib.hid hur;have hzr:=hur.size;clear ho
  by_cases hlt:k<N
  ·have hkz:(k:Int)<(N:Int):=by omega
   by_cases h80:k<80
   ·have hk8:(k:Int)<80:=by omega
    obtain⟨t,ht⟩:∃t,l[k]? = some t:=⟨_,List.getElem?_eq_getElem (by rw[HN.out];exact hlt)⟩;obtain⟨b,o,rfl,hb,m0,m1,m2,m3⟩:=HC.out k t ht;have hts:=HZ.out t (List.mem_of_getElem? ht);have a0:=hur.cell m0;have a1:=hur.cell m1;have a2:=hur.cell m2;have a3:=hur.cell m3;have hw1:IntKind.i64.wrap ((k:Int)+1)=((k+1:Nat):Int):=by rw[IntKind.wrap_i64];omega
    obtain⟨XK,XS,XN,XA⟩:=t;simp only at a0 a1 a2 a3 hts;have hbr:b<wr.heap.size:=by omega
    obtain⟨M,hM⟩:∃M:Nat,min XS.size 140=M:=⟨_,rfl⟩;have hm1:(if (140:Int)<(XS.size:Int) then (140:Int) else (XS.size:Int))=(M:Int):=by split<;>omega
    have hm2:min (XS.size:Int) 140=(M:Int):=by omega
    have hm3:(M:Int)≤(XS.size:Int):=by omega
    have HT:Hid (XS.extract 0 M=oQ XS):=Lib.hid (by unfold oQ;rw[hM]);have HTK:=Lib.hid ht;have HB1:=Lib.hid (HO.out.alloc (.cells #[.int .i64 XK,.string (XS.extract 0 M),.int .i64 XN,.int .i64 XA] 53) |>.alloc (.cells #[.int .i64 XK,.string (XS.extract 0 M),.int .i64 XN,.int .i64 XA] 53));have HWZ:Hid (((wr.alloc (.cells #[.int .i64 XK,.string (XS.extract 0 M),.int .i64 XN,.int .i64 XA] 53)).alloc (.cells #[.int .i64 XK,.string (XS.extract 0 M),.int .i64 XN,.int .i64 XA] 53)).heap.size=wr.heap.size+2):=Lib.hid (by simp);have HWB:Hid (w.heap.size≤((wr.alloc (.cells #[.int .i64 XK,.string (XS.extract 0 M),.int .i64 XN,.int .i64 XA] 53)).alloc (.cells #[.int .i64 XK,.string (XS.extract 0 M),.int .i64 XN,.int .i64 XA] 53)).heap.size):=Lib.hid (by rw[HWZ.out];omega);have HU2:Hid (Up w ((wr.alloc (.cells #[.int .i64 XK,.string (XS.extract 0 M),.int .i64 XN,.int .i64 XA] 53)).alloc (.cells #[.int .i64 XK,.string (XS.extract 0 M),.int .i64 XN,.int .i64 XA] 53))):=Lib.hid ((HUR.out.alloc _).alloc _)
    have HNB:Hid (((wr.alloc (.cells #[.int .i64 XK,.string (XS.extract 0 M),.int .i64 XN,.int .i64 XA] 53)).alloc (.cells #[.int .i64 XK,.string (XS.extract 0 M),.int .i64 XN,.int .i64 XA] 53)).heap[wr.heap.size+1]? = some (.cells #[.int .i64 XK,.string (XS.extract 0 M),.int .i64 XN,.int .i64 XA] 53)):=Lib.hid (by rw[show wr.heap.size+1=(wr.alloc (.cells #[.int .i64 XK,.string (XS.extract 0 M),.int .i64 XN,.int .i64 XA] 53)).heap.size from by simp];exact Array.getElem?_push_size);have HCL:Hid (rc4 (cutR ⟨XK,XS,XN,XA⟩)=[.int .i64 XK,.string (XS.extract 0 M),.int .i64 XN,.int .i64 XA]):=Lib.hid (by unfold rc4 cutR;rw[←HT.out]);clear m0 m1 m2 m3 ht hur hM
    go_wp2_with (at_builtin;refine wpList_append_lies _ rfl _ _ 22 rfl w.heap.size 53 i0 _ 4 40 Tryz.underlying22 hi0 hz0 hz1 hz2 rfl (by omega) u3 k (fl4 ((l.take k).map cutR)) rfl HB1.out ⟨wr.heap.size+1,0,none⟩ 1 1 [.int .i64 XK,.string (XS.extract 0 M),.int .i64 XN,.int .i64 XA] rfl rfl (World.news_of_block HNB.out) (by intro u hu;simp only[List.mem_cons,List.not_mem_nil,or_false] at hu;rcases hu with rfl | rfl | rfl | rfl<;>rfl) (by omega) (by unfold maxLen;omega) (by omega) HWB.out (wr.heap.size+2) HWZ.out ?_;intro g6 cap6 w6 ho6 hg6 hat6 hlt6)
    have e9:fl4 ((l.take k).map cutR)++[.int .i64 XK,.string (XS.extract 0 M),.int .i64 XN,.int .i64 XA]=fl4 ((l.take (k+1)).map cutR):=by
     rw[←HCL.out,List.take_add_one,HTK.out,List.map_append,zOx]
     show _=_++(rc4 _++[])
     rw[List.append_nil]
    rw[e9] at ho6;refine⟨⟨k+1,by rw[Int.natCast_add];rfl,by omega,by omega,ho6,HU2.out.grown hg6 HWB.out fun g hg=>(World.ownsRow.lt HO.out g hg).1⟩,?_⟩
    show 81-((k:Int)+1).toNat<81-(k:Int).toNat
    omega
   ·have hk8:¬(k:Int)<80:=by omega
    have hke:k=80:=by omega
    have HKE:=Lib.hid hke;clear hke;go_wp2_with fail
    go_ret
    refine⟨_,rfl,?_,HU.out.trans HUR.out⟩;have h9:=HO.out;have h8:((l.take k).map cutR).length=k:=by rw[List.length_map,List.length_take,HN.out];omega
    have h7:=zW9 h9 h8
    rwa [HKE.out] at h7
  ·have hkz:¬(k:Int)<(N:Int):=by omega
   have hke:k=N:=by omega
   have HKE:=Lib.hid hke;clear hke;go_wp2_with fail
   go_ret
   refine⟨_,rfl,?_,HU.out.trans HUR.out⟩;have h9:=HO.out;have h8:((l.take k).map cutR).length=k:=by rw[List.length_map,List.length_take,HN.out];omega
   have h7:=zW9 h9 h8;have e:fewR l=(l.take k).map cutR:=by
    unfold fewR;rw[List.take_of_length_le (by rw[HN.out];omega),List.take_of_length_le (by rw[HN.out,HKE.out];omega)]
   rw[e];exact h7
def teR (t:B.RTok):Te:=⟨⟨t.k,t.s⟩,t.n⟩
def fewE (l:List B.RTok):List Te:=(fewR l).map teR
theorem lS (l:List B.RTok):(fewE l).length≤80:=by unfold fewE;rw[List.length_map];exact zE5 l
theorem aZ (l:List B.RTok):∀t∈fewE l,t.t.s.size≤140:=by
 intro t ht;obtain⟨x,hx,rfl⟩:=List.mem_map.1 ht;obtain⟨y,_,rfl⟩:=List.mem_map.1 hx;exact zK9 _
theorem Tkr.tke {w:World} {v:Value} {l:List B.RTok} (h:Tkr w v l):Tke w v (l.map teR):=by
 obtain⟨A,c,hv,hc⟩:=h;refine⟨A,c,by rw[hv,List.length_map],fun j t ht=>?_⟩;rw[List.getElem?_map] at ht;obtain⟨x,hx,rfl⟩:=Option.map_eq_some_iff.1 ht;obtain⟨b,o,h1,h2,h3,h4,h5,h6⟩:=hc j x hx;exact⟨b,o,h1,h2,h3,h4,h5,x.a,h6⟩
end Go.Proofs.YtbpijnalmakfaaaGreatDoor
namespace Go.Proofs.YtbpijnalmakfaaaGreatDoor
open Go.ChangeShapes Go.WideShapes Go.Deep Go.RowKit
theorem yUe {w:World} {a:Addr} {v:Value} (h:w.cell? a=some v):a.block<w.heap.size:=by
 rcases Nat.lt_or_ge a.block w.heap.size with h1 | h1
 ·exact h1
 ·have h2:w.heap[a.block]? = none:=Array.getElem?_eq_none h1
  unfold World.cell? at h;rw[h2] at h
  cases h
theorem add_zero (a:Addr):a.add 0=a:=by simp[Addr.add]
theorem yZ5 {H:Type} {enc:TypeId×Value→H} {w:World} {base fuel:Nat} {spare:Nat→Bool} {held:Bool} {cs:List Value} {x:DataW H×List MemPlace}
  (h:DataW.trod enc Tryz.prog w base spare held fuel 53 cs=some x):∃t:B.RTok,cs=rc4 t∧t.s.size≤maxLen:=by
 obtain⟨ys,n,_,_,hlen,hyl,hf⟩:=DataW.trod_struct Tryz.underlying53 h;have hC:Tryz.prog.cellsOf 53=4:=by kernel_rfl
 rw[hC] at hlen;have hl4:cs.length=4:=hlen;have hy4:ys.length=4:=hyl
 match cs,hl4 with
 | [c0,c1,c2,c3],_=>
  match ys,hy4 with
  | [y0,y1,y2,y3],_=>
   have g0:DataW.trod enc Tryz.prog w base spare held n 3 [c0]=some y0:=hf 0 _ rfl;have g1:DataW.trod enc Tryz.prog w base spare held n 9 [c1]=some y1:=hf 1 _ rfl;have g2:DataW.trod enc Tryz.prog w base spare held n 3 [c2]=some y2:=hf 2 _ rfl;have g3:DataW.trod enc Tryz.prog w base spare held n 3 [c3]=some y3:=hf 3 _ rfl;obtain⟨k,e0,_⟩:=DataW.trod_int Tryz.underlying3 g0;obtain⟨s,e1,_,hs⟩:=DataW.trod_string Tryz.underlying9 g1;obtain⟨m,e2,_⟩:=DataW.trod_int Tryz.underlying3 g2;obtain⟨a,e3,_⟩:=DataW.trod_int Tryz.underlying3 g3;injection e0 with e0;injection e1 with e1;injection e2 with e2;injection e3 with e3;exact⟨⟨k,s,m,a⟩,by rw[e0,e1,e2,e3];rfl,hs⟩
theorem pP {H:Type} {enc:TypeId×Value→H} {W:World} {base:Nat} {v:Value} {d:DataW H} {p:List MemPlace}
  (hv:Value.okWide Tryz.prog W .any base 22 v) (h:DataW.Trod enc Tryz.prog W 0 (fun _=>true) true 22 v d p) :
  ∃l:List B.RTok,B.RTks W W.heap.size v l∧l.length≤maxLen∧∀t∈l,t.s.size≤maxLen:=by
 obtain⟨a0,len0,cap0,rfl⟩:=okWide_slice Tryz.underlying22 hv;obtain⟨fuel,hf⟩:=h;have hcs:(Value.slice a0 len0 cap0).cells.toList=[.slice a0 len0 cap0]:=rfl;rw[hcs] at hf
 rcases open_slice Tryz.underlying22 hf with ⟨h0,_⟩ | ⟨a,len,cap,m,n,D,Pl,hc,_,hlc,hcm,hm,_,hi⟩
 ·injection h0 with h0
  rw[h0];exact⟨[],⟨none,0,rfl,fun j t ht=>by simp at ht⟩,by simp,fun t ht=>by cases ht⟩
 ·injection hc with hc
  rw[hc];have hm2:m=cap:=by simpa using hm
  have hC:Tryz.prog.cellsOf 53=4:=by kernel_rfl
  have key:∀i,i<len→∃t:B.RTok,B.TokAt W (a.add (i*4)) t.k t.s t.n t.a∧t.s.size≤maxLen:=by
   intro i hil;obtain⟨cs',hce,htr⟩:=hi i (by omega);obtain⟨t,rfl,hts⟩:=yZ5 htr;rw[hC] at hce;obtain⟨_,_,hat⟩:=World.cells?_some hce;have e0:=hat 0 (by omega);rw[add_zero] at e0;exact⟨t,⟨e0,hat 1 (by omega),hat 2 (by omega),hat 3 (by omega)⟩,hts⟩
  let f:Nat→B.RTok:=fun i=>if h:i<len then Classical.choose (key i h) else ⟨0,⟨#[]⟩,0,0⟩
  have hfx:∀i,i<len→B.TokAt W (a.add (i*4)) (f i).k (f i).s (f i).n (f i).a∧(f i).s.size≤maxLen:=by
   intro i h;have:=Classical.choose_spec (key i h)
   show B.TokAt W _ (dite _ _ _:B.RTok).k (dite _ _ _:B.RTok).s (dite _ _ _:B.RTok).n (dite _ _ _:B.RTok).a∧(dite _ _ _:B.RTok).s.size≤_
   rw[dif_pos h];exact this
  refine⟨(List.range len).map f,⟨some a,cap,by rw[List.length_map,List.length_range],fun j t ht=>?_⟩,by rw[List.length_map,List.length_range];omega,fun t ht=>?_⟩
  ·rw[List.getElem?_map] at ht
   obtain⟨i,hi',rfl⟩:=Option.map_eq_some_iff.1 ht;have hij:i=j∧j<len:=by
    obtain⟨h1,h2⟩:=List.getElem?_eq_some_iff.1 hi';rw[List.length_range] at h1;rw[List.getElem_range] at h2;omega
   obtain⟨rfl,hlt⟩:=hij;have:=(hfx i hlt).1;refine⟨a,rfl,?_,this⟩;have hb:=yUe this.1;rw[fW] at hb;exact hb
  ·obtain⟨i,hi',rfl⟩:=List.mem_map.1 ht
   exact(hfx i (List.mem_range.1 hi')).2
end Go.Proofs.YtbpijnalmakfaaaGreatDoor
