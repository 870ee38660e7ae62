/-
  Plain: what is parsed has a type's form, and no more nodes than tokens.
-/
import Derived.Test.YtbpijnalmakfaaaGreatDoorGw10
import Derived.Test.YtbpijnalmakfaaaGreatDoorGw33
import Derived.Test.YtbpijnalmakfaaaGreatDoorGw46
set_option maxHeartbeats 40000000
set_option maxRecDepth 100000
namespace Go.Proofs.YtbpijnalmakfaaaGreatDoor
section
variable {nk lg:ByteArray→Bool}
theorem zV6 (k:Int) (h:k=1∨k=2∨k=3):isT nk lg (nd k nob .nil) 1=true:=by
 rcases h with rfl | rfl | rfl
 ·exact qY.2 ⟨⟨1,1,[],[],0,0,[]⟩,by simp[RWS],zH.2 ⟨rfl,rfl,rfl,rfl,Int.le_refl 0,Int.le_refl 0,rfl⟩⟩
 ·exact qY.2 ⟨⟨1,2,[],[],0,0,[]⟩,by simp[RWS],zH.2 ⟨rfl,rfl,rfl,rfl,Int.le_refl 0,Int.le_refl 0,rfl⟩⟩
 ·exact qY.2 ⟨⟨1,3,[],[],0,0,[]⟩,by simp[RWS],zH.2 ⟨rfl,rfl,rfl,rfl,Int.le_refl 0,Int.le_refl 0,rfl⟩⟩
theorem yZu {s:ByteArray} (h:lg s=true):isT nk lg (nd 4 s .nil) 1=true:=
 qY.2 ⟨⟨1,4,[108],[],0,0,[]⟩,by simp[RWS],zH.2 ⟨rfl,rfl,h,rfl,Int.le_refl 0,Int.le_refl 0,rfl⟩⟩
theorem yT2 {k:Int} (h:k=5∨k=6) {a b:Tr} (ha:isT nk lg a 1=true) (hb:isT nk lg b 1=true):isT nk lg (nd k nob (fr2 a b)) 1=true:=by
 have hs:seqOk (infF nk lg (fr2 a b)) [116,116]=true:=by
  show((isT nk lg a 1)&&((isT nk lg b 1)&&true))=true
  rw[ha,hb]
  rfl
 rcases h with rfl | rfl
 ·exact qY.2 ⟨⟨1,5,[],[],0,0,[116,116]⟩,by simp[RWS],zH.2 ⟨rfl,rfl,rfl,rfl,Int.le_refl 0,Int.le_refl 0,hs⟩⟩
 ·exact qY.2 ⟨⟨1,6,[],[],0,0,[116,116]⟩,by simp[RWS],zH.2 ⟨rfl,rfl,rfl,rfl,Int.le_refl 0,Int.le_refl 0,hs⟩⟩
theorem yT3 {s:ByteArray} (h:nk s=true) {t:Tr} (ht:isT nk lg t 1=true):isT nk lg (nd 8 s (fr1 t)) 8=true:=by
 have hs:seqOk (infF nk lg (fr1 t)) [116]=true:=by
  show((isT nk lg t 1)&&true)=true
  rw[ht]
  rfl
 exact qY.2 ⟨⟨8,8,[110],[],0,0,[116]⟩,by simp[RWS],zH.2 ⟨rfl,rfl,h,rfl,Int.le_refl 0,Int.le_refl 0,hs⟩⟩
theorem zZ3 (j:Inf):∀l:List Inf,kB (l++[j])=(kB l&&l.all fun i=>decide (i.a≠j.a))
 | []=>rfl
 | i::t=>by
  show((t++[j]).all (fun x=>decide (i.a≠x.a))&&kB (t++[j]))=((t.all (fun x=>decide (i.a≠x.a))&&kB t)&&(decide (i.a≠j.a)&&t.all fun x=>decide (x.a≠j.a)))
  rw[zZ3 j t,List.all_append,List.all_cons,List.all_nil]
  cases t.all (fun x=>decide (i.a≠x.a))<;>cases decide (i.a≠j.a)<;>cases kB t<;>cases (t.all fun x=>decide (x.a≠j.a))<;>rfl
theorem zSf:∀(f:Fr) (s:ByteArray),hasN f s=false→((infF nk lg f).all fun i=>decide (i.a≠s))=true
 | .nil,_,_=>rfl
 | .cons x k r,s,h=>by
  unfold hasN at h;rw[Bool.or_eq_false_iff] at h
  show(decide (x.a≠s)&&(infF nk lg r).all fun i=>decide (i.a≠s))=true
  rw[zSf r s h.2,Bool.and_true,decide_eq_true_eq];exact of_decide_eq_false h.1
theorem ConOk.more {f:Fr} (h:ConOk nk lg f) {s:ByteArray} (hs:nk s=true) (hn:hasN f s=false) {t:Tr} (ht:isT nk lg t 1=true):ConOk nk lg (f.app (fr1 (nd 8 s (fr1 t)))):=by
 have e:infF nk lg (f.app (fr1 (nd 8 s (fr1 t))))=infF nk lg f++[infT nk lg (nd 8 s (fr1 t))]:=lR f _;unfold ConOk;rw[e];refine⟨?_,?_⟩
 ·rw[List.all_append,h.1]
  show(true&&(isT nk lg (nd 8 s (fr1 t)) 8&&true))=true
  rw[yT3 hs ht]
  rfl
 ·rw[zZ3,h.2]
  exact zSf f s hn
theorem is_mu {s:ByteArray} (h:nk s=true) {c:Fr} (hc:ConOk nk lg c) (h0:0<c.len):isT nk lg (nd 7 s c) 1=true:=by
 have hs:seqOk (infF nk lg c) [67]=true:=by
  have hl:=jR (nk:=nk) (lg:=lg) c
  cases hq:infF nk lg c with
  | nil=>rw[hq] at hl;simp at hl;omega
  | cons i t=>
   rw[←hq];have e:seqOk (infF nk lg c) [67]=(!(infF nk lg c).isEmpty&&((infF nk lg c).all fun i=>i.is 8)&&kB (infF nk lg c)):=by cases infF nk lg c<;>rfl
   rw[e,hc.1,hc.2,hq]
   rfl
 exact qY.2 ⟨⟨1,7,[110],[],0,0,[67]⟩,by simp[RWS],zH.2 ⟨rfl,rfl,h,rfl,Int.le_refl 0,Int.le_refl 0,hs⟩⟩
theorem zV7 {p:ByteArray→Bool} {l:List Tk} {i:Nat} {s:ByteArray} (h:nam p l i=some s):p s=true:=by
 unfold nam at h
 split at h
 ·split at h
  ·rename_i hp
   injection h with h;rw[Bool.and_eq_true] at hp;rw[←h];exact hp.2
  ·cases h
 ·cases h
def FormT (nk lg:ByteArray→Bool) (i:Nat) (R:Rs Tr):Prop:=∀t j,R = .inl (t,j)→isT nk lg t 1=true∧szT t+i≤j
def FormC (nk lg:ByteArray→Bool) (i:Nat) (acc:Fr) (R:Rs Fr):Prop:=∀c j,R = .inl (c,j)→ConOk nk lg c∧c.sz+i≤acc.sz+j∧0<c.len
theorem zYv {m:ByteArray} {k:Int} (hk:k=5∨k=6) {l:List Tk} {i:Nat} {r:Rs Tr} {T:Nat→Rs Tr} (hr:FormT nk lg i r) (hT:∀j,FormT nk lg j (T j)):FormT nk lg i (typS m k l r T):=by
 intro t j h;unfold typS at h
 cases r with
 | inr e=>cases h
 | inl r=>
  obtain⟨a,q⟩:=r;obtain⟨h1,h2⟩:=hr a q rfl;simp only at h
  split at h
  ·cases h':T (q+1) with
   | inr e=>rw[h'] at h;cases h
   | inl r=>
    obtain⟨b,p⟩:=r;rw[h'] at h;injection h with h;injection h with h3 h4;obtain⟨h5,h6⟩:=hT (q+1) b p h';subst h3;subst h4;refine⟨yT2 hk h1 h5,?_⟩;have e:szT (nd k nob (fr2 a b))=1+(szT a+szT b):=by unfold szT;simp only[nd,fr2,fr1,Fr.sz];omega
    omega
  ·injection h with h
   injection h with h3 h4;subst h3;subst h4;exact⟨h1,h2⟩
theorem zQt {l:List Tk} {i:Nat} {T:Nat→Rs Tr} {C:Nat→Fr→Rs Fr} (hT:∀j,FormT nk lg j (T j)) (hC:∀j,FormC nk lg j .nil (C j .nil)):FormT nk lg i (atomS nk lg l i T C):=by
 intro t j h;have one:∀k s,szT (nd k s .nil)=1:=fun _ _=>rfl
 unfold atomS at h
 split at h
 ·rename_i s hs
  injection h with h;injection h with h1 h2;subst h1;subst h2;exact⟨yZu (zV7 hs),by rw[one];omega⟩
 ·split at h
  ·injection h with h
   injection h with h1 h2;subst h1;subst h2;exact⟨zV6 1 (by omega),by rw[one];omega⟩
  ·split at h
   ·injection h with h
    injection h with h1 h2;subst h1;subst h2;exact⟨zV6 2 (by omega),by rw[one];omega⟩
   ·split at h
    ·injection h with h
     injection h with h1 h2;subst h1;subst h2;exact⟨zV6 3 (by omega),by rw[one];omega⟩
    ·split at h
     ·cases h':T (i+1) with
      | inr e=>rw[h'] at h;cases h
      | inl r=>
       obtain⟨a,q⟩:=r;rw[h'] at h;simp only at h;obtain⟨h5,h6⟩:=hT (i+1) a q h'
       split at h
       ·injection h with h
        injection h with h1 h2;subst h1;subst h2;exact⟨h5,by omega⟩
       ·cases h
     ·split at h
      ·split at h
       ·cases h
       ·rename_i s hs
        split at h
        ·cases h':C (i+3) .nil with
         | inr e=>rw[h'] at h;cases h
         | inl r=>
          obtain⟨c,q⟩:=r;rw[h'] at h;simp only at h;obtain⟨h5,h6,h7⟩:=hC (i+3) c q h';have h8:Fr.nil.sz=0:=rfl
          split at h
          ·injection h with h
           injection h with h1 h2;subst h1;subst h2;exact⟨is_mu (zV7 hs) h5 h7,by show 1+c.sz+i≤q+1;omega⟩
          ·cases h
        ·cases h
      ·cases h
theorem zQu {l:List Tk} {i:Nat} {acc:Fr} {T:Nat→Rs Tr} {C:Nat→Fr→Rs Fr} (ha:ConOk nk lg acc) (hT:∀j,FormT nk lg j (T j)) (hC:∀j a,ConOk nk lg a→FormC nk lg j a (C j a)):FormC nk lg i acc (consS nk l i acc T C):=by
 intro c j h;unfold consS at h
 split at h
 ·cases h
 ·rename_i s hs
  split at h
  ·cases h
  ·rename_i hn
   split at h
   ·cases h':T (i+2) with
    | inr e=>rw[h'] at h;cases h
    | inl r=>
     obtain⟨t,q⟩:=r;rw[h'] at h;simp only at h;obtain⟨h5,h6⟩:=hT (i+2) t q h';have hk:=ha.more (zV7 hs) (Bool.eq_false_iff.2 hn) h5;have hz:(acc.app (fr1 (nd 8 s (fr1 t)))).sz=acc.sz+(1+szT t):=by rw[Fr.sz_app];unfold szT;simp only[nd,fr1,Fr.sz];omega
     split at h
     ·obtain⟨h7,h8,h9⟩:=hC (q+1) _ hk c j h
      exact⟨h7,by omega,h9⟩
     ·injection h with h
      injection h with h1 h2;subst h1;subst h2;exact⟨hk,by omega,by rw[Fr.len_app];show 0<acc.len+1;omega⟩
   ·cases h
theorem zSg (l:List Tk):∀(n:Nat),(∀i,FormT nk lg i (typF nk lg n l i))∧(∀i,FormT nk lg i (prodF nk lg n l i))∧(∀i,FormT nk lg i (atomF nk lg n l i))∧(∀i acc,ConOk nk lg acc→FormC nk lg i acc (consF nk lg n l i acc))
 | 0=>⟨(fun i t j h=>by rw[typF] at h;cases h),(fun i t j h=>by rw[prodF] at h;cases h),(fun i t j h=>by rw[atomF] at h;cases h),(fun i _ _ c j h=>by rw[consF] at h;cases h)⟩
 | n+1=>by
  obtain⟨hT,hP,hA,hC⟩:=zSg l n;refine⟨fun i=>?_,fun i=>?_,fun i=>?_,fun i acc ha=>?_⟩
  ·rw[dD]
   exact zYv (.inl rfl) (hP i) hT
  ·rw[pK]
   exact zYv (.inr rfl) (hA i) hP
  ·rw[pL]
   exact zQt hT fun j=>hC j .nil ConOk.nil
  ·rw[pM]
   exact zQu ha hT hC
theorem zYw {l:List Tk} {i j:Nat} {t:Tr} (h:typL nk lg l i = .inl (t,j)):isT nk lg t 1=true∧szT t+i≤j:=(zSg l _).1 i t j h
end
section
variable {nk lg:ByteArray→Bool}
theorem yT4 {n:Int} (h1 : -1073741824≤n) (h2:n≤1073741824):isT nk lg (⟨20,n,nob,nob⟩,.nil) 2=true:=
 qY.2 ⟨⟨2,20,[],[],-1073741824,1073741824,[]⟩,by simp[RWS],zH.2 ⟨rfl,rfl,rfl,rfl,h1,h2,rfl⟩⟩
theorem yT5 {n:Int} (h1:0≤n) (h2:n≤1):isT nk lg (⟨21,n,nob,nob⟩,.nil) 2=true:=
 qY.2 ⟨⟨2,21,[],[],0,1,[]⟩,by simp[RWS],zH.2 ⟨rfl,rfl,rfl,rfl,h1,h2,rfl⟩⟩
theorem yZv:isT nk lg (nd 22 nob .nil) 2=true:=
 qY.2 ⟨⟨2,22,[],[],0,0,[]⟩,by simp[RWS],zH.2 ⟨rfl,rfl,rfl,rfl,Int.le_refl 0,Int.le_refl 0,rfl⟩⟩
theorem yT6 {s:ByteArray} (h:lg s=true):isT nk lg (nd 23 s .nil) 2=true:=
 qY.2 ⟨⟨2,23,[108],[],0,0,[]⟩,by simp[RWS],zH.2 ⟨rfl,rfl,h,rfl,Int.le_refl 0,Int.le_refl 0,rfl⟩⟩
theorem yT7 {a b:Tr} (ha:isT nk lg a 1=true) (hb:isT nk lg b 2=true):seqOk (infF nk lg (fr2 a b)) [116,101]=true:=by
 show((isT nk lg a 1)&&((isT nk lg b 2)&&true))=true
 rw[ha,hb]
 rfl
theorem zV8 {a b:Tr} (ha:isT nk lg a 2=true) (hb:isT nk lg b 2=true):seqOk (infF nk lg (fr2 a b)) [101,101]=true:=by
 show((isT nk lg a 2)&&((isT nk lg b 2)&&true))=true
 rw[ha,hb]
 rfl
theorem zDd {a:Tr} (ha:isT nk lg a 2=true):seqOk (infF nk lg (fr1 a)) [101]=true:=by
 show((isT nk lg a 2)&&true)=true
 rw[ha]
 rfl
theorem yZw {a b c:Tr} (ha:isT nk lg a 2=true) (hb:isT nk lg b 2=true) (hc:isT nk lg c 2=true):seqOk (infF nk lg (fr3 a b c)) [101,101,101]=true:=by
 show((isT nk lg a 2)&&((isT nk lg b 2)&&((isT nk lg c 2)&&true)))=true
 rw[ha,hb,hc]
 rfl
theorem yT8 {s:ByteArray} (h:nk s=true) {a b:Tr} (ha:isT nk lg a 1=true) (hb:isT nk lg b 2=true):isT nk lg (nd 24 s (fr2 a b)) 2=true:=
 qY.2 ⟨⟨2,24,[110],[],0,0,[116,101]⟩,by simp[RWS],zH.2 ⟨rfl,rfl,h,rfl,Int.le_refl 0,Int.le_refl 0,yT7 ha hb⟩⟩
theorem yT9 {a b:Tr} (ha:isT nk lg a 2=true) (hb:isT nk lg b 2=true):isT nk lg (⟨25,0,nob,nob⟩,fr2 a b) 2=true:=
 qY.2 ⟨⟨2,25,[],[],0,0,[101,101]⟩,by simp[RWS],zH.2 ⟨rfl,rfl,rfl,rfl,Int.le_refl 0,Int.le_refl 0,zV8 ha hb⟩⟩
theorem yZx {a b:Tr} (ha:isT nk lg a 2=true) (hb:isT nk lg b 2=true):isT nk lg (nd 26 nob (fr2 a b)) 2=true:=
 qY.2 ⟨⟨2,26,[],[],0,0,[101,101]⟩,by simp[RWS],zH.2 ⟨rfl,rfl,rfl,rfl,Int.le_refl 0,Int.le_refl 0,zV8 ha hb⟩⟩
theorem yTa {k:Int} (hk:k=27∨k=28) {a:Tr} (ha:isT nk lg a 2=true):isT nk lg (nd k nob (fr1 a)) 2=true:=by
 rcases hk with rfl | rfl
 ·exact qY.2 ⟨⟨2,27,[],[],0,0,[101]⟩,by simp[RWS],zH.2 ⟨rfl,rfl,rfl,rfl,Int.le_refl 0,Int.le_refl 0,zDd ha⟩⟩
 ·exact qY.2 ⟨⟨2,28,[],[],0,0,[101]⟩,by simp[RWS],zH.2 ⟨rfl,rfl,rfl,rfl,Int.le_refl 0,Int.le_refl 0,zDd ha⟩⟩
theorem yTb {s:ByteArray} (h:nk s=true) {a b:Tr} (ha:isT nk lg a 2=true) (hb:isT nk lg b 2=true):isT nk lg (nd 29 s (fr2 a b)) 2=true:=
 qY.2 ⟨⟨2,29,[110],[],0,0,[101,101]⟩,by simp[RWS],zH.2 ⟨rfl,rfl,h,rfl,Int.le_refl 0,Int.le_refl 0,zV8 ha hb⟩⟩
theorem is_if {a b c:Tr} (ha:isT nk lg a 2=true) (hb:isT nk lg b 2=true) (hc:isT nk lg c 2=true):isT nk lg (nd 30 nob (fr3 a b c)) 2=true:=
 qY.2 ⟨⟨2,30,[],[],0,0,[101,101,101]⟩,by simp[RWS],zH.2 ⟨rfl,rfl,rfl,rfl,Int.le_refl 0,Int.le_refl 0,yZw ha hb hc⟩⟩
theorem is_op {k:Int} (h1:1≤k) (h2:k≤5) {a b:Tr} (ha:isT nk lg a 2=true) (hb:isT nk lg b 2=true):isT nk lg (opN k,fr2 a b) 2=true:=
 qY.2 ⟨⟨2,31,[],[],1,5,[101,101]⟩,by simp[RWS],zH.2 ⟨rfl,rfl,rfl,rfl,h1,h2,zV8 ha hb⟩⟩
theorem yTc {c x:ByteArray} (hc:nk c=true) (hx:nk x=true) {b:Tr} (hb:isT nk lg b 2=true):isT nk lg (⟨34,0,c,x⟩,fr1 b) 9=true:=
 qY.2 ⟨⟨9,34,[110],[110],0,0,[101]⟩,by simp[RWS],zH.2 ⟨rfl,rfl,hc,hx,Int.le_refl 0,Int.le_refl 0,zDd hb⟩⟩
theorem ArmOk.more {f:Fr} (h:ArmOk nk lg f) {t:Tr} (ht:isT nk lg t 9=true):ArmOk nk lg (f.app (fr1 t)):=by
 unfold ArmOk;rw[lR,List.all_append,h]
 show(true&&(isT nk lg t 9&&true))=true
 rw[ht]
 rfl
theorem zDe {f:Fr} (h:ArmOk nk lg f) (h0:0<f.len):seqOk (infF nk lg f) [65]=true:=by
 have hl:=jR (nk:=nk) (lg:=lg) f;have e:seqOk (infF nk lg f) [65]=(!(infF nk lg f).isEmpty&&(infF nk lg f).all fun i=>i.is 9):=by cases infF nk lg f<;>rfl
 rw[e,h]
 cases hq:infF nk lg f with
 | nil=>rw[hq] at hl;simp at hl;omega
 | cons i t=>rfl
theorem yZy {a:Tr} (ha:isT nk lg a 2=true) {k:Fr} (hk:ArmOk nk lg k) (h0:0<k.len):isT nk lg (nd 32 nob (.cons a.1 a.2 k)) 2=true:=by
 refine qY.2 ⟨⟨2,32,[],[],0,0,[101,65]⟩,by simp[RWS],zH.2 ⟨rfl,rfl,rfl,rfl,Int.le_refl 0,Int.le_refl 0,?_⟩⟩
 show((isT nk lg a 2)&&seqOk (infF nk lg k) [65])=true
 rw[ha,zDe hk h0]
 rfl
theorem yZz {a t:Tr} (ha:isT nk lg a 2=true) (ht:isT nk lg t 1=true) {k:Fr} (hk:ArmOk nk lg k) (h0:0<k.len):isT nk lg (nd 33 nob (.cons a.1 a.2 (.cons t.1 t.2 k))) 2=true:=by
 refine qY.2 ⟨⟨2,33,[],[],0,0,[101,116,65]⟩,by simp[RWS],zH.2 ⟨rfl,rfl,rfl,rfl,Int.le_refl 0,Int.le_refl 0,?_⟩⟩
 show((isT nk lg a 2)&&((isT nk lg t 1)&&seqOk (infF nk lg k) [65]))=true
 rw[ha,ht,zDe hk h0]
 rfl
def wT (t:Tr):Nat:=if t.1.k<20 then 150*szT t else wN t.1+wF t.2
theorem zDf (a b:Tr):wF (fr2 a b)=wT a+wT b:=rfl
theorem yTd (a b:Fr):wF (a.app b)=wF a+wF b:=by
 induction a with
 | nil=>exact(Nat.zero_add _).symm
 | cons x k r _ ih=>simp only[Fr.app,wF,ih];omega
theorem yX9 {x:Nod} {f:Fr} (h:20≤x.k):wT (x,f)=wN x+wF f:=by unfold wT;rw[if_neg (by show ¬x.k<20;omega)]
theorem yXa {t:Tr} (h:isT nk lg t 1=true):wT t=150*szT t:=by unfold wT;rw[if_pos (ty_k h)]
theorem zZ4 (a:Tr) (r:Fr):(Fr.cons a.1 a.2 r).sz=szT a+r.sz:=rfl
structure Ok2 (nk lg:ByteArray→Bool) (i:Nat) (t:Tr) (j:Nat):Prop where
 is:isT nk lg t 2=true
 sz:szT t+1+2*i≤2*j
 w:wT t+8+160*i≤160*j
structure OkA (nk lg:ByteArray→Bool) (i:Nat) (f:Fr) (j:Nat):Prop where
 ok:ArmOk nk lg f
 sz:f.sz+2*i≤2*j
 w:wF f+160*i≤160*j
def jX (nk lg:ByteArray→Bool) (i:Nat) (R:Rs Tr):Prop:=∀t j,R = .inl (t,j)→Ok2 nk lg i t j
def FormA (nk lg:ByteArray→Bool) (i:Nat) (acc:Fr) (R:Rs Fr):Prop:=∀f j,R = .inl (f,j)→∀h,OkA nk lg h acc i→OkA nk lg h f j∧0<f.len
variable {l:List Te}
theorem gO:∀(ks:List ByteArray) (i j:Nat),keysL (tks l) i ks = .inl ((),j)→j=i+ks.length
 | [],i,j,h=>by
  unfold keysL at h;injection h with h;injection h with _ h;exact h.symm
 | k::r,i,j,h=>by
  unfold keysL at h
  split at h
  ·have:=gO r (i+1) j h
   rw[List.length_cons];omega
  ·cases h
theorem jJ {α:Type} {R:Rs α} {ks:List ByteArray} {a:α} {m:Nat} (h:thenK (tks l) R ks = .inl (a,m)):∃j,R = .inl (a,j)∧keysL (tks l) j ks = .inl ((),m)∧m=j+ks.length:=by
 obtain⟨a',j,h1,h2⟩:=qH h;obtain⟨u,m',h3,h4⟩:=qH h2;injection h4 with h4;injection h4 with h5 h6;subst h5;subst h6;exact⟨j,h1,h3,gO _ _ _ h3⟩
theorem pX {p:ByteArray→Bool} {ks:List ByteArray} {i m:Nat} {s:ByteArray} (h:nameQ p (tks l) i ks = .inl (s,m)):nam p (tks l) i=some s∧p s=true∧keysL (tks l) (i+1) ks = .inl ((),m)∧m=i+1+ks.length:=by
 unfold nameQ at h
 split at h
 ·cases h
 ·rename_i s' hs
  obtain⟨u,m',h3,h4⟩:=qH h;injection h4 with h4;injection h4 with h5 h6;subst h5;subst h6;exact⟨hs,zV7 hs,h3,gO _ _ _ h3⟩
theorem zV9 {x:Nod} {a b:Tr} {i j d m:Nat} (hx:(x=⟨25,0,nob,nob⟩∧d=0)∨(∃k,1≤k∧k≤5∧x=opN k∧d=1)) (ha:Ok2 nk lg i a j) (hb:Ok2 nk lg (j+d) b m):Ok2 nk lg i (x,fr2 a b) m:=by
 have a1:=ha.sz;have a2:=ha.w;have b1:=hb.sz;have b2:=hb.w
 rcases hx with ⟨rfl,rfl⟩ | ⟨k,h1,h2,rfl,rfl⟩
 ·refine⟨yT9 ha.is hb.is,?_,?_⟩
  ·rw[zQ];omega
  ·rw[yX9 (by decide),zDf]
   have e:wN ⟨25,0,nob,nob⟩=8:=rfl;rw[e];omega
 ·refine⟨is_op h1 h2 ha.is hb.is,?_,?_⟩
  ·rw[zQ];omega
  ·rw[yX9 (show(20:Int)≤31 by decide),zDf]
   have e:wN (opN k)=24:=rfl;rw[e];omega
theorem zSh {T:Nat→Rs Tr} {s:Nat→Option (Nod×Nat)} (hT:∀j,jX nk lg j (T j)) (hs:∀j x d,s j=some (x,d)→(x=⟨25,0,nob,nob⟩∧d=0)∨(∃k,1≤k∧k≤5∧x=opN k∧d=1)) {i:Nat} :
  ∀(n:Nat) (a:Tr) (j:Nat),Ok2 nk lg i a j→jX nk lg i (lop T s n a j)
 | 0,a,j,_=>fun t m h=>by unfold lop at h;cases h
 | n+1,a,j,ha=>fun t m h=>by
  unfold lop at h
  split at h
  ·injection h with h
   injection h with h1 h2;subst h1;subst h2;exact ha
  ·rename_i x d hx
   obtain⟨b,q,h1,h2⟩:=qH h;exact zSh hT hs n _ q (zV9 (hs j x d hx) ha (hT _ b q h1)) t m h2
theorem bI {T:Nat→Rs Tr} {s:Nat→Option (Nod×Nat)} (hT:∀j,jX nk lg j (T j)) (hs:∀j x d,s j=some (x,d)→(x=⟨25,0,nob,nob⟩∧d=0)∨(∃k,1≤k∧k≤5∧x=opN k∧d=1)) (n i:Nat):jX nk lg i (lopS T s n i):=fun t m h=>by
 obtain⟨a,j,h1,h2⟩:=qH h;exact zSh hT hs n a j (hT i a j h1) t m h2
theorem zJ0 {n:Nat} {A:Nat→Rs Tr} (hA:∀j,jX nk lg j (A j)) (i:Nat):jX nk lg i (appS lg l n A i):=bI hA (fun _ _ _ h=>.inl (zO9 h).2) n i
theorem zJ1 {n:Nat} {A:Nat→Rs Tr} (hA:∀j,jX nk lg j (A j)) (i:Nat):jX nk lg i (mulS lg l n A i):=bI (zJ0 hA) (fun _ _ _ h=>.inr ⟨3,by decide,by decide,(zOa h).2⟩) n i
theorem zYx {n:Nat} {A:Nat→Rs Tr} (hA:∀j,jX nk lg j (A j)) (i:Nat):jX nk lg i (addS lg l n A i):=bI (zJ1 hA) (fun _ _ _ h=>by
 obtain⟨_,h1 | h1,h2⟩:=zOb h
 ·exact .inr ⟨1,by decide,by decide,h1,h2⟩
 ·exact .inr ⟨2,by decide,by decide,h1,h2⟩) n i
theorem zJ2 {n:Nat} {A:Nat→Rs Tr} (hA:∀j,jX nk lg j (A j)) (i:Nat):jX nk lg i (cmpS lg l n A i):=fun t m h=>by
 obtain⟨a,j,h1,h2⟩:=qH h;have ha:=zYx hA i a j h1
 split at h2
 ·injection h2 with h2
  injection h2 with h3 h4;subst h3;subst h4;exact ha
 ·rename_i x d hx
  obtain⟨b,q,h3,h4⟩:=qH h2;injection h4 with h4;injection h4 with h5 h6;subst h5;subst h6;have hb:=zYx hA (j+d) b q h3;obtain⟨_,h7 | h7,h8⟩:=zOc hx
  ·exact zV9 (.inr ⟨4,by decide,by decide,h7,h8⟩) ha hb
  ·exact zV9 (.inr ⟨5,by decide,by decide,h7,h8⟩) ha hb
theorem yY0 {i:Nat} {n:Int} (h:hdE lg l i = .num n) : -1073741824≤n∧n≤1073741824:=by
 unfold hdE at h
 split at h
 ·unfold hdT at h
  repeat' split at h
  all_goals first | (cases h;done) | (injection h with h;subst h;assumption)
 ·cases h
theorem zDg {i:Nat} {n:Int} (h:hdE lg l i = .boo n):0≤n∧n≤1:=by
 unfold hdE at h
 split at h
 ·unfold hdT at h
  repeat' split at h
  all_goals first | (injection h with h;omega) | cases h
 ·cases h
theorem yTe {i:Nat} {s:ByteArray} (h:hdE lg l i = .var s):lg s=true:=by
 unfold hdE at h
 split at h
 ·unfold hdT at h
  repeat' split at h
  all_goals first | (cases h;done) | (injection h with h;subst h;assumption)
 ·cases h
theorem zDh {i:Nat} {k:Int} (h:hdE lg l i = .sel k):k=27∨k=28:=by
 unfold hdE at h
 split at h
 ·unfold hdT at h
  repeat' split at h
  all_goals first | (injection h with h;omega) | cases h
 ·cases h
section
variable (hn:∀s,nk s=true→s.size≤128) (hg:∀s,lg s=true→s.size≤128)
include hg in
theorem zSi {A E:Nat→Rs Tr} (hA:∀j,jX nk lg j (A j)) (hE:∀j,jX nk lg j (E j)) (i:Nat):jX nk lg i (qL lg l A E i):=fun t m h=>by
 unfold qL at h
 cases hh:hdE lg l i with
 | no=>rw[hh] at h;cases h
 | num n=>
  rw[hh] at h;injection h with h;injection h with h1 h2;subst h1;subst h2;have hr:=yY0 hh;refine⟨yT4 hr.1 hr.2,by rw[yY];omega,?_⟩;have e:wT ((⟨20,n,nob,nob⟩,.nil):Tr)=24:=rfl;rw[e];omega
 | var s=>
  rw[hh] at h;injection h with h;injection h with h1 h2;subst h1;subst h2;have hs:=yTe hh;have hz:=hg s hs;refine⟨yT6 hs,by show 1+1+2*i≤_;omega,?_⟩;have e:wT (nd 23 s .nil)=2+s.size+0+0:=rfl;rw[e];omega
 | boo n=>
  rw[hh] at h;injection h with h;injection h with h1 h2;subst h1;subst h2;have hr:=zDg hh;refine⟨yT5 hr.1 hr.2,by rw[yY];omega,?_⟩;have e:wT ((⟨21,n,nob,nob⟩,.nil):Tr)=24:=rfl;rw[e];omega
 | sel k=>
  rw[hh] at h;obtain⟨a,j,h1,h2⟩:=qH h;injection h2 with h2;injection h2 with h3 h4;subst h3;subst h4;have hk:=zDh hh;obtain⟨a1,a2,a3⟩:=hA (i+1) a j h1;refine⟨yTa hk a1,by show szT (_,fr1 a)+1+2*i≤_;rw[mE];omega,?_⟩;have e:wT (nd k nob (fr1 a))=24+wT a:=by rcases hk with rfl | rfl<;>rfl
  rw[e];omega
 | opn=>
  rw[hh] at h;simp only at h
  split at h
  ·injection h with h;injection h with h1 h2;subst h1;subst h2
   refine⟨yZv,by show 1+1+2*i≤_;omega,?_⟩;have e:wT (nd 22 nob .nil)=24:=rfl;rw[e];omega
  ·obtain⟨a,j,h1,h2⟩:=qH h
   obtain⟨a1,a2,a3⟩:=hE (i+1) a j h1
   split at h2
   ·obtain⟨b,q,h3,h4⟩:=qH h2
    injection h4 with h4;injection h4 with h5 h6;subst h5;subst h6;obtain⟨q',h7,_,h8⟩:=jJ h3;obtain⟨b1,b2,b3⟩:=hE (j+1) b q' h7;have h8:q=q'+1:=h8;refine⟨yZx a1 b1,by show szT (_,fr2 a b)+1+2*i≤_;rw[zQ];omega,?_⟩;have e:wT (nd 26 nob (fr2 a b))=24+(wT a+wT b):=rfl;rw[e];omega
   ·obtain⟨u,q,h3,h4⟩:=qH h2
    injection h4 with h4;injection h4 with h5 h6;subst h5;subst h6;have h8:=gO _ _ _ h3;have h8:q=j+1:=h8;exact⟨a1,by omega,by omega⟩
include hn in
theorem zQv {E:Nat→Rs Tr} {M:Nat→Fr→Rs Fr} (hE:∀j,jX nk lg j (E j)) (hM:∀j a,FormA nk lg j a (M j a)) (i:Nat) (acc:Fr):FormA nk lg i acc (armsS nk l E M i acc):=fun f m h g hacc=>by
 obtain⟨c,j1,h1,h2⟩:=qH h;obtain⟨x,j2,h3,h4⟩:=qH h2;obtain⟨b,j3,h5,h6⟩:=qH h4;obtain⟨_,hc,_,e1⟩:=pX h1;obtain⟨_,hx,_,e2⟩:=pX h3;obtain⟨b1,b2,b3⟩:=hE j2 b j3 h5;have e1:j1=i+1:=e1;have e2:j2=j1+1+1:=e2;have zc:=hn c hc;have zx:=hn x hx;have ok:OkA nk lg g (acc.app (fr1 (⟨34,0,c,x⟩,fr1 b))) j3:=by
  refine⟨hacc.ok.more (yTc hc hx b1),?_,?_⟩
  ·rw[Fr.sz_app]
   have e:(fr1 (⟨34,0,c,x⟩,fr1 b)).sz=1+szT b:=by unfold szT;simp only[fr1,Fr.sz];omega
   have:=hacc.sz;rw[e];omega
  ·rw[yTd]
   have e:wF (fr1 (⟨34,0,c,x⟩,fr1 b))=24+c.size+x.size+wT b:=rfl;have:=hacc.w;rw[e];omega
 have hl:0<(acc.app (fr1 (⟨34,0,c,x⟩,fr1 b))).len:=by rw[Fr.len_app];show 0<acc.len+1;omega
 split at h6
 ·exact hM (j3+1) _ f m h6 g ⟨ok.ok,by have:=ok.sz;omega,by have:=ok.w;omega⟩
 ·obtain⟨u,q,h7,h8⟩:=qH h6
  injection h8 with h8;injection h8 with h9 h10;subst h9;subst h10;have h8:q=j3+1:=gO _ _ _ h7;exact⟨⟨ok.ok,by have:=ok.sz;omega,by have:=ok.w;omega⟩,hl⟩
include hn in
theorem zQw {n:Nat} {A E:Nat→Rs Tr} {M:Nat→Fr→Rs Fr} (hA:∀j,jX nk lg j (A j)) (hE:∀j,jX nk lg j (E j)) (hM:∀j a,FormA nk lg j a (M j a)) (i:Nat):jX nk lg i (exprS nk lg l n A E M i):=fun t m h=>by
 unfold exprS at h
 split at h
 ·obtain⟨u,j1,h1,h2⟩:=qH h
  obtain⟨s,j2,h3,h4⟩:=qH h2;obtain⟨y,j3,h5,h6⟩:=qH h4;obtain⟨b,j4,h7,h8⟩:=qH h6;injection h8 with h8;injection h8 with h9 h10;subst h9;subst h10;have e1:j1=i+1+1:=gO _ _ _ h1;obtain⟨_,hs,_,e2⟩:=pX h3;have e2:j2=j1+1+1:=e2;obtain⟨q,h9,_,e3⟩:=jJ h5;have e3:j3=q+2:=e3;obtain⟨y1,y2⟩:=zYw h9;obtain⟨b1,b2,b3⟩:=hE j3 b j4 h7;have zs:=hn s hs;refine⟨yT8 hs y1 b1,by show szT (_,fr2 y b)+1+2*i≤_;rw[zQ];omega,?_⟩;have e:wT (nd 24 s (fr2 y b))=24+s.size+0+(wT y+wT b):=rfl;rw[e,yXa y1];omega
 ·split at h
  ·obtain⟨s,j1,h1,h2⟩:=qH h
   obtain⟨a,j2,h3,h4⟩:=qH h2;obtain⟨b,j3,h5,h6⟩:=qH h4;injection h6 with h8;injection h8 with h9 h10;subst h9;subst h10;obtain⟨_,hs,_,e1⟩:=pX h1;have e1:j1=i+1+1+1:=e1;obtain⟨q,h7,_,e2⟩:=jJ h3;have e2:j2=q+1:=e2;obtain⟨p,h8,_,e3⟩:=jJ h5;have e3:j3=p+1:=e3;obtain⟨a1,a2,a3⟩:=hE j1 a q h7;obtain⟨b1,b2,b3⟩:=hE j2 b p h8;have zs:=hn s hs;refine⟨yTb hs a1 b1,by show szT (_,fr2 a b)+1+2*i≤_;rw[zQ];omega,?_⟩;have e:wT (nd 29 s (fr2 a b))=24+s.size+0+(wT a+wT b):=rfl;rw[e];omega
  ·split at h
   ·obtain⟨a,j1,h1,h2⟩:=qH h
    obtain⟨b,j2,h3,h4⟩:=qH h2;obtain⟨c,j3,h5,h6⟩:=qH h4;injection h6 with h8;injection h8 with h9 h10;subst h9;subst h10;obtain⟨q,h7,_,e2⟩:=jJ h1;have e2:j1=q+1:=e2;obtain⟨p,h8,_,e3⟩:=jJ h3;have e3:j2=p+1:=e3;obtain⟨a1,a2,a3⟩:=hE _ a q h7;obtain⟨b1,b2,b3⟩:=hE j1 b p h8;obtain⟨c1,c2,c3⟩:=hE j2 c j3 h5;refine⟨is_if a1 b1 c1,by show szT (_,fr3 a b c)+1+2*i≤_;rw[dG];omega,?_⟩;have e:wT (nd 30 nob (fr3 a b c))=24+(wT a+(wT b+wT c)):=rfl;rw[e];omega
   ·split at h
    ·obtain⟨a,j1,h1,h2⟩:=qH h
     obtain⟨k,j2,h3,h4⟩:=qH h2;injection h4 with h8;injection h8 with h9 h10;subst h9;subst h10;obtain⟨q,h7,_,e2⟩:=jJ h1;have e2:j1=q+1:=e2;obtain⟨a1,a2,a3⟩:=hE _ a q h7;obtain⟨⟨k1,k2,k3⟩,k4⟩:=hM j1 .nil k j2 h3 j1 ⟨rfl,by show 0+_≤_;omega,by show 0+_≤_;omega⟩;refine⟨yZy a1 k1 k4,by show 1+(Fr.cons a.1 a.2 k).sz+1+2*i≤_;rw[zZ4];omega,?_⟩;have e:wT (nd 32 nob (.cons a.1 a.2 k))=24+(wT a+wF k):=rfl;rw[e];omega
    ·split at h
     ·obtain⟨a,j1,h1,h2⟩:=qH h
      obtain⟨y,j2,h3,h4⟩:=qH h2;obtain⟨k,j3,h5,h6⟩:=qH h4;injection h6 with h8;injection h8 with h9 h10;subst h9;subst h10;obtain⟨q,h7,_,e2⟩:=jJ h1;have e2:j1=q+1:=e2;obtain⟨p,h8,_,e3⟩:=jJ h3;have e3:j2=p+1:=e3;obtain⟨a1,a2,a3⟩:=hE _ a q h7;obtain⟨y1,y2⟩:=zYw h8;obtain⟨⟨k1,k2,k3⟩,k4⟩:=hM j2 .nil k j3 h5 j2 ⟨rfl,by show 0+_≤_;omega,by show 0+_≤_;omega⟩;refine⟨yZz a1 y1 k1 k4,by show 1+(Fr.cons a.1 a.2 (.cons y.1 y.2 k)).sz+1+2*i≤_;rw[zZ4,zZ4];omega,?_⟩;have e:wT (nd 33 nob (.cons a.1 a.2 (.cons y.1 y.2 k)))=24+(wT a+(wT y+wF k)):=rfl;rw[e,yXa y1];omega
     ·exact zJ2 hA i t m h
include hn hg in
theorem zYy:∀(n:Nat),(∀i,jX nk lg i (exprF nk lg l n i))∧(∀i,jX nk lg i (qP nk lg l n i))∧(∀i acc,FormA nk lg i acc (armsF nk lg l n i acc))
 | 0=>⟨(fun i t j h=>by rw[exprF] at h;cases h),(fun i t j h=>by rw[qP] at h;cases h),(fun i _ t j h=>by rw[armsF] at h;cases h)⟩
 | n+1=>by
  obtain⟨hE,hA,hM⟩:=zYy n;refine⟨fun i=>?_,fun i=>?_,fun i acc=>?_⟩
  ·rw[xN];exact zQw hn hA hE hM i
  ·rw[yG];exact zSi hg hA hE i
  ·rw[tW];exact zQv hn hE hM i acc
end
end
section
variable {nk lg:ByteArray→Bool} {l l':List Te} {d:Nat}
theorem yXb {α:Type} {N i:Nat} {R:Rs α} (h:In N i R) {a:α} {j:Nat} (hR:R = .inl (a,j)):j≤N:=by rw[hR] at h;exact h.2
end
end Go.Proofs.YtbpijnalmakfaaaGreatDoor
namespace Go.Proofs.YtbpijnalmakfaaaGreatDoor
open Go.RowKit
theorem vG (l:List Tk) (i:Int) (x:ByteArray) (w:World) (v:Value) (hv:Tkm w v l) :
  Calls Tryz.prog 57 #[v,.int .i64 i,.string x] w (BoU (keyZ l i x) w):=by
 obtain⟨A,c,rfl,hc⟩:=hv;obtain⟨n,hn⟩:∃n,l.length=n:=⟨_,rfl⟩;rw[hn]
 by_cases h0:0≤i
 ·obtain⟨k,rfl⟩:=Int.eq_ofNat_of_zero_le h0
  by_cases hk:k<n
  ·obtain⟨t,ht⟩:∃t,l[k]? = some t:=⟨_,List.getElem?_eq_getElem (by rw[hn];exact hk)⟩
   obtain⟨b,o,rfl,hb,c0,c1⟩:=hc k t ht;have hki:(k:Int)<(n:Int):=by omega
   have HE:Hid (keyZ l (k:Int) x=(decide (t.k=3)&&decide (t.s=x))):=Lib.hid (by unfold keyZ;rw[decide_eq_true h0,Int.toNat_natCast];unfold key;rw[ht];rfl);rw[HE.out];clear hc ht hn HE
   by_cases h3:t.k=3
   ·rw[decide_eq_true h3,Bool.true_and]
    go_enter Tryz.func57,Tryz.ntmps57
    go_wp2_with fail
    go_ret
    exact kK (oP _ _).symm (Up.refl _)
   ·rw[decide_eq_false h3,Bool.false_and]
    go_enter Tryz.func57,Tryz.ntmps57
    go_wp2_with fail
    go_ret
    exact kK rfl (Up.refl _)
  ·have hki:¬(k:Int)<(n:Int):=by omega
   have HE:Hid (keyZ l (k:Int) x=false):=Lib.hid (by unfold keyZ;rw[Int.toNat_natCast,kI (by omega),Bool.and_false]);rw[HE.out]
   go_enter Tryz.func57,Tryz.ntmps57
   go_wp2_with fail
   go_ret
   exact kK rfl (Up.refl _)
 ·have HE:Hid (keyZ l i x=false):=Lib.hid (by unfold keyZ;rw[decide_eq_false h0,Bool.false_and])
  rw[HE.out]
  go_enter Tryz.func57,Tryz.ntmps57
  go_wp2_with fail
  go_ret
  exact kK rfl (Up.refl _)
theorem zSj (l:List Tk) (i:Int) (w:World) (v:Value) (hv:Tkm w v l) (hz:∀t∈l,t.s.size≤1000000000) :
  Calls Tryz.prog 252 #[v,.int .i64 i] w (NaP (namZ B.long l i) w):=by
 obtain⟨A,c,rfl,hc⟩:=hv;obtain⟨n,hn⟩:∃n,l.length=n:=⟨_,rfl⟩;rw[hn]
 by_cases h0:0≤i
 ·obtain⟨k,rfl⟩:=Int.eq_ofNat_of_zero_le h0
  by_cases hk:k<n
  ·obtain⟨t,ht⟩:∃t,l[k]? = some t:=⟨_,List.getElem?_eq_getElem (by rw[hn];exact hk)⟩
   obtain⟨b,o,rfl,hb,c0,c1⟩:=hc k t ht;have hki:(k:Int)<(n:Int):=by omega
   have cC:=B.zPn t.s w (hz t (List.mem_of_getElem? ht));obtain⟨p,hp⟩:∃p,B.long t.s=p:=⟨_,rfl⟩;rw[hp] at cC;have HE:Hid (namZ B.long l (k:Int)=if decide (t.k=1)&&p then some t.s else none):=Lib.hid (by unfold namZ;rw[if_pos h0,Int.toNat_natCast];unfold nam;rw[ht,←hp]);rw[HE.out];clear hc ht hn HE hp hz
   by_cases h3:t.k=1
   ·rw[decide_eq_true h3,Bool.true_and]
    cases p
    ·go_enter Tryz.func252,Tryz.ntmps252
     go_wp2_with fail;refine cC.mono ?_;rintro e w1 ⟨rfl,u1⟩;go_wp2_with fail
     go_ret2
     exact⟨rfl,u1⟩
    ·go_enter Tryz.func252,Tryz.ntmps252
     go_wp2_with fail;refine cC.mono ?_;rintro e w1 ⟨rfl,u1⟩;have c1':=(show Up w w1 from u1).cell c1;go_wp2_with fail
     go_ret2
     exact⟨rfl,u1⟩
   ·rw[decide_eq_false h3,Bool.false_and]
    go_enter Tryz.func252,Tryz.ntmps252
    go_wp2_with fail
    go_ret2
    exact⟨rfl,Up.refl _⟩
  ·have hki:¬(k:Int)<(n:Int):=by omega
   have HE:Hid (namZ B.long l (k:Int)=none):=Lib.hid (by unfold namZ;rw[if_pos h0,Int.toNat_natCast,tV (by omega)]);rw[HE.out]
   go_enter Tryz.func252,Tryz.ntmps252
   go_wp2_with fail
   go_ret2
   exact⟨rfl,Up.refl _⟩
 ·have HE:Hid (namZ B.long l i=none):=Lib.hid (by unfold namZ;rw[if_neg h0])
  rw[HE.out]
  go_enter Tryz.func252,Tryz.ntmps252
  go_wp2_with fail
  go_ret2
  exact⟨rfl,Up.refl _⟩
theorem yE (k:Int) (a:ByteArray) (A:Option Addr) (n c:Nat) (w:World) :
  Calls Tryz.prog 61 #[.int .i64 k,.string a,.slice A n c] w fun e w'=>e = .returned (.pointer (some ⟨w.heap.size,0,none⟩))∧w'=w.alloc (.cells #[.int .i64 k,.int .i64 0,.string a,.string ⟨#[]⟩,.slice A n c] 57):=by
 go_enter Tryz.func61,Tryz.ntmps61
 go_wp2_with fail
 go_ret
 exact⟨rfl,rfl⟩
section
variable {nk lg:ByteArray→Bool}
end
def RsV (R:Rs Tr) (w w':World) (v:Value) (j e:Int):Prop:=match R with
 | .inl (t,q)=>NewT w w' v t∧j=(q:Int)∧e=0
 | .inr (p,r)=>j=(p:Int)∧e=r∧∃A,v = .pointer A
def qN (R:Rs Tr) (w:World) (e:Ending) (w':World):Prop:=∃v j er,e = .returned (.tuple #[v,.int .i64 j,.int .i64 er])∧RsV R w w' v j er∧Up w w'
theorem zNv {W w:World} {va vb:Value} {a b:Tr} {k:Int} (hW:W.heap.size≤w.heap.size) (ha:NewT W w va a) (hb:NewT W w vb b) :
  NewT W ((w.alloc (.cells #[va,vb] 24)).alloc (.cells #[.int .i64 k,.int .i64 0,.string nob,.string ⟨#[]⟩,.slice (some ⟨w.heap.size,0,none⟩) 2 2] 57)) (.pointer (some ⟨w.heap.size+1,0,none⟩)) (nd k nob (fr2 a b)):=by
 have e1:(w.alloc (.cells #[va,vb] 24)).heap.size=w.heap.size+1:=by simp
 rw[←e1];obtain⟨W1,hW1⟩:∃W1,w.alloc (.cells #[va,vb] 24)=W1:=⟨_,rfl⟩;have s1:W1.heap[w.heap.size]? = some (.cells #[va,vb] 24 (0,0)):=by rw[←hW1];exact heap_alloc_new w _
 have u1:Up w W1:=by rw[←hW1];exact(Up.refl w).alloc _
 have z1:=u1.size;rw[hW1];obtain⟨W2,hW2⟩:∃W2,W1.alloc (.cells #[.int .i64 k,.int .i64 0,.string nob,.string ⟨#[]⟩,.slice (some ⟨w.heap.size,0,none⟩) 2 2] 57)=W2:=⟨_,rfl⟩;have s2:W2.heap[W1.heap.size]? = some (.cells #[.int .i64 k,.int .i64 0,.string nob,.string ⟨#[]⟩,.slice (some ⟨w.heap.size,0,none⟩) 2 2] 57 (0,0)):=by rw[←hW2];exact heap_alloc_new W1 _
 have u2:Up W1 W2:=by rw[←hW2];exact(Up.refl W1).alloc _
 have s3:W2.heap[w.heap.size]? = some (.cells #[va,vb] 24 (0,0)):=u2.row s1;rw[hW2];exact yU (x:=⟨k,0,nob,nob⟩) (f:=fr2 a b) s2 rfl (Nat.le_refl _) ⟨by omega,qC s2⟩ ⟨hW,qC s3⟩ ⟨⟨_,cell_of_row W2 w.heap.size 0 _ _ _ s3,ha.up (u1.trans u2)⟩,⟨_,cell_of_row W2 w.heap.size 1 _ _ _ s3,hb.up (u1.trans u2)⟩,trivial⟩
theorem yY1 (l:List Tk) (i:Nat) (hi:i≤l.length) (hl:l.length≤1000000) (w:World) (v:Value) (hv:Tkm w v l)
  (cP:∀w',Up w w'→Calls Tryz.prog 199 #[v,.int .i64 (i:Int)] w' (qN (prodL B.nck B.long l i) w'))
  (cT:∀j,i<j→j≤l.length→∀w',Up w w'→Calls Tryz.prog 174 #[v,.int .i64 (j:Int)] w' (qN (typL B.nck B.long l j) w')) :
  Calls Tryz.prog 174 #[v,.int .i64 (i:Int)] w (qN (typL B.nck B.long l i) w):=by
 have HV:=Lib.hid hv;have HT:=Lib.hid cT;have hp:=cP w (Up.refl w);have hst:=zUj (nk:=B.nck) (lg:=B.long) l i hi;have hah:=wX (nk:=B.nck) (lg:=B.long) l i;have HE:=Lib.hid (eA (nk:=B.nck) (lg:=B.long) l i);rw[HE.out]
 cases hP:prodL B.nck B.long l i with
 | inr e=>
  obtain⟨p,er⟩:=e;rw[hP] at hp hst;obtain⟨hpl,her⟩:=hst;have hne:¬er=0:=her p er rfl;have hpl:p≤l.length:=hpl;clear hah hP cP cT hv HE
  go_enter Tryz.func174,Tryz.ntmps174
  go_wp2_with fail;refine hp.mono ?_;rintro e w1 ⟨va,ja,ea,rfl,⟨rfl,rfl,A1,rfl⟩,u1⟩;go_wp2_with fail
  go_ret3
  exact⟨_,_,_,rfl,⟨rfl,rfl,A1,rfl⟩,u1⟩
 | inl r=>
  obtain⟨a,j⟩:=r;rw[hP] at hp hst hah;have hjl:j≤l.length:=hst.1;have hij:i<j:=hah;have cK:=fun(W:World) (u:Up w W)=>vG l (j:Int) zI W v (HV.out.up u)
  have hkz:keyZ l (j:Int) zI=key l j zI:=by unfold keyZ;rw[decide_eq_true (by omega),Int.toNat_natCast,Bool.true_and]
  rw[hkz] at cK;have HS:Hid (typS zI 5 l (.inl (a,j)) (typL B.nck B.long l)=if key l j zI then (match typL B.nck B.long l (j+1) with
   | .inr e=>.inr e
   | .inl (b,q)=>.inl (nd 5 nob (fr2 a b),q)) else .inl (a,j)):=Lib.hid rfl
  rw[HS.out]
  cases hk:key l j zI with
  | false=>
   rw[hk] at cK;rw[if_neg (by decide)];clear hah hP hst cP cT hv HE HS hkz
   go_enter Tryz.func174,Tryz.ntmps174
   go_wp2_with fail;refine hp.mono ?_;rintro e w1 ⟨va,ja,ea,rfl,⟨h1,rfl,rfl⟩,u1⟩;go_wp2_with fail;refine(cK w1 u1).mono ?_;rintro e w2 ⟨rfl,u2⟩;go_wp2_with fail
   go_ret3
   exact⟨_,_,_,rfl,⟨h1.up u2,rfl,rfl⟩,u1.trans u2⟩
  | true=>
   rw[hk] at cK;rw[if_pos rfl];have hlt:=yN hk;have cB:=HT.out (j+1) (by omega) (by omega);clear hah hP hst cP cT hv HE HS hkz
   cases hB:typL B.nck B.long l (j+1) with
   | inr e=>
    obtain⟨p,er⟩:=e;rw[hB] at cB;clear hB
    go_enter Tryz.func174,Tryz.ntmps174
    go_wp2_with fail;refine hp.mono ?_;rintro e w1 ⟨va,ja,ea,rfl,⟨h1,rfl,rfl⟩,u1⟩;obtain⟨q1,o1,rfl⟩:=InT.ptr h1;go_wp2_with fail;refine(cK w1 u1).mono ?_;rintro e w2 ⟨rfl,u2⟩;go_wp2_with fail;refine(cB w2 (u1.trans u2)).mono ?_;rintro e w3 ⟨vb,jb,eb,rfl,⟨rfl,rfl,A2,rfl⟩,u3⟩;go_wp2_with fail;refine(yE 5 nob _ _ _ _).mono ?_;rintro e w4 ⟨rfl,rfl⟩;go_wp2_with fail
    go_ret3
    exact⟨_,_,_,rfl,⟨rfl,rfl,_,rfl⟩,((((u1.trans u2).trans u3).alloc _).alloc _)⟩
   | inl r=>
    obtain⟨b,q⟩:=r;rw[hB] at cB;clear hB
    go_enter Tryz.func174,Tryz.ntmps174
    go_wp2_with fail;refine hp.mono ?_;rintro e w1 ⟨va,ja,ea,rfl,⟨h1,rfl,rfl⟩,u1⟩;obtain⟨q1,o1,rfl⟩:=InT.ptr h1;go_wp2_with fail;refine(cK w1 u1).mono ?_;rintro e w2 ⟨rfl,u2⟩;go_wp2_with fail;refine(cB w2 (u1.trans u2)).mono ?_;rintro e w3 ⟨vb,jb,eb,rfl,⟨h3,rfl,rfl⟩,u3⟩;obtain⟨q2,o2,rfl⟩:=InT.ptr h3;have hn2:=zNv (k:=5) (((u1.trans u2).trans u3).size) (h1.up (u2.trans u3)) (h3.base (u1.trans u2).size);go_wp2_with fail;refine(yE 5 nob _ _ _ _).mono ?_;rintro e w4 ⟨rfl,rfl⟩;go_wp2_with fail
    go_ret3
    exact⟨_,_,_,rfl,⟨hn2,rfl,rfl⟩,((((u1.trans u2).trans u3).alloc _).alloc _)⟩
theorem bZ (l:List Tk) (i:Nat) (hi:i≤l.length) (hl:l.length≤1000000) (w:World) (v:Value) (hv:Tkm w v l)
  (cP:∀w',Up w w'→Calls Tryz.prog 227 #[v,.int .i64 (i:Int)] w' (qN (atomL B.nck B.long l i) w'))
  (cT:∀j,i<j→j≤l.length→∀w',Up w w'→Calls Tryz.prog 199 #[v,.int .i64 (j:Int)] w' (qN (prodL B.nck B.long l j) w')) :
  Calls Tryz.prog 199 #[v,.int .i64 (i:Int)] w (qN (prodL B.nck B.long l i) w):=by
 have HV:=Lib.hid hv;have HT:=Lib.hid cT;have hp:=cP w (Up.refl w);have hst:=zUk (nk:=B.nck) (lg:=B.long) l i hi;have hah:=wY (nk:=B.nck) (lg:=B.long) l i;have HE:=Lib.hid (tU (nk:=B.nck) (lg:=B.long) l i);rw[HE.out]
 cases hP:atomL B.nck B.long l i with
 | inr e=>
  obtain⟨p,er⟩:=e;rw[hP] at hp hst;obtain⟨hpl,her⟩:=hst;have hne:¬er=0:=her p er rfl;have hpl:p≤l.length:=hpl;clear hah hP cP cT hv HE
  go_enter Tryz.func199,Tryz.ntmps199
  go_wp2_with fail;refine hp.mono ?_;rintro e w1 ⟨va,ja,ea,rfl,⟨rfl,rfl,A1,rfl⟩,u1⟩;go_wp2_with fail
  go_ret3
  exact⟨_,_,_,rfl,⟨rfl,rfl,A1,rfl⟩,u1⟩
 | inl r=>
  obtain⟨a,j⟩:=r;rw[hP] at hp hst hah;have hjl:j≤l.length:=hst.1;have hij:i<j:=hah;have cK:=fun(W:World) (u:Up w W)=>vG l (j:Int) kStar W v (HV.out.up u)
  have hkz:keyZ l (j:Int) kStar=key l j kStar:=by unfold keyZ;rw[decide_eq_true (by omega),Int.toNat_natCast,Bool.true_and]
  rw[hkz] at cK;have HS:Hid (typS kStar 6 l (.inl (a,j)) (prodL B.nck B.long l)=if key l j kStar then (match prodL B.nck B.long l (j+1) with
   | .inr e=>.inr e
   | .inl (b,q)=>.inl (nd 6 nob (fr2 a b),q)) else .inl (a,j)):=Lib.hid rfl
  rw[HS.out]
  cases hk:key l j kStar with
  | false=>
   rw[hk] at cK;rw[if_neg (by decide)];clear hah hP hst cP cT hv HE HS hkz
   go_enter Tryz.func199,Tryz.ntmps199
   go_wp2_with fail;refine hp.mono ?_;rintro e w1 ⟨va,ja,ea,rfl,⟨h1,rfl,rfl⟩,u1⟩;go_wp2_with fail;refine(cK w1 u1).mono ?_;rintro e w2 ⟨rfl,u2⟩;go_wp2_with fail
   go_ret3
   exact⟨_,_,_,rfl,⟨h1.up u2,rfl,rfl⟩,u1.trans u2⟩
  | true=>
   rw[hk] at cK;rw[if_pos rfl];have hlt:=yN hk;have cB:=HT.out (j+1) (by omega) (by omega);clear hah hP hst cP cT hv HE HS hkz
   cases hB:prodL B.nck B.long l (j+1) with
   | inr e=>
    obtain⟨p,er⟩:=e;rw[hB] at cB;clear hB
    go_enter Tryz.func199,Tryz.ntmps199
    go_wp2_with fail;refine hp.mono ?_;rintro e w1 ⟨va,ja,ea,rfl,⟨h1,rfl,rfl⟩,u1⟩;obtain⟨q1,o1,rfl⟩:=InT.ptr h1;go_wp2_with fail;refine(cK w1 u1).mono ?_;rintro e w2 ⟨rfl,u2⟩;go_wp2_with fail;refine(cB w2 (u1.trans u2)).mono ?_;rintro e w3 ⟨vb,jb,eb,rfl,⟨rfl,rfl,A2,rfl⟩,u3⟩;go_wp2_with fail;refine(yE 6 nob _ _ _ _).mono ?_;rintro e w4 ⟨rfl,rfl⟩;go_wp2_with fail
    go_ret3
    exact⟨_,_,_,rfl,⟨rfl,rfl,_,rfl⟩,((((u1.trans u2).trans u3).alloc _).alloc _)⟩
   | inl r=>
    obtain⟨b,q⟩:=r;rw[hB] at cB;clear hB
    go_enter Tryz.func199,Tryz.ntmps199
    go_wp2_with fail;refine hp.mono ?_;rintro e w1 ⟨va,ja,ea,rfl,⟨h1,rfl,rfl⟩,u1⟩;obtain⟨q1,o1,rfl⟩:=InT.ptr h1;go_wp2_with fail;refine(cK w1 u1).mono ?_;rintro e w2 ⟨rfl,u2⟩;go_wp2_with fail;refine(cB w2 (u1.trans u2)).mono ?_;rintro e w3 ⟨vb,jb,eb,rfl,⟨h3,rfl,rfl⟩,u3⟩;obtain⟨q2,o2,rfl⟩:=InT.ptr h3;have hn2:=zNv (k:=6) (((u1.trans u2).trans u3).size) (h1.up (u2.trans u3)) (h3.base (u1.trans u2).size);go_wp2_with fail;refine(yE 6 nob _ _ _ _).mono ?_;rintro e w4 ⟨rfl,rfl⟩;go_wp2_with fail
    go_ret3
    exact⟨_,_,_,rfl,⟨hn2,rfl,rfl⟩,((((u1.trans u2).trans u3).alloc _).alloc _)⟩
end Go.Proofs.YtbpijnalmakfaaaGreatDoor
