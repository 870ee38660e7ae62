/-
  Plain: what is parsed has an expression's form; how many nodes it has, and how long it may be as a text, by the tokens that it went over.
-/
import Derived.Test.YtgeghilbikljcaaGreatDoorGj13
namespace Go.Proofs.YtgeghilbikljcaaGreatDoor
section
variable {nk lg:ByteArray->Bool}
theorem zLs {n:Int} (h1 : -1073741824<=n) (h2:n<=1073741824):isT nk lg (⟨20,n,nob,nob⟩,.nil) 2=true:=
 qT.2 ⟨⟨2,20,[],[],-1073741824,1073741824,[]⟩,by simp[RWS],qU.2 ⟨rfl,rfl,rfl,rfl,h1,h2,rfl⟩⟩
theorem zLt {n:Int} (h1:0<=n) (h2:n<=1):isT nk lg (⟨21,n,nob,nob⟩,.nil) 2=true:=
 qT.2 ⟨⟨2,21,[],[],0,1,[]⟩,by simp[RWS],qU.2 ⟨rfl,rfl,rfl,rfl,h1,h2,rfl⟩⟩
theorem zOt:isT nk lg (nd 22 nob .nil) 2=true:=
 qT.2 ⟨⟨2,22,[],[],0,0,[]⟩,by simp[RWS],qU.2 ⟨rfl,rfl,rfl,rfl,Int.le_refl 0,Int.le_refl 0,rfl⟩⟩
theorem zLu {s:ByteArray} (h:lg s=true):isT nk lg (nd 23 s .nil) 2=true:=
 qT.2 ⟨⟨2,23,[108],[],0,0,[]⟩,by simp[RWS],qU.2 ⟨rfl,rfl,h,rfl,Int.le_refl 0,Int.le_refl 0,rfl⟩⟩
theorem zLv {a b:Tr} (ha:isT nk lg a 1=true) (hb:isT nk lg b 2=true):seqOk (infF nk lg (fr2 a b)) [116,101]=true:=by
 show((isT nk lg a 1)&&((isT nk lg b 2)&&true))=true
 rw[ha,hb]
 rfl
theorem eZ {a b:Tr} (ha:isT nk lg a 2=true) (hb:isT nk lg b 2=true):seqOk (infF nk lg (fr2 a b)) [101,101]=true:=by
 show((isT nk lg a 2)&&((isT nk lg b 2)&&true))=true
 rw[ha,hb]
 rfl
theorem zR2 {a:Tr} (ha:isT nk lg a 2=true):seqOk (infF nk lg (fr1 a)) [101]=true:=by
 show((isT nk lg a 2)&&true)=true
 rw[ha]
 rfl
theorem zOu {a b c:Tr} (ha:isT nk lg a 2=true) (hb:isT nk lg b 2=true) (hc:isT nk lg c 2=true):seqOk (infF nk lg (fr3 a b c)) [101,101,101]=true:=by
 show((isT nk lg a 2)&&((isT nk lg b 2)&&((isT nk lg c 2)&&true)))=true
 rw[ha,hb,hc]
 rfl
theorem zLw {s:ByteArray} (h:nk s=true) {a b:Tr} (ha:isT nk lg a 1=true) (hb:isT nk lg b 2=true):isT nk lg (nd 24 s (fr2 a b)) 2=true:=
 qT.2 ⟨⟨2,24,[110],[],0,0,[116,101]⟩,by simp[RWS],qU.2 ⟨rfl,rfl,h,rfl,Int.le_refl 0,Int.le_refl 0,zLv ha hb⟩⟩
theorem zLx {a b:Tr} (ha:isT nk lg a 2=true) (hb:isT nk lg b 2=true):isT nk lg (⟨25,0,nob,nob⟩,fr2 a b) 2=true:=
 qT.2 ⟨⟨2,25,[],[],0,0,[101,101]⟩,by simp[RWS],qU.2 ⟨rfl,rfl,rfl,rfl,Int.le_refl 0,Int.le_refl 0,eZ ha hb⟩⟩
theorem zOv {a b:Tr} (ha:isT nk lg a 2=true) (hb:isT nk lg b 2=true):isT nk lg (nd 26 nob (fr2 a b)) 2=true:=
 qT.2 ⟨⟨2,26,[],[],0,0,[101,101]⟩,by simp[RWS],qU.2 ⟨rfl,rfl,rfl,rfl,Int.le_refl 0,Int.le_refl 0,eZ ha hb⟩⟩
theorem zLy {k:Int} (hk:k=27\/k=28) {a:Tr} (ha:isT nk lg a 2=true):isT nk lg (nd k nob (fr1 a)) 2=true:=by
 rcases hk with rfl | rfl
 ·exact qT.2 ⟨⟨2,27,[],[],0,0,[101]⟩,by simp[RWS],qU.2 ⟨rfl,rfl,rfl,rfl,Int.le_refl 0,Int.le_refl 0,zR2 ha⟩⟩
 ·exact qT.2 ⟨⟨2,28,[],[],0,0,[101]⟩,by simp[RWS],qU.2 ⟨rfl,rfl,rfl,rfl,Int.le_refl 0,Int.le_refl 0,zR2 ha⟩⟩
theorem zLz {s:ByteArray} (h:nk s=true) {a b:Tr} (ha:isT nk lg a 2=true) (hb:isT nk lg b 2=true):isT nk lg (nd 29 s (fr2 a b)) 2=true:=
 qT.2 ⟨⟨2,29,[110],[],0,0,[101,101]⟩,by simp[RWS],qU.2 ⟨rfl,rfl,h,rfl,Int.le_refl 0,Int.le_refl 0,eZ ha hb⟩⟩
theorem is_if {a b c:Tr} (ha:isT nk lg a 2=true) (hb:isT nk lg b 2=true) (hc:isT nk lg c 2=true):isT nk lg (nd 30 nob (fr3 a b c)) 2=true:=
 qT.2 ⟨⟨2,30,[],[],0,0,[101,101,101]⟩,by simp[RWS],qU.2 ⟨rfl,rfl,rfl,rfl,Int.le_refl 0,Int.le_refl 0,zOu ha hb hc⟩⟩
theorem is_op {k:Int} (h1:1<=k) (h2:k<=5) {a b:Tr} (ha:isT nk lg a 2=true) (hb:isT nk lg b 2=true):isT nk lg (opN k,fr2 a b) 2=true:=
 qT.2 ⟨⟨2,31,[],[],1,5,[101,101]⟩,by simp[RWS],qU.2 ⟨rfl,rfl,rfl,rfl,h1,h2,eZ ha hb⟩⟩
def ArmOk (nk lg:ByteArray->Bool) (f:Fr):Prop:=((infF nk lg f).all fun i=>i.is 9)=true
theorem zK0 {c x:ByteArray} (hc:nk c=true) (hx:nk x=true) {b:Tr} (hb:isT nk lg b 2=true):isT nk lg (⟨34,0,c,x⟩,fr1 b) 9=true:=
 qT.2 ⟨⟨9,34,[110],[110],0,0,[101]⟩,by simp[RWS],qU.2 ⟨rfl,rfl,hc,hx,Int.le_refl 0,Int.le_refl 0,zR2 hb⟩⟩
theorem ArmOk.more {f:Fr} (h:ArmOk nk lg f) {t:Tr} (ht:isT nk lg t 9=true):ArmOk nk lg (f.app (fr1 t)):=by
 unfold ArmOk;rw[tP,List.all_append,h]
 show(true&&(isT nk lg t 9&&true))=true
 rw[ht]
 rfl
theorem zR3 {f:Fr} (h:ArmOk nk lg f) (h0:0<f.len):seqOk (infF nk lg f) [65]=true:=by
 have hl:=tO (nk:=nk) (lg:=lg) f;have e:seqOk (infF nk lg f) [65]=(!(infF nk lg f).isEmpty&&(infF nk lg f).all fun i=>i.is 9):=by cases infF nk lg f<;>rfl
 rw[e,h]
 cases hq:infF nk lg f with
 | nil=>rw[hq] at hl;simp at hl;omega
 | cons i t=>rfl
theorem zOw {a:Tr} (ha:isT nk lg a 2=true) {k:Fr} (hk:ArmOk nk lg k) (h0:0<k.len):isT nk lg (nd 32 nob (.cons a.1 a.2 k)) 2=true:=by
 refine qT.2 ⟨⟨2,32,[],[],0,0,[101,65]⟩,by simp[RWS],qU.2 ⟨rfl,rfl,rfl,rfl,Int.le_refl 0,Int.le_refl 0,?_⟩⟩
 show((isT nk lg a 2)&&seqOk (infF nk lg k) [65])=true
 rw[ha,zR3 hk h0]
 rfl
theorem zOx {a t:Tr} (ha:isT nk lg a 2=true) (ht:isT nk lg t 1=true) {k:Fr} (hk:ArmOk nk lg k) (h0:0<k.len):isT nk lg (nd 33 nob (.cons a.1 a.2 (.cons t.1 t.2 k))) 2=true:=by
 refine qT.2 ⟨⟨2,33,[],[],0,0,[101,116,65]⟩,by simp[RWS],qU.2 ⟨rfl,rfl,rfl,rfl,Int.le_refl 0,Int.le_refl 0,?_⟩⟩
 show((isT nk lg a 2)&&((isT nk lg t 1)&&seqOk (infF nk lg k) [65]))=true
 rw[ha,ht,zR3 hk h0]
 rfl
def wN (x:Nod):Nat:=(if x.k=25 then 8 else if x.k=23 then 2 else 24)+x.a.size+x.m.size
def wF:Fr->Nat
 | .nil=>0
 | .cons x k r=>(if x.k<20 then 150*(1+k.sz) else wN x+wF k)+wF r
def wT (t:Tr):Nat:=if t.1.k<20 then 150*szT t else wN t.1+wF t.2
theorem zR4 (a b:Tr):wF (fr2 a b)=wT a+wT b:=rfl
theorem zK1 (a b:Fr):wF (a.app b)=wF a+wF b:=by
 induction a with
 | nil=>exact(Nat.zero_add _).symm
 | cons x k r _ ih=>simp only[Fr.app,wF,ih];omega
theorem zMc {x:Nod} {f:Fr} (h:20<=x.k):wT (x,f)=wN x+wF f:=by unfold wT;rw[if_neg (by show ¬x.k<20;omega)]
theorem ty_k {t:Tr} (h:isT nk lg t 1=true):t.1.k<20:=by
 cases zOg h with
 | leaf k hk=>show k<20;omega
 | name s hs=>show(4:Int)<20;decide
 | two k hk a b hA hB=>show k<20;omega
 | mu s hs c hc h0=>show(7:Int)<20;decide
theorem zMd {t:Tr} (h:isT nk lg t 1=true):wT t=150*szT t:=by unfold wT;rw[if_pos (ty_k h)]
theorem zK2 (x:Nod) (a:Tr):szT (x,fr1 a)=1+szT a:=by unfold szT;simp only[fr1,Fr.sz];omega
theorem lM (x:Nod) (a b:Tr):szT (x,fr2 a b)=1+(szT a+szT b):=by unfold szT;simp only[fr2,fr1,Fr.sz];omega
theorem zK3 (x:Nod) (a b c:Tr):szT (x,fr3 a b c)=1+(szT a+szT b+szT c):=by unfold szT;simp only[fr3,fr2,fr1,Fr.sz];omega
theorem yT (x:Nod):szT (x,.nil)=1:=rfl
theorem lN (a:Tr) (r:Fr):(Fr.cons a.1 a.2 r).sz=szT a+r.sz:=rfl
structure Ok2 (nk lg:ByteArray->Bool) (i:Nat) (t:Tr) (j:Nat):Prop where
 is:isT nk lg t 2=true
 sz:szT t+1+2*i<=2*j
 w:wT t+8+160*i<=160*j
structure OkA (nk lg:ByteArray->Bool) (i:Nat) (f:Fr) (j:Nat):Prop where
 ok:ArmOk nk lg f
 sz:f.sz+2*i<=2*j
 w:wF f+160*i<=160*j
def kG (nk lg:ByteArray->Bool) (i:Nat) (R:Rs Tr):Prop:=∀t j,R = .inl (t,j)->Ok2 nk lg i t j
def FormA (nk lg:ByteArray->Bool) (i:Nat) (acc:Fr) (R:Rs Fr):Prop:=∀f j,R = .inl (f,j)->∀h,OkA nk lg h acc i->OkA nk lg h f j/\0<f.len
variable {l:List Te}
theorem jE:∀(ks:List ByteArray) (i j:Nat),keysL (tks l) i ks = .inl ((),j)->j=i+ks.length
 | [],i,j,h=>by
  unfold keysL at h;injection h with h;injection h with _ h;exact h.symm
 | k::r,i,j,h=>by
  unfold keysL at h
  split at h
  ·have:=jE r (i+1) j h
   rw[List.length_cons];omega
  ·cases h
theorem yC {α:Type} {R:Rs α} {ks:List ByteArray} {a:α} {m:Nat} (h:thenK (tks l) R ks = .inl (a,m)):∃j,R = .inl (a,j)/\keysL (tks l) j ks = .inl ((),m)/\m=j+ks.length:=by
 obtain⟨a',j,h1,h2⟩:=qD h;obtain⟨u,m',h3,h4⟩:=qD h2;injection h4 with h4;injection h4 with h5 h6;subst h5;subst h6;exact⟨j,h1,h3,jE _ _ _ h3⟩
theorem jN {p:ByteArray->Bool} {ks:List ByteArray} {i m:Nat} {s:ByteArray} (h:nameQ p (tks l) i ks = .inl (s,m)):nam p (tks l) i=some s/\p s=true/\keysL (tks l) (i+1) ks = .inl ((),m)/\m=i+1+ks.length:=by
 unfold nameQ at h
 split at h
 ·cases h
 ·rename_i s' hs
  obtain⟨u,m',h3,h4⟩:=qD h;injection h4 with h4;injection h4 with h5 h6;subst h5;subst h6;exact⟨hs,tU hs,h3,jE _ _ _ h3⟩
theorem iA {x:Nod} {a b:Tr} {i j d m:Nat} (hx:(x=⟨25,0,nob,nob⟩/\d=0)\/(∃k,1<=k/\k<=5/\x=opN k/\d=1)) (ha:Ok2 nk lg i a j) (hb:Ok2 nk lg (j+d) b m):Ok2 nk lg i (x,fr2 a b) m:=by
 have a1:=ha.sz;have a2:=ha.w;have b1:=hb.sz;have b2:=hb.w
 rcases hx with ⟨rfl,rfl⟩ | ⟨k,h1,h2,rfl,rfl⟩
 ·refine⟨zLx ha.is hb.is,?_,?_⟩
  ·rw[lM];omega
  ·rw[zMc (by decide),zR4]
   have e:wN ⟨25,0,nob,nob⟩=8:=rfl;rw[e];omega
 ·refine⟨is_op h1 h2 ha.is hb.is,?_,?_⟩
  ·rw[lM];omega
  ·rw[zMc (show(20:Int)<=31 by decide),zR4]
   have e:wN (opN k)=24:=rfl;rw[e];omega
theorem uJ {T:Nat->Rs Tr} {s:Nat->Option (Nod×Nat)} (hT:∀j,kG nk lg j (T j)) (hs:∀j x d,s j=some (x,d)->(x=⟨25,0,nob,nob⟩/\d=0)\/(∃k,1<=k/\k<=5/\x=opN k/\d=1)) {i:Nat} :
  ∀(n:Nat) (a:Tr) (j:Nat),Ok2 nk lg i a j->kG nk lg i (lop T s n a j)
 | 0,a,j,_=>fun t m h=>by unfold lop at h;cases h
 | n+1,a,j,ha=>fun t m h=>by
  unfold lop at h
  split at h
  ·injection h with h
   injection h with h1 h2;subst h1;subst h2;exact ha
  ·rename_i x d hx
   obtain⟨b,q,h1,h2⟩:=qD h;exact uJ hT hs n _ q (iA (hs j x d hx) ha (hT _ b q h1)) t m h2
theorem nC {T:Nat->Rs Tr} {s:Nat->Option (Nod×Nat)} (hT:∀j,kG nk lg j (T j)) (hs:∀j x d,s j=some (x,d)->(x=⟨25,0,nob,nob⟩/\d=0)\/(∃k,1<=k/\k<=5/\x=opN k/\d=1)) (n i:Nat):kG nk lg i (lopS T s n i):=fun t m h=>by
 obtain⟨a,j,h1,h2⟩:=qD h;exact uJ hT hs n a j (hT i a j h1) t m h2
theorem zVo {n:Nat} {A:Nat->Rs Tr} (hA:∀j,kG nk lg j (A j)) (i:Nat):kG nk lg i (appS lg l n A i):=nC hA (fun _ _ _ h=>.inl (eS h).2) n i
theorem zVp {n:Nat} {A:Nat->Rs Tr} (hA:∀j,kG nk lg j (A j)) (i:Nat):kG nk lg i (mulS lg l n A i):=nC (zVo hA) (fun _ _ _ h=>.inr ⟨3,by decide,by decide,(eT h).2⟩) n i
theorem bJ {n:Nat} {A:Nat->Rs Tr} (hA:∀j,kG nk lg j (A j)) (i:Nat):kG nk lg i (addS lg l n A i):=nC (zVp hA) (fun _ _ _ h=>by
 obtain⟨_,h1 | h1,h2⟩:=eU h
 ·exact .inr ⟨1,by decide,by decide,h1,h2⟩
 ·exact .inr ⟨2,by decide,by decide,h1,h2⟩) n i
theorem zVq {n:Nat} {A:Nat->Rs Tr} (hA:∀j,kG nk lg j (A j)) (i:Nat):kG nk lg i (cmpS lg l n A i):=fun t m h=>by
 obtain⟨a,j,h1,h2⟩:=qD h;have ha:=bJ hA i a j h1
 split at h2
 ·injection h2 with h2
  injection h2 with h3 h4;subst h3;subst h4;exact ha
 ·rename_i x d hx
  obtain⟨b,q,h3,h4⟩:=qD h2;injection h4 with h4;injection h4 with h5 h6;subst h5;subst h6;have hb:=bJ hA (j+d) b q h3;obtain⟨_,h7 | h7,h8⟩:=eV hx
  ·exact iA (.inr ⟨4,by decide,by decide,h7,h8⟩) ha hb
  ·exact iA (.inr ⟨5,by decide,by decide,h7,h8⟩) ha hb
theorem zOy {i:Nat} {n:Int} (h:hdE lg l i = .num n) : -1073741824<=n/\n<=1073741824:=by
 unfold hdE at h
 split at h
 ·unfold hdT at h
  repeat' split at h
  all_goals first | (cases h;done) | (injection h with h;subst h;assumption)
 ·cases h
theorem zK4 {i:Nat} {n:Int} (h:hdE lg l i = .boo n):0<=n/\n<=1:=by
 unfold hdE at h
 split at h
 ·unfold hdT at h
  repeat' split at h
  all_goals first | (injection h with h;omega) | cases h
 ·cases h
theorem zK5 {i:Nat} {s:ByteArray} (h:hdE lg l i = .var s):lg s=true:=by
 unfold hdE at h
 split at h
 ·unfold hdT at h
  repeat' split at h
  all_goals first | (cases h;done) | (injection h with h;subst h;assumption)
 ·cases h
theorem zK6 {i:Nat} {k:Int} (h:hdE lg l i = .sel k):k=27\/k=28:=by
 unfold hdE at h
 split at h
 ·unfold hdT at h
  repeat' split at h
  all_goals first | (injection h with h;omega) | cases h
 ·cases h
section
variable (hn:∀s,nk s=true->s.size<=128) (hg:∀s,lg s=true->s.size<=128)
include hg in
theorem uK {A E:Nat->Rs Tr} (hA:∀j,kG nk lg j (A j)) (hE:∀j,kG nk lg j (E j)) (i:Nat):kG nk lg i (zO lg l A E i):=fun t m h=>by
 unfold zO at h
 cases hh:hdE lg l i with
 | no=>rw[hh] at h;cases h
 | num n=>
  rw[hh] at h;injection h with h;injection h with h1 h2;subst h1;subst h2;have hr:=zOy hh;refine⟨zLs hr.1 hr.2,by rw[yT];omega,?_⟩;have e:wT ((⟨20,n,nob,nob⟩,.nil):Tr)=24:=rfl;rw[e];omega
 | var s=>
  rw[hh] at h;injection h with h;injection h with h1 h2;subst h1;subst h2;have hs:=zK5 hh;have hz:=hg s hs;refine⟨zLu hs,by show 1+1+2*i<=_;omega,?_⟩;have e:wT (nd 23 s .nil)=2+s.size+0+0:=rfl;rw[e];omega
 | boo n=>
  rw[hh] at h;injection h with h;injection h with h1 h2;subst h1;subst h2;have hr:=zK4 hh;refine⟨zLt hr.1 hr.2,by rw[yT];omega,?_⟩;have e:wT ((⟨21,n,nob,nob⟩,.nil):Tr)=24:=rfl;rw[e];omega
 | sel k=>
  rw[hh] at h;obtain⟨a,j,h1,h2⟩:=qD h;injection h2 with h2;injection h2 with h3 h4;subst h3;subst h4;have hk:=zK6 hh;obtain⟨a1,a2,a3⟩:=hA (i+1) a j h1;refine⟨zLy hk a1,by show szT (_,fr1 a)+1+2*i<=_;rw[zK2];omega,?_⟩;have e:wT (nd k nob (fr1 a))=24+wT a:=by rcases hk with rfl | rfl<;>rfl
  rw[e];omega
 | opn=>
  rw[hh] at h;simp only at h
  split at h
  ·injection h with h;injection h with h1 h2;subst h1;subst h2
   refine⟨zOt,by show 1+1+2*i<=_;omega,?_⟩;have e:wT (nd 22 nob .nil)=24:=rfl;rw[e];omega
  ·obtain⟨a,j,h1,h2⟩:=qD h
   obtain⟨a1,a2,a3⟩:=hE (i+1) a j h1
   split at h2
   ·obtain⟨b,q,h3,h4⟩:=qD h2
    injection h4 with h4;injection h4 with h5 h6;subst h5;subst h6;obtain⟨q',h7,_,h8⟩:=yC h3;obtain⟨b1,b2,b3⟩:=hE (j+1) b q' h7;have h8:q=q'+1:=h8;refine⟨zOv a1 b1,by show szT (_,fr2 a b)+1+2*i<=_;rw[lM];omega,?_⟩;have e:wT (nd 26 nob (fr2 a b))=24+(wT a+wT b):=rfl;rw[e];omega
   ·obtain⟨u,q,h3,h4⟩:=qD h2
    injection h4 with h4;injection h4 with h5 h6;subst h5;subst h6;have h8:=jE _ _ _ h3;have h8:q=j+1:=h8;exact⟨a1,by omega,by omega⟩
include hn in
theorem zYd {E:Nat->Rs Tr} {M:Nat->Fr->Rs Fr} (hE:∀j,kG nk lg j (E j)) (hM:∀j a,FormA nk lg j a (M j a)) (i:Nat) (acc:Fr):FormA nk lg i acc (armsS nk l E M i acc):=fun f m h g hacc=>by
 obtain⟨c,j1,h1,h2⟩:=qD h;obtain⟨x,j2,h3,h4⟩:=qD h2;obtain⟨b,j3,h5,h6⟩:=qD h4;obtain⟨_,hc,_,e1⟩:=jN h1;obtain⟨_,hx,_,e2⟩:=jN h3;obtain⟨b1,b2,b3⟩:=hE j2 b j3 h5;have e1:j1=i+1:=e1;have e2:j2=j1+1+1:=e2;have zc:=hn c hc;have zx:=hn x hx;have ok:OkA nk lg g (acc.app (fr1 (⟨34,0,c,x⟩,fr1 b))) j3:=by
  refine⟨hacc.ok.more (zK0 hc hx b1),?_,?_⟩
  ·rw[Fr.sz_app]
   have e:(fr1 (⟨34,0,c,x⟩,fr1 b)).sz=1+szT b:=by unfold szT;simp only[fr1,Fr.sz];omega
   have:=hacc.sz;rw[e];omega
  ·rw[zK1]
   have e:wF (fr1 (⟨34,0,c,x⟩,fr1 b))=24+c.size+x.size+wT b:=rfl;have:=hacc.w;rw[e];omega
 have hl:0<(acc.app (fr1 (⟨34,0,c,x⟩,fr1 b))).len:=by rw[Fr.len_app];show 0<acc.len+1;omega
 split at h6
 ·exact hM (j3+1) _ f m h6 g ⟨ok.ok,by have:=ok.sz;omega,by have:=ok.w;omega⟩
 ·obtain⟨u,q,h7,h8⟩:=qD h6
  injection h8 with h8;injection h8 with h9 h10;subst h9;subst h10;have h8:q=j3+1:=jE _ _ _ h7;exact⟨⟨ok.ok,by have:=ok.sz;omega,by have:=ok.w;omega⟩,hl⟩
include hn in
theorem zYe {n:Nat} {A E:Nat->Rs Tr} {M:Nat->Fr->Rs Fr} (hA:∀j,kG nk lg j (A j)) (hE:∀j,kG nk lg j (E j)) (hM:∀j a,FormA nk lg j a (M j a)) (i:Nat):kG nk lg i (exprS nk lg l n A E M i):=fun t m h=>by
 unfold exprS at h
 split at h
 ·obtain⟨u,j1,h1,h2⟩:=qD h
  obtain⟨s,j2,h3,h4⟩:=qD h2;obtain⟨y,j3,h5,h6⟩:=qD h4;obtain⟨b,j4,h7,h8⟩:=qD h6;injection h8 with h8;injection h8 with h9 h10;subst h9;subst h10;have e1:j1=i+1+1:=jE _ _ _ h1;obtain⟨_,hs,_,e2⟩:=jN h3;have e2:j2=j1+1+1:=e2;obtain⟨q,h9,_,e3⟩:=yC h5;have e3:j3=q+2:=e3;obtain⟨y1,y2⟩:=mT h9;obtain⟨b1,b2,b3⟩:=hE j3 b j4 h7;have zs:=hn s hs;refine⟨zLw hs y1 b1,by show szT (_,fr2 y b)+1+2*i<=_;rw[lM];omega,?_⟩;have e:wT (nd 24 s (fr2 y b))=24+s.size+0+(wT y+wT b):=rfl;rw[e,zMd y1];omega
 ·split at h
  ·obtain⟨s,j1,h1,h2⟩:=qD h
   obtain⟨a,j2,h3,h4⟩:=qD h2;obtain⟨b,j3,h5,h6⟩:=qD h4;injection h6 with h8;injection h8 with h9 h10;subst h9;subst h10;obtain⟨_,hs,_,e1⟩:=jN h1;have e1:j1=i+1+1+1:=e1;obtain⟨q,h7,_,e2⟩:=yC h3;have e2:j2=q+1:=e2;obtain⟨p,h8,_,e3⟩:=yC h5;have e3:j3=p+1:=e3;obtain⟨a1,a2,a3⟩:=hE j1 a q h7;obtain⟨b1,b2,b3⟩:=hE j2 b p h8;have zs:=hn s hs;refine⟨zLz hs a1 b1,by show szT (_,fr2 a b)+1+2*i<=_;rw[lM];omega,?_⟩;have e:wT (nd 29 s (fr2 a b))=24+s.size+0+(wT a+wT b):=rfl;rw[e];omega
  ·split at h
   ·obtain⟨a,j1,h1,h2⟩:=qD h
    obtain⟨b,j2,h3,h4⟩:=qD h2;obtain⟨c,j3,h5,h6⟩:=qD h4;injection h6 with h8;injection h8 with h9 h10;subst h9;subst h10;obtain⟨q,h7,_,e2⟩:=yC h1;have e2:j1=q+1:=e2;obtain⟨p,h8,_,e3⟩:=yC h3;have e3:j2=p+1:=e3;obtain⟨a1,a2,a3⟩:=hE _ a q h7;obtain⟨b1,b2,b3⟩:=hE j1 b p h8;obtain⟨c1,c2,c3⟩:=hE j2 c j3 h5;refine⟨is_if a1 b1 c1,by show szT (_,fr3 a b c)+1+2*i<=_;rw[zK3];omega,?_⟩;have e:wT (nd 30 nob (fr3 a b c))=24+(wT a+(wT b+wT c)):=rfl;rw[e];omega
   ·split at h
    ·obtain⟨a,j1,h1,h2⟩:=qD h
     obtain⟨k,j2,h3,h4⟩:=qD h2;injection h4 with h8;injection h8 with h9 h10;subst h9;subst h10;obtain⟨q,h7,_,e2⟩:=yC h1;have e2:j1=q+1:=e2;obtain⟨a1,a2,a3⟩:=hE _ a q h7;obtain⟨⟨k1,k2,k3⟩,k4⟩:=hM j1 .nil k j2 h3 j1 ⟨rfl,by show 0+_<=_;omega,by show 0+_<=_;omega⟩;refine⟨zOw a1 k1 k4,by show 1+(Fr.cons a.1 a.2 k).sz+1+2*i<=_;rw[lN];omega,?_⟩;have e:wT (nd 32 nob (.cons a.1 a.2 k))=24+(wT a+wF k):=rfl;rw[e];omega
    ·split at h
     ·obtain⟨a,j1,h1,h2⟩:=qD h
      obtain⟨y,j2,h3,h4⟩:=qD h2;obtain⟨k,j3,h5,h6⟩:=qD h4;injection h6 with h8;injection h8 with h9 h10;subst h9;subst h10;obtain⟨q,h7,_,e2⟩:=yC h1;have e2:j1=q+1:=e2;obtain⟨p,h8,_,e3⟩:=yC h3;have e3:j2=p+1:=e3;obtain⟨a1,a2,a3⟩:=hE _ a q h7;obtain⟨y1,y2⟩:=mT h8;obtain⟨⟨k1,k2,k3⟩,k4⟩:=hM j2 .nil k j3 h5 j2 ⟨rfl,by show 0+_<=_;omega,by show 0+_<=_;omega⟩;refine⟨zOx a1 y1 k1 k4,by show 1+(Fr.cons a.1 a.2 (.cons y.1 y.2 k)).sz+1+2*i<=_;rw[lN,lN];omega,?_⟩;have e:wT (nd 33 nob (.cons a.1 a.2 (.cons y.1 y.2 k)))=24+(wT a+(wT y+wF k)):=rfl;rw[e,zMd y1];omega
     ·exact zVq hA i t m h
include hn hg in
theorem bO:∀(n:Nat),(∀i,kG nk lg i (exprF nk lg l n i))/\(∀i,kG nk lg i (qV nk lg l n i))/\(∀i acc,FormA nk lg i acc (armsF nk lg l n i acc))
 | 0=>⟨(fun i t j h=>by rw[exprF] at h;cases h),(fun i t j h=>by rw[qV] at h;cases h),(fun i _ t j h=>by rw[armsF] at h;cases h)⟩
 | n+1=>by
  obtain⟨hE,hA,hM⟩:=bO n;refine⟨fun i=>?_,fun i=>?_,fun i acc=>?_⟩
  ·rw[gR];exact zYe hn hA hE hM i
  ·rw[kE];exact uK hg hA hE i
  ·rw[gS];exact zYd hn hE hM i acc
end
end
def Keep {α:Type} (d:Nat) (R R':Rs α):Prop:=∀a j,R = .inl (a,j)->R' = .inl (a,d+j)
theorem Keep.bnd {α β:Type} {d:Nat} {R R':Rs α} {f f':α->Nat->Rs β} (h:Keep d R R') (hf:∀a j,R = .inl (a,j)->Keep d (f a j) (f' a (d+j))):Keep d (thn R f) (thn R' f'):=fun b m hb=>by
 obtain⟨a,j,h1,h2⟩:=qD hb;rw[h a j h1];exact hf a j h1 b m h2
theorem Keep.ok {α:Type} {d:Nat} {a:α} {j j':Nat} (h:j'=d+j):Keep (α:=α) d (.inl (a,j)) (.inl (a,j')):=fun b m hb=>by
 injection hb with hb;injection hb with h1 h2;rw[<- h1,<- h2,h]
theorem Keep.no {α:Type} {d:Nat} {e:Nat×Int} {R':Rs α}:Keep (α:=α) d (.inr e) R':=fun b m hb=>by cases hb
section
variable {nk lg:ByteArray->Bool} {l l':List Te} {d:Nat}
theorem uM {α:Type} {N i:Nat} {R:Rs α} (h:In N i R) {a:α} {j:Nat} (hR:R = .inl (a,j)):j<=N:=by rw[hR] at h;exact h.2
end
end Go.Proofs.YtgeghilbikljcaaGreatDoor
namespace Go.Proofs.YtgeghilbikljcaaGreatDoor
open Go.RowKit
def RcV (R:Rs Fr) (w w':World) (v:Value) (j e:Int):Prop:=match R with
 | .inl (f,q)=>(∃g c,v = .slice (some ⟨g,0,none⟩) f.len c/\f.len<=c/\NewS w w' g/\0<f.len/\InF w' (NewS w w') f g 0)/\j=(q:Int)/\e=0
 | .inr (p,r)=>j=(p:Int)/\e=r/\v = .slice none 0 0
def zR5 (R:Rs Fr) (w:World) (e:Ending) (w':World):Prop:=∃v j er,e = .returned (.tuple #[v,.int .i64 j,.int .i64 er])/\RcV R w w' v j er/\Up w w'
structure CoSt (W wr:World) (vo:Value) (acc:Fr) (ps:List Value):Prop where
 own:wr.ownsRow W.heap.size 24 1 vo acc.len ps
 kids:PtF wr (fun q=>NewS W wr q/\vo.ownBlock≠some q) ps acc
theorem zR6 {W a b:World} {v:Value} {n:Nat} {xs:List Value} {e:TypeId} (h:a.ownsRow W.heap.size e 1 v n xs) (u:Up a b):b.ownsRow W.heap.size e 1 v n xs:=by
 obtain⟨h1,h2⟩:=h;refine⟨h1,?_⟩
 rcases h2 with h2 | ⟨g,cap,cur,h3,h4,h5,h6⟩
 ·exact .inl h2
 ·exact .inr ⟨g,cap,cur,h3,h4,u.row h5,h6⟩
theorem CoSt.form {W wr:World} {vo:Value} {acc:Fr} {ps:List Value} (h:CoSt W wr vo acc ps):∃A c,vo = .slice A acc.len c/\acc.len<=c/\(∀g,vo.ownBlock=some g->W.heap.size<=g/\g<wr.heap.size)/\(0<acc.len->∃g,A=some ⟨g,0,none⟩/\∀(j:Nat) u,ps[j]? = some u->wr.cell? ⟨g,0+j,none⟩=some u):=by
 have hlt:=World.ownsRow.lt h.own
 rcases h.own.2 with ⟨h1,h2⟩ | ⟨g,cap,cur,h3,h4,h5,h6,_,h7,h8⟩
 ·exact⟨none,0,by rw[h1,h2],by omega,hlt,fun h=>by omega⟩
 ·refine⟨some ⟨g,0,none⟩,cap,h3,h6,hlt,fun _=>⟨g,rfl,fun j u hj=>?_⟩⟩
  rw[Nat.zero_add,cell_of_row wr g j _ _ _ h5];rw[<- h8,List.getElem?_take] at hj
  split at hj
  ·rw[<- hj,Array.getElem?_toList]
  ·cases hj
section
variable (nk lg:ByteArray->Bool)
def typZ (l:List Tk) (i:Int):Rs Tr:=if i<0\/(l.length:Int)<i then .inr (0,2) else typL nk lg l i.toNat
def consZ (l:List Tk) (i:Int):Rs Fr:=if i<0\/(l.length:Int)<i then .inr (0,2) else consL nk lg l i.toNat .nil
end
def RtV (R:Rs Tr) (w w':World) (v:Value) (j e:Int):Prop:=match R with
 | .inl (t,q)=>NewT w w' v t/\j=(q:Int)/\e=0
 | .inr (p,r)=>j=(p:Int)/\e=r/\v = .pointer none
def lO (R:Rs Tr) (w:World) (e:Ending) (w':World):Prop:=∃v j er,e = .returned (.tuple #[v,.int .i64 j,.int .i64 er])/\RtV R w w' v j er/\Up w w'
def Tke (w:World) (v:Value) (l:List Te):Prop:=∃A c,v = .slice A l.length c/\∀(j:Nat) (t:Te),l[j]? = some t->∃b o,A=some ⟨b,o,none⟩/\b<w.heap.size/\w.cell? ⟨b,o+j*4,none⟩=some (.int .i64 t.t.k)/\w.cell? ⟨b,o+j*4+1,none⟩=some (.string t.t.s)/\w.cell? ⟨b,o+j*4+2,none⟩=some (.int .i64 t.n)/\∃m,w.cell? ⟨b,o+j*4+3,none⟩=some (.int .i64 m)
theorem Tke.up {W w:World} {v:Value} {l:List Te} (h:Tke W v l) (u:Up W w):Tke w v l:=by
 obtain⟨A,c,rfl,h⟩:=h;refine⟨A,c,rfl,fun j t ht=>?_⟩;obtain⟨b,o,h1,h2,h3,h4,h5,m,h6⟩:=h j t ht;exact⟨b,o,h1,Nat.lt_of_lt_of_le h2 u.size,u.cell h3,u.cell h4,u.cell h5,m,u.cell h6⟩
theorem Tke.tkm {w:World} {v:Value} {l:List Te} (h:Tke w v l):Tkm w v (tks l):=by
 obtain⟨A,c,rfl,h⟩:=h;refine⟨A,c,by rw[qK],fun j t ht=>?_⟩;rw[yM] at ht;obtain⟨u,hu,rfl⟩:=Option.map_eq_some_iff.1 ht;obtain⟨b,o,h1,h2,h3,h4,_⟩:=h j u hu;exact⟨b,o,h1,h2,h3,h4⟩
theorem In.ne {α:Type} {N i:Nat} {R:Rs α} (h:In N i R) {p:Nat} {e:Int} (hR:R = .inr (p,e)):¬e=0:=by
 rw[hR] at h;have h:i<=p/\p<=N/\(e=6\/e=9):=h;omega
end Go.Proofs.YtgeghilbikljcaaGreatDoor
namespace Go.Proofs.YtgeghilbikljcaaGreatDoor
abbrev SS:=Nat×Int
def at0 {α:Type} (R:Nat->Rs α) (s:SS):Rs α:=if s.2=0 then R s.1 else .inr s
theorem qG {α:Type} (R:Nat->Rs α) (i:Nat):at0 R (i,0)=R i:=if_pos rfl
theorem qM {α:Type} (R:Nat->Rs α) {s:SS} (h:¬s.2=0):at0 R s = .inr s:=if_neg h
def stO {α:Type} (R:Rs α):SS:=(rI R,rE R)
def kS (l:List Tk) (x:ByteArray) (s:SS):SS:=(neI s.1 (tkB l s.1 s.2 x),neE s.2 (tkB l s.1 s.2 x))
def nS (p:ByteArray->Bool) (l:List Tk) (s:SS):SS:=(nmI (nam p l s.1) s.1 s.2,nmE (nam p l s.1) s.2)
def rS {α:Type} (R:Nat->Rs α) (s:SS):SS:=stO (at0 R s)
def Ab7 (g:SS->SS):Prop:=∀s,¬s.2=0->g s=s
theorem Ab7.id:Ab7 fun s=>s:=fun _ _=>rfl
theorem yR (l:List Tk) (x:ByteArray):Ab7 (kS l x):=fun s h=>by
 unfold kS;rw[zE h,tY h]
 rfl
theorem uN (p:ByteArray->Bool) (l:List Tk):Ab7 (nS p l):=fun s h=>by
 unfold nS nmI nmE;rw[if_neg h,if_neg h]
theorem kO {α:Type} (R:Nat->Rs α):Ab7 (rS R):=fun s h=>by
 unfold rS;rw[qM R h]
 rfl
theorem Ab7.comp {f g:SS->SS} (hf:Ab7 f) (hg:Ab7 g):Ab7 fun s=>f (g s):=fun s h=>by
 show f (g s)=s
 rw[hg s h,hf s h]
def NeO {α:Type} (R:Rs α):Prop:=∀p e,R = .inr (p,e)->¬e=0
theorem NeO.of_in {α:Type} {N i:Nat} {R:Rs α} (h:In N i R):NeO R:=fun _ _ e=>h.ne e
theorem NeO.of_in0 {α:Type} {N i:Nat} {R:Rs α} (h:In0 N i R):NeO R:=fun p e he=>by
 rw[he] at h;have h:i<=p/\p<=N/\(e=6\/e=9):=h;omega
theorem zD {α β:Type} {R:Rs α} {f:α->Nat->Rs β} {g:SS->SS} (hne:NeO R) (hg:Ab7 g) (hf:∀a j,R = .inl (a,j)->stO (f a j)=g (j,0)):stO (thn R f)=g (stO R):=by
 cases R with
 | inr e=>
  obtain⟨p,r⟩:=e;exact(hg (p,r) (hne p r rfl)).symm
 | inl r=>
  obtain⟨a,j⟩:=r;exact hf a j rfl
theorem lP {α β:Type} {R:Rs α} {f:α->Nat->Rs β} (hR:NeO R) (hf:∀a j,R = .inl (a,j)->NeO (f a j)):NeO (thn R f):=by
 cases R with
 | inr e=>
  intro p r h;have h:(.inr e:Rs β) = .inr (p,r):=h;injection h with h;exact hR p r (by rw[h])
 | inl r=>exact hf r.1 r.2 rfl
theorem nD {α:Type} (a:α) (j:Nat):NeO (.inl (a,j):Rs α):=fun p e h=>by cases h
theorem zW7 {α:Type} (i:Nat):NeO (.inr (i,6):Rs α):=fun p e h=>by
 have h:=congrArg Prod.snd (Sum.inr.inj h);have h:(6:Int)=e:=h;omega
section
variable {nk lg:ByteArray->Bool} {l:List Tk}
theorem xG:∀(ks:List ByteArray) (i:Nat),NeO (keysL l i ks)
 | [],i=>nD _ _
 | k::r,i=>by
  unfold keysL
  split
  ·exact xG r (i+1)
  ·exact zW7 i
theorem gU (p:ByteArray->Bool) (i:Nat) (ks:List ByteArray):NeO (nameQ p l i ks):=by
 unfold nameQ
 split
 ·exact zW7 i
 ·exact lP (xG _ _) fun _ _ _=>nD _ _
theorem kH {α:Type} {R:Rs α} (h:NeO R) (ks:List ByteArray):NeO (thenK l R ks):=lP h fun _ _ _=>lP (xG _ _) fun _ _ _=>nD _ _
theorem zK7 (i:Nat) (x:ByteArray):kS l x (i,0)=if key l i x then (i+1,0) else (i,6):=by
 unfold kS;rw[qQ]
 cases key l i x<;>rfl
theorem zK8 (p:ByteArray->Bool) (i:Nat):nS p l (i,0)=match nam p l i with
  | some _=>(i+1,0)
  | none=>(i,6):=by
 unfold nS
 cases nam p l i<;>rfl
theorem xV (x:ByteArray) (i:Nat):stO (keysL l i [x])=kS l x (i,0):=by
 rw[zK7];unfold keysL keysL
 split<;>rfl
theorem zR7 (x y:ByteArray) (i:Nat):stO (keysL l i [x,y])=kS l y (kS l x (i,0)):=by
 rw[zK7];unfold keysL
 split
 ·exact xV y (i+1)
 ·exact(yR l y (i,6) (by show ¬(6:Int)=0;decide)).symm
theorem uO (p:ByteArray->Bool) (i:Nat):stO (nameQ p l i [])=nS p l (i,0):=by
 rw[zK8];unfold nameQ
 cases nam p l i<;>rfl
theorem gV (p:ByteArray->Bool) (x:ByteArray) (i:Nat):stO (nameQ p l i [x])=kS l x (nS p l (i,0)):=by
 rw[zK8];unfold nameQ
 cases nam p l i with
 | none=>exact(yR l x (i,6) (by show ¬(6:Int)=0;decide)).symm
 | some s=>
  simp only;rw[<- xV];exact zD (g:=fun s=>s) (xG _ _) Ab7.id fun _ _ _=>rfl
theorem kI {α:Type} {R:Rs α} (h:NeO R) (x:ByteArray):stO (thenK l R [x])=kS l x (stO R):=
 zD h (yR l x) fun a j _=>by
  rw[<- xV];exact zD (g:=fun s=>s) (xG _ _) Ab7.id fun _ _ _=>rfl
theorem uP {α:Type} {R:Rs α} (h:NeO R) (x y:ByteArray):stO (thenK l R [x,y])=kS l y (kS l x (stO R)):=
 zD (g:=fun s=>kS l y (kS l x s)) h ((yR l y).comp (yR l x)) fun a j _=>by
  rw[<- zR7];exact zD (g:=fun s=>s) (xG _ _) Ab7.id fun _ _ _=>rfl
theorem zVr {x:ByteArray} {i m:Nat} {u:Unit} (h:keysL l i [x] = .inl (u,m)):kS l x (i,0)=(m,0):=by rw[<- xV,h];rfl
theorem zVs {p:ByteArray->Bool} {i m:Nat} {s:ByteArray} (h:nameQ p l i [] = .inl (s,m)):nam p l i=some s/\nS p l (i,0)=(m,0):=by
 refine⟨?_,by rw[<- uO,h];rfl⟩;unfold nameQ at h
 cases hn:nam p l i with
 | none=>rw[hn] at h;cases h
 | some s'=>rw[hn] at h;exact congrArg some (congrArg Prod.fst (Sum.inl.inj h))
theorem nE {p:ByteArray->Bool} {i m:Nat} {s x:ByteArray} (h:nameQ p l i [x] = .inl (s,m)):nam p l i=some s/\kS l x (nS p l (i,0))=(m,0):=by
 refine⟨?_,by rw[<- gV,h];rfl⟩;unfold nameQ at h
 cases hn:nam p l i with
 | none=>rw[hn] at h;cases h
 | some s'=>
  rw[hn] at h;obtain⟨a,j,_,h2⟩:=qD h;exact congrArg some (congrArg Prod.fst (Sum.inl.inj h2))
theorem kA {α:Type} {R:Rs α} (hne:NeO R) {x:ByteArray} {a:α} {m:Nat} (h:thenK l R [x] = .inl (a,m)):∃j,R = .inl (a,j)/\kS l x (j,0)=(m,0):=by
 have hs:=kI (l:=l) hne x;obtain⟨a',j,h1,h2⟩:=qD (show thn R (fun a j=>thn (keysL l j [x]) fun _ m=>.inl (a,m)) = .inl (a,m) from h);obtain⟨_,_,_,h4⟩:=qD h2;have e:a'=a:=congrArg Prod.fst (Sum.inl.inj h4);subst e;rw[h,h1] at hs;exact⟨j,h1,hs.symm⟩
theorem zVt {α:Type} {R:Rs α} (hne:NeO R) {x y:ByteArray} {a:α} {m:Nat} (h:thenK l R [x,y] = .inl (a,m)):∃j,R = .inl (a,j)/\kS l y (kS l x (j,0))=(m,0):=by
 have hs:=uP (l:=l) hne x y;obtain⟨a',j,h1,h2⟩:=qD (show thn R (fun a j=>thn (keysL l j [x,y]) fun _ m=>.inl (a,m)) = .inl (a,m) from h);obtain⟨_,_,_,h4⟩:=qD h2;have e:a'=a:=congrArg Prod.fst (Sum.inl.inj h4);subst e;rw[h,h1] at hs;exact⟨j,h1,hs.symm⟩
end
section
variable {nk lg:ByteArray->Bool} {l:List Te} {E:Nat->Rs Tr}
theorem lQ (i:Nat) (hi:i<=l.length):NeO (typL nk lg (tks l) i):=NeO.of_in (kK hi)
def lamG (nk lg:ByteArray->Bool) (l:List Te) (E:Nat->Rs Tr) (s:SS):SS:=rS E (kS (tks l) kFat (kS (tks l) kShut (rS (typL nk lg (tks l)) (kS (tks l) qH (nS nk (tks l) (kS (tks l) kOpen s))))))
theorem zK9 (hE:∀j,j<=l.length->In l.length j (E j)) {i:Nat} (hi:i<=l.length):stO (lamS nk lg l E i)=lamG nk lg l E (i,0):=by
 unfold lamS;refine(zD (g:=fun s=>rS E (kS (tks l) kFat (kS (tks l) kShut (rS (typL nk lg (tks l)) (kS (tks l) qH (nS nk (tks l) s)))))) (xG _ _) ((kO _).comp ((yR _ _).comp ((yR _ _).comp ((kO _).comp ((yR _ _).comp (uN _ _)))))) fun _ j hj=>?_).trans (by rw[xV];rfl);have hj:j<=l.length:=by have h:=yB (l:=l) [kOpen] i hi;rw[hj] at h;exact h.2
 refine(zD (g:=fun s=>rS E (kS (tks l) kFat (kS (tks l) kShut (rS (typL nk lg (tks l)) s)))) (gU _ _ _) ((kO _).comp ((yR _ _).comp ((yR _ _).comp (kO _)))) fun _ j2 hj2=>?_).trans (by rw[gV]);have hj2:j2<=l.length:=by have h:=qS (p:=nk) (l:=l) (ks:=[qH]) hj;rw[hj2] at h;exact h.2
 refine(zD (g:=fun s=>rS E s) (kH (lQ j2 hj2) _) (kO _) fun _ j3 hj3=>?_).trans (by rw[uP (lQ j2 hj2)];show _=rS E (kS _ _ (kS _ _ (stO (at0 _ (j2,0)))));rw[qG]);have hj3:j3<=l.length:=by have h:=qL (l:=l) (ks:=[kShut,kFat]) (kK (nk:=nk) (lg:=lg) hj2);rw[hj3] at h;exact h.2
 refine(zD (g:=fun s=>s) (NeO.of_in (hE j3 hj3)) Ab7.id fun _ _ _=>rfl).trans ?_
 show stO (E j3)=stO (at0 E (j3,0))
 rw[qG]
theorem zOz {i m:Nat} (hi:i<=l.length) {u:Tr} (h:lamS nk lg l E i = .inl (u,m)):∃s t b j1 j2 j3 j4,kS (tks l) kOpen (i,0)=(j1,0)/\nam nk (tks l) j1=some s/\kS (tks l) qH (nS nk (tks l) (j1,0))=(j2,0)/\typL nk lg (tks l) j2 = .inl (t,j3)/\
  kS (tks l) kFat (kS (tks l) kShut (j3,0))=(j4,0)/\E j4 = .inl (b,m)/\u=nd 24 s (fr2 t b):=by
 unfold lamS at h;obtain⟨_,j1,h1,h⟩:=qD h;have i1:j1<=l.length:=by have h:=yB (l:=l) [kOpen] i hi;rw[h1] at h;exact h.2
 obtain⟨s,j2,h2,h⟩:=qD h;have i2:j2<=l.length:=by have h:=qS (p:=nk) (l:=l) (ks:=[qH]) i1;rw[h2] at h;exact h.2
 obtain⟨t,j4,h3,h⟩:=qD h;obtain⟨b,m',h4,h⟩:=qD h;injection h with h;injection h with e1 e2;subst e2;obtain⟨hn,hs⟩:=nE h2;obtain⟨j3,h5,h6⟩:=zVt (lQ j2 i2) h3;exact⟨s,t,b,j1,j2,j3,j4,zVr h1,hn,hs,h5,h6,h4,e1.symm⟩
def letG (nk:ByteArray->Bool) (l:List Te) (E:Nat->Rs Tr) (s:SS):SS:=kS (tks l) kEnd (rS E (kS (tks l) kIn (rS E (kS (tks l) kEq (nS nk (tks l) s)))))
theorem zKa (hE:∀j,j<=l.length->In l.length j (E j)) {i:Nat} (hi:i<=l.length):stO (letS nk l E i)=letG nk l E (i,0):=by
 unfold letS;refine(zD (g:=fun s=>kS (tks l) kEnd (rS E (kS (tks l) kIn (rS E s)))) (gU _ _ _) ((yR _ _).comp ((kO _).comp ((yR _ _).comp (kO _)))) fun _ j hj=>?_).trans (by rw[gV];rfl);have hj:j<=l.length:=by have h:=qS (p:=nk) (l:=l) (ks:=[kEq]) hi;rw[hj] at h;exact h.2
 have ne:=NeO.of_in (hE j hj);refine(zD (g:=fun s=>kS (tks l) kEnd (rS E s)) (kH ne _) ((yR _ _).comp (kO _)) fun _ j2 hj2=>?_).trans (by rw[kI ne];show _=kS _ _ (rS E (kS _ _ (stO (at0 E (j,0)))));rw[qG]);have hj2:j2<=l.length:=by have h:=qL (l:=l) (ks:=[kIn]) (hE j hj);rw[hj2] at h;exact h.2
 have ne2:=NeO.of_in (hE j2 hj2);refine(zD (g:=fun s=>s) (kH ne2 _) Ab7.id fun _ _ _=>rfl).trans ?_;rw[kI ne2]
 show _=kS _ _ (stO (at0 E (j2,0)))
 rw[qG]
theorem zN0 (hE:∀j,j<=l.length->In l.length j (E j)) {i m:Nat} (hi:i<=l.length) {u:Tr} (h:letS nk l E i = .inl (u,m)):∃s a b j1 j2 j3 j4,nam nk (tks l) i=some s/\kS (tks l) kEq (nS nk (tks l) (i,0))=(j1,0)/\E j1 = .inl (a,j2)/\kS (tks l) kIn (j2,0)=(j3,0)/\E j3 = .inl (b,j4)/\u=nd 29 s (fr2 a b):=by
 unfold letS at h;obtain⟨s,j1,h1,h⟩:=qD h;have i1:j1<=l.length:=by have h:=qS (p:=nk) (l:=l) (ks:=[kEq]) hi;rw[h1] at h;exact h.2
 obtain⟨a,j3,h2,h⟩:=qD h;obtain⟨j2,h3,h4⟩:=kA (NeO.of_in (hE j1 i1)) h2;have i3:j3<=l.length:=by have h:=qL (l:=l) (ks:=[kIn]) (hE j1 i1);rw[h2] at h;exact h.2
 obtain⟨b,m',h5,h⟩:=qD h;obtain⟨j4,h6,h7⟩:=kA (NeO.of_in (hE j3 i3)) h5;injection h with h;injection h with e1 e2;obtain⟨hn,hs⟩:=nE h1;exact⟨s,a,b,j1,j2,j3,j4,hn,hs,h3,h4,h6,e1.symm⟩
def ifG (l:List Te) (E:Nat->Rs Tr) (s:SS):SS:=rS E (kS (tks l) kElse (rS E (kS (tks l) kThen (rS E s))))
theorem if_st (hE:∀j,j<=l.length->In l.length j (E j)) {i:Nat} (hi:i<=l.length):stO (ifS l E i)=ifG l E (i,0):=by
 unfold ifS;have ne:=NeO.of_in (hE i hi);refine(zD (g:=fun s=>rS E (kS (tks l) kElse (rS E s))) (kH ne _) ((kO _).comp ((yR _ _).comp (kO _))) fun _ j hj=>?_).trans (by rw[kI ne];show _=rS E (kS _ _ (rS E (kS _ _ (stO (at0 E (i,0))))));rw[qG]);have hj:j<=l.length:=by have h:=qL (l:=l) (ks:=[kThen]) (hE i hi);rw[hj] at h;exact h.2
 have ne:=NeO.of_in (hE j hj);refine(zD (g:=fun s=>rS E s) (kH ne _) (kO _) fun _ j2 hj2=>?_).trans (by rw[kI ne];show _=rS E (kS _ _ (stO (at0 E (j,0))));rw[qG]);have hj2:j2<=l.length:=by have h:=qL (l:=l) (ks:=[kElse]) (hE j hj);rw[hj2] at h;exact h.2
 refine(zD (g:=fun s=>s) (NeO.of_in (hE j2 hj2)) Ab7.id fun _ _ _=>rfl).trans ?_
 show _=stO (at0 E (j2,0))
 rw[qG]
theorem zKb (hE:∀j,j<=l.length->In l.length j (E j)) {i m:Nat} (hi:i<=l.length) {u:Tr} (h:ifS l E i = .inl (u,m)):∃a b c j1 j2 j3 j4,E i = .inl (a,j1)/\kS (tks l) kThen (j1,0)=(j2,0)/\E j2 = .inl (b,j3)/\kS (tks l) kElse (j3,0)=(j4,0)/\E j4 = .inl (c,m)/\u=nd 30 nob (fr3 a b c):=by
 unfold ifS at h;obtain⟨a,j2,h1,h⟩:=qD h;obtain⟨j1,h2,h3⟩:=kA (NeO.of_in (hE i hi)) h1;have i2:j2<=l.length:=by have h:=qL (l:=l) (ks:=[kThen]) (hE i hi);rw[h1] at h;exact h.2
 obtain⟨b,j4,h4,h⟩:=qD h;obtain⟨j3,h5,h6⟩:=kA (NeO.of_in (hE j2 i2)) h4;obtain⟨c,m',h7,h⟩:=qD h;injection h with h;injection h with e1 e2;subst e2;exact⟨a,b,c,j1,j2,j3,j4,h2,h3,h5,h6,h7,e1.symm⟩
def fK (nk:ByteArray->Bool) (l:List Te) (E:Nat->Rs Tr) (i:Nat):Rs Tr:=thn (nameQ nk (tks l) i []) fun c j=>thn (nameQ nk (tks l) j [kFat]) fun x j=>thn (E j) fun b j=>.inl ((⟨34,0,c,x⟩,fr1 b),j)
def armG (nk:ByteArray->Bool) (l:List Te) (E:Nat->Rs Tr) (s:SS):SS:=rS E (kS (tks l) kFat (nS nk (tks l) (nS nk (tks l) s)))
theorem zKc (hE:∀j,j<=l.length->In l.length j (E j)) {i:Nat} (hi:i<=l.length):stO (fK nk l E i)=armG nk l E (i,0):=by
 unfold fK;refine(zD (g:=fun s=>rS E (kS (tks l) kFat (nS nk (tks l) s))) (gU _ _ _) ((kO _).comp ((yR _ _).comp (uN _ _))) fun _ j hj=>?_).trans (by rw[uO];rfl);have hj:j<=l.length:=by have h:=qS (p:=nk) (l:=l) (ks:=[]) hi;rw[hj] at h;exact h.2
 refine(zD (g:=fun s=>rS E s) (gU _ _ _) (kO _) fun _ j2 hj2=>?_).trans (by rw[gV]);have hj2:j2<=l.length:=by have h:=qS (p:=nk) (l:=l) (ks:=[kFat]) hj;rw[hj2] at h;exact h.2
 refine(zD (g:=fun s=>s) (NeO.of_in (hE j2 hj2)) Ab7.id fun _ _ _=>rfl).trans ?_
 show _=stO (at0 E (j2,0))
 rw[qG]
theorem zN1 {i m:Nat} {u:Tr} (h:fK nk l E i = .inl (u,m)):∃c x b j1 j2,nam nk (tks l) i=some c/\nS nk (tks l) (i,0)=(j1,0)/\nam nk (tks l) j1=some x/\kS (tks l) kFat (nS nk (tks l) (j1,0))=(j2,0)/\E j2 = .inl (b,m)/\u=(⟨34,0,c,x⟩,fr1 b):=by
 unfold fK at h;obtain⟨c,j1,h1,h⟩:=qD h;obtain⟨x,j2,h2,h⟩:=qD h;obtain⟨b,m',h3,h⟩:=qD h;injection h with h;injection h with e1 e2;subst e2;obtain⟨a1,a2⟩:=zVs h1;obtain⟨b1,b2⟩:=nE h2;exact⟨c,x,b,j1,j2,a1,a2,b1,b2,h3,e1.symm⟩
theorem zR8 (hE:∀j,j<=l.length->In l.length j (E j)) {i:Nat} (hi:i<=l.length):In l.length i (fK nk l E i):=
 (qS hi).bnd fun _ _ _ _ hj=>(qS hj).bnd fun _ j _ _ hj=>(hE j hj).bnd0 fun _ _ _ _ hj=>qR (Nat.le_refl _) hj
def rowA (nk:ByteArray->Bool) (l:List Te) (X:Nat->Nat->Rs Tr):Nat->Nat->Fr->Rs Fr
 | 0,i,_=>.inr (i,6)
 | n+1,i,acc=>thn (fK nk l (X n) i) fun a j=>if key (tks l) j kBar then rowA nk l X n (j+1) (acc.app (fr1 a)) else .inl (acc.app (fr1 a),j)
end
section
variable {nk lg:ByteArray->Bool} {l:List Te}
theorem lR:∀(n i:Nat) (acc:Fr),armsF nk lg l n i acc=thn (rowA nk l (exprF nk lg l) n i acc) fun f j=>thn (keysL (tks l) j [kEnd]) fun _ m=>.inl (f,m)
 | 0,i,acc=>by rw[armsF];rfl
 | n+1,i,acc=>by
  rw[gS];unfold armsS rowA fK
  cases h1:nameQ nk (tks l) i [] with
  | inr e=>rfl
  | inl r=>
   show thn (nameQ nk (tks l) r.2 [kFat]) _=thn (thn (thn (nameQ nk (tks l) r.2 [kFat]) _) _) _
   cases h2:nameQ nk (tks l) r.2 [kFat] with
   | inr e=>rfl
   | inl q=>
    show thn (exprF nk lg l n q.2) _=thn (thn (thn (exprF nk lg l n q.2) _) _) _
    cases h3:exprF nk lg l n q.2 with
    | inr e=>rfl
    | inl z=>
     show(if key (tks l) z.2 kBar=true then _ else _)=thn (if key (tks l) z.2 kBar=true then _ else _) _
     split
     ·exact lR n _ _
     ·rfl
def caseG (l:List Te) (E:Nat->Rs Tr) (C:Nat->Rs Fr) (s:SS):SS:=kS (tks l) kEnd (rS C (kS (tks l) kOf (rS E s)))
def foldG (nk lg:ByteArray->Bool) (l:List Te) (E:Nat->Rs Tr) (C:Nat->Rs Fr) (s:SS):SS:=kS (tks l) kEnd (rS C (kS (tks l) kOf (rS (typL nk lg (tks l)) (kS (tks l) kTo (rS E s)))))
theorem sH {X:Nat->Nat->Rs Tr} (hX:∀n j,j<=l.length->In l.length j (X n j)):∀(n i:Nat) (acc:Fr),i<=l.length->In l.length i (rowA nk l X n i acc)
 | 0,i,acc,hi=>⟨Nat.le_refl _,hi,.inl rfl⟩
 | n+1,i,acc,hi=>by
  unfold rowA;refine(zR8 (hX n) hi).bnd0 fun a j _ _ hj=>?_
  split
  ·rename_i hk
   exact((sH hX n (j+1) _ (qF hk)).weak).down (Nat.le_succ j)
  ·exact qR (Nat.le_refl _) hj
theorem zN2 {E:Nat->Rs Tr} (hE:∀j,j<=l.length->In l.length j (E j)) {M:Nat->Fr->Rs Fr} {C:Nat->Rs Fr} (hC:∀j,j<=l.length->In l.length j (C j)) (hM:∀j,M j .nil=thn (C j) fun f j=>thn (keysL (tks l) j [kEnd]) fun _ m=>.inl (f,m)) {i:Nat} (hi:i<=l.length):stO (caseS l E M i)=caseG l E C (i,0):=by
 unfold caseS;have ne:=NeO.of_in (hE i hi);refine(zD (g:=fun s=>kS (tks l) kEnd (rS C s)) (kH ne _) ((yR _ _).comp (kO _)) fun _ j hj=>?_).trans (by rw[kI ne];show _=kS _ _ (rS C (kS _ _ (stO (at0 E (i,0)))));rw[qG]);have hj:j<=l.length:=by have h:=qL (l:=l) (ks:=[kOf]) (hE i hi);rw[hj] at h;exact h.2
 have ne2:=NeO.of_in (hC j hj);rw[hM];refine(zD (g:=fun s=>s) (kH ne2 _) Ab7.id fun _ _ _=>rfl).trans ?_
 show stO (thenK (tks l) (C j) [kEnd])=_
 rw[kI ne2]
 show _=kS _ _ (stO (at0 C (j,0)))
 rw[qG]
theorem zR9 {E:Nat->Rs Tr} (hE:∀j,j<=l.length->In l.length j (E j)) {M:Nat->Fr->Rs Fr} {C:Nat->Rs Fr} (hC:∀j,j<=l.length->In l.length j (C j)) (hM:∀j,M j .nil=thn (C j) fun f j=>thn (keysL (tks l) j [kEnd]) fun _ m=>.inl (f,m)) {i m:Nat} (hi:i<=l.length) {u:Tr} (h:caseS l E M i = .inl (u,m)) :
  ∃a f j1 j2 j3,E i = .inl (a,j1)/\kS (tks l) kOf (j1,0)=(j2,0)/\C j2 = .inl (f,j3)/\u=nd 32 nob (.cons a.1 a.2 f):=by
 unfold caseS at h;obtain⟨a,j2,h1,h⟩:=qD h;obtain⟨j1,h2,h3⟩:=kA (NeO.of_in (hE i hi)) h1;have i2:j2<=l.length:=by have h:=qL (l:=l) (ks:=[kOf]) (hE i hi);rw[h1] at h;exact h.2
 rw[hM] at h;obtain⟨f,j4,h4,h⟩:=qD h;obtain⟨j3,h5,h6⟩:=kA (NeO.of_in (hC j2 i2)) (show thenK (tks l) (C j2) [kEnd] = .inl (f,j4) from h4);injection h with h;injection h with e1 e2;exact⟨a,f,j1,j2,j3,h2,h3,h5,e1.symm⟩
theorem zN3 {E:Nat->Rs Tr} (hE:∀j,j<=l.length->In l.length j (E j)) {M:Nat->Fr->Rs Fr} {C:Nat->Rs Fr} (hC:∀j,j<=l.length->In l.length j (C j)) (hM:∀j,M j .nil=thn (C j) fun f j=>thn (keysL (tks l) j [kEnd]) fun _ m=>.inl (f,m)) {i:Nat} (hi:i<=l.length):stO (foldS nk lg l E M i)=foldG nk lg l E C (i,0):=by
 unfold foldS;have ne:=NeO.of_in (hE i hi);refine(zD (g:=fun s=>kS (tks l) kEnd (rS C (kS (tks l) kOf (rS (typL nk lg (tks l)) s)))) (kH ne _) ((yR _ _).comp ((kO _).comp ((yR _ _).comp (kO _)))) fun _ j hj=>?_).trans (by rw[kI ne];show _=kS _ _ (rS C (kS _ _ (rS _ (kS _ _ (stO (at0 E (i,0)))))));rw[qG]);have hj:j<=l.length:=by have h:=qL (l:=l) (ks:=[kTo]) (hE i hi);rw[hj] at h;exact h.2
 have ne1:=lQ (nk:=nk) (lg:=lg) j hj;refine(zD (g:=fun s=>kS (tks l) kEnd (rS C s)) (kH ne1 _) ((yR _ _).comp (kO _)) fun _ j2 hj2=>?_).trans (by rw[kI ne1];show _=kS _ _ (rS C (kS _ _ (stO (at0 _ (j,0)))));rw[qG]);have hj2:j2<=l.length:=by have h:=qL (l:=l) (ks:=[kOf]) (kK (nk:=nk) (lg:=lg) hj);rw[hj2] at h;exact h.2
 have ne2:=NeO.of_in (hC j2 hj2);rw[hM];refine(zD (g:=fun s=>s) (kH ne2 _) Ab7.id fun _ _ _=>rfl).trans ?_
 show stO (thenK (tks l) (C j2) [kEnd])=_
 rw[kI ne2]
 show _=kS _ _ (stO (at0 C (j2,0)))
 rw[qG]
theorem zRa {E:Nat->Rs Tr} (hE:∀j,j<=l.length->In l.length j (E j)) {M:Nat->Fr->Rs Fr} {C:Nat->Rs Fr} (hC:∀j,j<=l.length->In l.length j (C j)) (hM:∀j,M j .nil=thn (C j) fun f j=>thn (keysL (tks l) j [kEnd]) fun _ m=>.inl (f,m)) {i m:Nat} (hi:i<=l.length) {u:Tr} (h:foldS nk lg l E M i = .inl (u,m)) :
  ∃a t f j1 j2 j3 j4 j5,E i = .inl (a,j1)/\kS (tks l) kTo (j1,0)=(j2,0)/\typL nk lg (tks l) j2 = .inl (t,j3)/\kS (tks l) kOf (j3,0)=(j4,0)/\C j4 = .inl (f,j5)/\u=nd 33 nob (.cons a.1 a.2 (.cons t.1 t.2 f)):=by
 unfold foldS at h;obtain⟨a,j2,h1,h⟩:=qD h;obtain⟨j1,h2,h3⟩:=kA (NeO.of_in (hE i hi)) h1;have i2:j2<=l.length:=by have h:=qL (l:=l) (ks:=[kTo]) (hE i hi);rw[h1] at h;exact h.2
 obtain⟨t,j4,h4,h⟩:=qD h;obtain⟨j3,h5,h6⟩:=kA (lQ j2 i2) h4;have i4:j4<=l.length:=by have h:=qL (l:=l) (ks:=[kOf]) (kK (nk:=nk) (lg:=lg) i2);rw[h4] at h;exact h.2
 rw[hM] at h;obtain⟨f,j6,h7,h⟩:=qD h;obtain⟨j5,h8,h9⟩:=kA (NeO.of_in (hC j4 i4)) (show thenK (tks l) (C j4) [kEnd] = .inl (f,j6) from h7);injection h with h;injection h with e1 e2;exact⟨a,t,f,j1,j2,j3,j4,j5,h2,h3,h5,h6,h8,e1.symm⟩
end
end Go.Proofs.YtgeghilbikljcaaGreatDoor
