/-
  Plain: what is parsed has a type's form, and no more nodes than tokens.
-/
import Derived.Test.YtgeghilbikljcaaGreatDoorGs03
import Derived.Test.YtgeghilbikljcaaGreatDoorGs08
import Derived.Carry
import Derived.Laws.Tables
import Derived.Lib.CutLaws
import Derived.Lib.Join
import Derived.Lib.Split
import Derived.MapKept
set_option maxHeartbeats 40000000
set_option maxRecDepth 100000
namespace Go.Proofs.YtgeghilbikljcaaGreatDoor
section
variable {nk lg:ByteArray->Bool}
theorem oI (k:Int) (h:k=1\/k=2\/k=3):isT nk lg (nd k nob .nil) 1=true:=by
 rcases h with rfl | rfl | rfl
 ·exact zE.2 ⟨⟨1,1,[],[],0,0,[]⟩,by simp[RWS],zG.2 ⟨rfl,rfl,rfl,rfl,Int.le_refl 0,Int.le_refl 0,rfl⟩⟩
 ·exact zE.2 ⟨⟨1,2,[],[],0,0,[]⟩,by simp[RWS],zG.2 ⟨rfl,rfl,rfl,rfl,Int.le_refl 0,Int.le_refl 0,rfl⟩⟩
 ·exact zE.2 ⟨⟨1,3,[],[],0,0,[]⟩,by simp[RWS],zG.2 ⟨rfl,rfl,rfl,rfl,Int.le_refl 0,Int.le_refl 0,rfl⟩⟩
theorem zH7 {s:ByteArray} (h:lg s=true):isT nk lg (nd 4 s .nil) 1=true:=
 zE.2 ⟨⟨1,4,[108],[],0,0,[]⟩,by simp[RWS],zG.2 ⟨rfl,rfl,h,rfl,Int.le_refl 0,Int.le_refl 0,rfl⟩⟩
theorem zD5 {k:Int} (h:k=5\/k=6) {a b:Tr} (ha:isT nk lg a 1=true) (hb:isT nk lg b 1=true):isT nk lg (nd k nob (fr2 a b)) 1=true:=by
 have hs:seqOk (infF nk lg (fr2 a b)) [116,116]=true:=by
  show((isT nk lg a 1)&&((isT nk lg b 1)&&true))=true
  rw[ha,hb]
  rfl
 rcases h with rfl | rfl
 ·exact zE.2 ⟨⟨1,5,[],[],0,0,[116,116]⟩,by simp[RWS],zG.2 ⟨rfl,rfl,rfl,rfl,Int.le_refl 0,Int.le_refl 0,hs⟩⟩
 ·exact zE.2 ⟨⟨1,6,[],[],0,0,[116,116]⟩,by simp[RWS],zG.2 ⟨rfl,rfl,rfl,rfl,Int.le_refl 0,Int.le_refl 0,hs⟩⟩
theorem zD6 {s:ByteArray} (h:nk s=true) {t:Tr} (ht:isT nk lg t 1=true):isT nk lg (nd 8 s (fr1 t)) 8=true:=by
 have hs:seqOk (infF nk lg (fr1 t)) [116]=true:=by
  show((isT nk lg t 1)&&true)=true
  rw[ht]
  rfl
 exact zE.2 ⟨⟨8,8,[110],[],0,0,[116]⟩,by simp[RWS],zG.2 ⟨rfl,rfl,h,rfl,Int.le_refl 0,Int.le_refl 0,hs⟩⟩
theorem dD (j:Inf):∀l:List Inf,jT (l++[j])=(jT l&&l.all fun i=>decide (i.a≠j.a))
 | []=>rfl
 | i::t=>by
  show((t++[j]).all (fun x=>decide (i.a≠x.a))&&jT (t++[j]))=((t.all (fun x=>decide (i.a≠x.a))&&jT t)&&(decide (i.a≠j.a)&&t.all fun x=>decide (x.a≠j.a)))
  rw[dD j t,List.all_append,List.all_cons,List.all_nil]
  cases t.all (fun x=>decide (i.a≠x.a))<;>cases decide (i.a≠j.a)<;>cases jT t<;>cases (t.all fun x=>decide (x.a≠j.a))<;>rfl
theorem zZo:∀(f:Fr) (s:ByteArray),hasN f s=false->((infF nk lg f).all fun i=>decide (i.a≠s))=true
 | .nil,_,_=>rfl
 | .cons x k r,s,h=>by
  unfold hasN at h;rw[Bool.or_eq_false_iff] at h
  show(decide (x.a≠s)&&(infF nk lg r).all fun i=>decide (i.a≠s))=true
  rw[zZo r s h.2,Bool.and_true,decide_eq_true_eq];exact of_decide_eq_false h.1
def ConOk (nk lg:ByteArray->Bool) (f:Fr):Prop:=((infF nk lg f).all fun i=>i.is 8)=true/\jT (infF nk lg f)=true
theorem ConOk.nil:ConOk nk lg .nil:=⟨rfl,rfl⟩
theorem ConOk.more {f:Fr} (h:ConOk nk lg f) {s:ByteArray} (hs:nk s=true) (hn:hasN f s=false) {t:Tr} (ht:isT nk lg t 1=true):ConOk nk lg (f.app (fr1 (nd 8 s (fr1 t)))):=by
 have e:infF nk lg (f.app (fr1 (nd 8 s (fr1 t))))=infF nk lg f++[infT nk lg (nd 8 s (fr1 t))]:=rW f _;unfold ConOk;rw[e];refine⟨?_,?_⟩
 ·rw[List.all_append,h.1]
  show(true&&(isT nk lg (nd 8 s (fr1 t)) 8&&true))=true
  rw[zD6 hs ht]
  rfl
 ·rw[dD,h.2]
  exact zZo f s hn
theorem is_mu {s:ByteArray} (h:nk s=true) {c:Fr} (hc:ConOk nk lg c) (h0:0<c.len):isT nk lg (nd 7 s c) 1=true:=by
 have hs:seqOk (infF nk lg c) [67]=true:=by
  have hl:=xZ (nk:=nk) (lg:=lg) c
  cases hq:infF nk lg c with
  | nil=>rw[hq] at hl;simp at hl;omega
  | cons i t=>
   rw[<- hq];have e:seqOk (infF nk lg c) [67]=(!(infF nk lg c).isEmpty&&((infF nk lg c).all fun i=>i.is 8)&&jT (infF nk lg c)):=by cases infF nk lg c<;>rfl
   rw[e,hc.1,hc.2,hq]
   rfl
 exact zE.2 ⟨⟨1,7,[110],[],0,0,[67]⟩,by simp[RWS],zG.2 ⟨rfl,rfl,h,rfl,Int.le_refl 0,Int.le_refl 0,hs⟩⟩
theorem dE {p:ByteArray->Bool} {l:List Tk} {i:Nat} {s:ByteArray} (h:nam p l i=some s):p s=true:=by
 unfold nam at h
 split at h
 ·split at h
  ·rename_i hp
   injection h with h;rw[Bool.and_eq_true] at hp;rw[<- h];exact hp.2
  ·cases h
 ·cases h
def FormT (nk lg:ByteArray->Bool) (i:Nat) (R:Rs Tr):Prop:=∀t j,R = .inl (t,j)->isT nk lg t 1=true/\szT t+i<=j
def FormC (nk lg:ByteArray->Bool) (i:Nat) (acc:Fr) (R:Rs Fr):Prop:=∀c j,R = .inl (c,j)->ConOk nk lg c/\c.sz+i<=acc.sz+j/\0<c.len
theorem eF {m:ByteArray} {k:Int} (hk:k=5\/k=6) {l:List Tk} {i:Nat} {r:Rs Tr} {T:Nat->Rs Tr} (hr:FormT nk lg i r) (hT:∀j,FormT nk lg j (T j)):FormT nk lg i (typS m k l r T):=by
 intro t j h;unfold typS at h
 cases r with
 | inr e=>cases h
 | inl r=>
  obtain⟨a,q⟩:=r;obtain⟨h1,h2⟩:=hr a q rfl;simp only at h
  split at h
  ·cases h':T (q+1) with
   | inr e=>rw[h'] at h;cases h
   | inl r=>
    obtain⟨b,p⟩:=r;rw[h'] at h;injection h with h;injection h with h3 h4;obtain⟨h5,h6⟩:=hT (q+1) b p h';subst h3;subst h4;refine⟨zD5 hk h1 h5,?_⟩;have e:szT (nd k nob (fr2 a b))=1+(szT a+szT b):=by unfold szT;simp only[nd,fr2,fr1,Fr.sz];omega
    omega
  ·injection h with h
   injection h with h3 h4;subst h3;subst h4;exact⟨h1,h2⟩
theorem zW6 {l:List Tk} {i:Nat} {T:Nat->Rs Tr} {C:Nat->Fr->Rs Fr} (hT:∀j,FormT nk lg j (T j)) (hC:∀j,FormC nk lg j .nil (C j .nil)):FormT nk lg i (atomS nk lg l i T C):=by
 intro t j h;have one:∀k s,szT (nd k s .nil)=1:=fun _ _=>rfl
 unfold atomS at h
 split at h
 ·rename_i s hs
  injection h with h;injection h with h1 h2;subst h1;subst h2;exact⟨zH7 (dE hs),by rw[one];omega⟩
 ·split at h
  ·injection h with h
   injection h with h1 h2;subst h1;subst h2;exact⟨oI 1 (by omega),by rw[one];omega⟩
  ·split at h
   ·injection h with h
    injection h with h1 h2;subst h1;subst h2;exact⟨oI 2 (by omega),by rw[one];omega⟩
   ·split at h
    ·injection h with h
     injection h with h1 h2;subst h1;subst h2;exact⟨oI 3 (by omega),by rw[one];omega⟩
    ·split at h
     ·cases h':T (i+1) with
      | inr e=>rw[h'] at h;cases h
      | inl r=>
       obtain⟨a,q⟩:=r;rw[h'] at h;simp only at h;obtain⟨h5,h6⟩:=hT (i+1) a q h'
       split at h
       ·injection h with h
        injection h with h1 h2;subst h1;subst h2;exact⟨h5,by omega⟩
       ·cases h
     ·split at h
      ·split at h
       ·cases h
       ·rename_i s hs
        split at h
        ·cases h':C (i+3) .nil with
         | inr e=>rw[h'] at h;cases h
         | inl r=>
          obtain⟨c,q⟩:=r;rw[h'] at h;simp only at h;obtain⟨h5,h6,h7⟩:=hC (i+3) c q h';have h8:Fr.nil.sz=0:=rfl
          split at h
          ·injection h with h
           injection h with h1 h2;subst h1;subst h2;exact⟨is_mu (dE hs) h5 h7,by show 1+c.sz+i<=q+1;omega⟩
          ·cases h
        ·cases h
      ·cases h
theorem zW7 {l:List Tk} {i:Nat} {acc:Fr} {T:Nat->Rs Tr} {C:Nat->Fr->Rs Fr} (ha:ConOk nk lg acc) (hT:∀j,FormT nk lg j (T j)) (hC:∀j a,ConOk nk lg a->FormC nk lg j a (C j a)):FormC nk lg i acc (consS nk l i acc T C):=by
 intro c j h;unfold consS at h
 split at h
 ·cases h
 ·rename_i s hs
  split at h
  ·cases h
  ·rename_i hn
   split at h
   ·cases h':T (i+2) with
    | inr e=>rw[h'] at h;cases h
    | inl r=>
     obtain⟨t,q⟩:=r;rw[h'] at h;simp only at h;obtain⟨h5,h6⟩:=hT (i+2) t q h';have hk:=ha.more (dE hs) (Bool.eq_false_iff.2 hn) h5;have hz:(acc.app (fr1 (nd 8 s (fr1 t)))).sz=acc.sz+(1+szT t):=by rw[Fr.sz_app];unfold szT;simp only[nd,fr1,Fr.sz];omega
     split at h
     ·obtain⟨h7,h8,h9⟩:=hC (q+1) _ hk c j h
      exact⟨h7,by omega,h9⟩
     ·injection h with h
      injection h with h1 h2;subst h1;subst h2;exact⟨hk,by omega,by rw[Fr.len_app];show 0<acc.len+1;omega⟩
   ·cases h
theorem nL (l:List Tk):∀(n:Nat),(∀i,FormT nk lg i (typF nk lg n l i))/\(∀i,FormT nk lg i (prodF nk lg n l i))/\(∀i,FormT nk lg i (atomF nk lg n l i))/\(∀i acc,ConOk nk lg acc->FormC nk lg i acc (consF nk lg n l i acc))
 | 0=>⟨(fun i t j h=>by rw[typF] at h;cases h),(fun i t j h=>by rw[prodF] at h;cases h),(fun i t j h=>by rw[atomF] at h;cases h),(fun i _ _ c j h=>by rw[consF] at h;cases h)⟩
 | n+1=>by
  obtain⟨hT,hP,hA,hC⟩:=nL l n;refine⟨fun i=>?_,fun i=>?_,fun i=>?_,fun i acc ha=>?_⟩
  ·rw[sD]
   exact eF (.inl rfl) (hP i) hT
  ·rw[gK]
   exact eF (.inr rfl) (hA i) hP
  ·rw[gL]
   exact zW6 hT fun j=>hC j .nil ConOk.nil
  ·rw[gM]
   exact zW7 ha hT hC
theorem sF {l:List Tk} {i j:Nat} {t:Tr} (h:typL nk lg l i = .inl (t,j)):isT nk lg t 1=true/\szT t+i<=j:=(nL l _).1 i t j h
end
def nmT (s:ByteArray):Tk:=⟨1,s⟩
section
variable {nk lg:ByteArray->Bool}
theorem sG {s:ByteArray} (h:isEmp s=true):s=nob:=by
 have h:=of_decide_eq_true h;obtain⟨⟨l⟩⟩:=s
 cases l with
 | nil=>rfl
 | cons a l=>simp[ByteArray.size] at h
theorem mK {x:Nod} {k:Int} {a:ByteArray} (hk:k=x.k) (h1:0<=x.n) (h2:x.n<=0) (ha:x.a=a) (hm:isEmp x.m=true):x=⟨k,0,a,nob⟩:=by
 obtain⟨k',n,a',m⟩:=x;simp only at hk h1 h2 ha hm;subst hk;subst ha;have h3:n=0:=by omega
 rw[h3,sG hm]
inductive dF (nk lg:ByteArray->Bool):Tr->Prop
 | leaf (k:Int) (h:k=1\/k=2\/k=3):dF nk lg (nd k nob .nil)
 | name (s:ByteArray) (h:lg s=true):dF nk lg (nd 4 s .nil)
 | two (k:Int) (h:k=5\/k=6) (a b:Tr) (ha:isT nk lg a 1=true) (hb:isT nk lg b 1=true):dF nk lg (nd k nob (fr2 a b))
 | mu (s:ByteArray) (h:nk s=true) (c:Fr) (hc:ConOk nk lg c) (h0:0<c.len):dF nk lg (nd 7 s c)
theorem zH8 (l:List Inf):seqOk l []=l.isEmpty:=by cases l<;>rfl
theorem lI {f:Fr} (h:seqOk (infF nk lg f) []=true):f = .nil:=by
 cases f with
 | nil=>rfl
 | cons x k r=>cases h
theorem zUq {f:Fr} (h:seqOk (infF nk lg f) [116,116]=true):∃a b,f=fr2 a b/\isT nk lg a 1=true/\isT nk lg b 1=true:=by
 cases f with
 | nil=>cases h
 | cons x k r=>
  cases r with
  | nil=>
   have h:(isT nk lg (x,k) 1&&false)=true:=h;rw[Bool.and_false] at h
   cases h
  | cons y m q=>
   have h:(isT nk lg (x,k) 1&&(isT nk lg (y,m) 1&&seqOk (infF nk lg q) []))=true:=h;rw[zH8] at h;simp only[Bool.and_eq_true] at h;refine⟨(x,k),(y,m),?_,h.1,h.2.1⟩
   cases q with
   | nil=>rfl
   | cons _ _ _=>cases h.2.2
theorem zH9 {t:Tr} (h:isT nk lg t 1=true):dF nk lg t:=by
 obtain⟨x,f⟩:=t;obtain⟨r,hr,hf⟩:=zE.1 h;obtain⟨hc,hk,ha,hm,h1,h2,hs⟩:=zG.1 hf;simp only[RWS,List.mem_cons,List.not_mem_nil,or_false] at hr
 rcases hr with rfl | rfl | rfl | rfl | rfl | rfl | rfl | rfl | rfl | rfl | rfl | rfl | rfl | rfl | rfl | rfl | rfl | rfl | rfl | rfl | rfl | rfl | rfl | rfl | rfl | rfl | rfl | rfl | rfl | rfl | rfl | rfl | rfl | rfl | rfl | rfl | rfl | rfl | rfl | rfl | rfl | rfl | rfl | rfl | rfl | rfl | rfl
 all_goals try (exact absurd hc (by decide))
 ·have e:x=⟨1,0,nob,nob⟩:=mK hk h1 h2 (sG ha) hm
  have ef:f = .nil:=lI hs;rw[e,ef];exact .leaf 1 (by omega)
 ·have e:x=⟨2,0,nob,nob⟩:=mK hk h1 h2 (sG ha) hm
  have ef:f = .nil:=lI hs;rw[e,ef];exact .leaf 2 (by omega)
 ·have e:x=⟨3,0,nob,nob⟩:=mK hk h1 h2 (sG ha) hm
  have ef:f = .nil:=lI hs;rw[e,ef];exact .leaf 3 (by omega)
 ·have e:x=⟨4,0,x.a,nob⟩:=mK hk h1 h2 rfl hm
  have ha:lg x.a=true:=ha;have ef:f = .nil:=lI hs;rw[e,ef];exact .name x.a ha
 ·obtain⟨a,b,rfl,hA,hB⟩:=zUq hs
  have e:x=⟨5,0,nob,nob⟩:=mK hk h1 h2 (sG ha) hm;rw[e];exact .two 5 (by omega) a b hA hB
 ·obtain⟨a,b,rfl,hA,hB⟩:=zUq hs
  have e:x=⟨6,0,nob,nob⟩:=mK hk h1 h2 (sG ha) hm;rw[e];exact .two 6 (by omega) a b hA hB
 ·have e7:x=⟨7,0,x.a,nob⟩:=mK hk h1 h2 rfl hm
  have ha:nk x.a=true:=ha;rw[e7];have e:seqOk (infF nk lg f) [67]=(!(infF nk lg f).isEmpty&&((infF nk lg f).all fun i=>i.is 8)&&jT (infF nk lg f)):=by cases infF nk lg f<;>rfl
  have hs:seqOk (infF nk lg f) [67]=true:=hs;rw[e] at hs;simp only[Bool.and_eq_true] at hs;refine .mu x.a ha f ⟨hs.1.2,hs.2⟩ ?_
  cases f with
  | nil=>cases hs.1.1
  | cons _ _ _=>exact Nat.succ_pos _
end
end Go.Proofs.YtgeghilbikljcaaGreatDoor
namespace Go.Proofs.YtgeghilbikljcaaGreatDoor
open Go.RowKit
def Tkm (w:World) (v:Value) (l:List Tk):Prop:=∃A c,v = .slice A l.length c/\∀(j:Nat) (t:Tk),l[j]? = some t->∃b o,A=some ⟨b,o,none⟩/\b<w.heap.size/\w.cell? ⟨b,o+j*4,none⟩=some (.int .i64 t.k)/\w.cell? ⟨b,o+j*4+1,none⟩=some (.string t.s)
theorem Tkm.up {W w:World} {v:Value} {l:List Tk} (h:Tkm W v l) (u:Up W w):Tkm w v l:=by
 obtain⟨A,c,rfl,h⟩:=h;refine⟨A,c,rfl,fun j t ht=>?_⟩;obtain⟨b,o,h1,h2,h3,h4⟩:=h j t ht;exact⟨b,o,h1,Nat.lt_of_lt_of_le h2 u.size,u.cell h3,u.cell h4⟩
theorem dG (a b:ByteArray):(a.toList==b.toList)=decide (a=b):=by
 by_cases h:a=b
 ·rw[h,decide_eq_true rfl]
  simp
 ·rw[decide_eq_false h,beq_eq_false_iff_ne]
  intro e;rw[Lib.toList_data,Lib.toList_data] at e;exact h (B.vP e)
def keyZ (l:List Tk) (i:Int) (x:ByteArray):Bool:=decide (0<=i)&&key l i.toNat x
def BoU (b:Bool) (w:World) (e:Ending) (w':World):Prop:=e = .returned (.bool b)/\Up w w'
theorem yQ {a b:Bool} {w w':World} (h:a=b) (u:Up w w'):BoU a w (.returned (.bool b)) w':=⟨by rw[h],u⟩
def namZ (p:ByteArray->Bool) (l:List Tk) (i:Int):Option ByteArray:=if 0<=i then nam p l i.toNat else none
def NaP (o:Option ByteArray) (w:World) (e:Ending) (w':World):Prop:=e = .returned (.tuple #[.string (o.getD nob),.bool o.isSome])/\Up w w'
section
variable {nk lg:ByteArray->Bool}
def LeOk {α:Type} (N:Nat) (R:Rs α):Prop:=pl R<=N/\∀p e,R = .inr (p,e)->¬e=0
theorem St.leok {α:Type} {N:Nat} {R R':Rs α} (h:St N R R'):LeOk N R:=⟨h.le,fun p e he=>by rcases h.bad p e he with h | ⟨h,_⟩<;>omega⟩
theorem wU (l:List Tk) (i:Nat) (hi:i<=l.length):LeOk l.length (typL nk lg l i):=((mJ l [] _).1 i hi).leok
theorem zZp (l:List Tk) (i:Nat) (hi:i<=l.length):LeOk l.length (prodL nk lg l i):=((mJ l [] _).2.1 i hi).leok
theorem zZq (l:List Tk) (i:Nat) (hi:i<=l.length):LeOk l.length (atomL nk lg l i):=((mJ l [] _).2.2.1 i hi).leok
theorem dH (l:List Tk) (i:Nat) (acc:Fr) (hi:i<=l.length):LeOk l.length (consL nk lg l i acc):=((mJ l [] _).2.2.2 i acc hi).leok
end
def NewS (W w:World) (q:Nat):Prop:=W.heap.size<=q/\q<w.heap.size
def NewT (W w:World) (v:Value) (t:Tr):Prop:=InT w (NewS W w) v t
theorem NewT.up {W a w:World} {v:Value} {t:Tr} (h:NewT W a v t) (u:Up a w):NewT W w v t:=InT.keep h (fun _ hq=>⟨hq.1,Nat.lt_of_lt_of_le hq.2 u.size⟩) fun b hb=>Below.block u b hb.2
theorem NewT.base {W a w:World} {v:Value} {t:Tr} (h:NewT a w v t) (u:W.heap.size<=a.heap.size):NewT W w v t:=InT.keep h (fun _ hq=>⟨Nat.le_trans u hq.1,hq.2⟩) fun _ _=>rfl
theorem NewT.has {W w:World} {v:Value} {t:Tr} (h:NewT W w v t):HasT w v (some t):=InT.keep h (fun _ hq=>hq.2) fun _ _=>rfl
theorem kR (w:World) (o:Obj) {n:Nat} (h:w.heap.size=n):(w.alloc o).heap[n]? = some o:=by rw[<- h];exact heap_alloc_new w o
theorem yZ {w:World} {b:Nat} {o:Obj} (o':Obj) (h:w.heap[b]? = some o):(w.alloc o').heap[b]? = some o:=(Below.heap_alloc _ _ _ (qC h)).trans h
theorem zR {w:World} {S:Nat->Prop} {b g n c:Nat} {x:Nod} {f:Fr} (h:w.heap[b]? = some (.cells #[.int .i64 x.k,.int .i64 x.n,.string x.a,.string x.m,.slice (some ⟨g,0,none⟩) n c] 44 (0,0))) (hn:f.len=n) (hc:n<=c) (hS:S b) (hg:S g) (hf:InF w S f g 0):InT w S (.pointer (some ⟨b,0,none⟩)) (x,f):=by
 subst hn;exact⟨b,0,some ⟨g,0,none⟩,c,rfl,hS,⟨_,_,h⟩,cell_of_row w b 0 _ _ _ h,cell_of_row w b 1 _ _ _ h,cell_of_row w b 2 _ _ _ h,cell_of_row w b 3 _ _ _ h,cell_of_row w b 4 _ _ _ h,hc,fun _=>⟨g,0,rfl,hg,hf⟩⟩
theorem kU {w:World} {S:Nat->Prop} {b:Nat} {x:Nod} (h:w.heap[b]? = some (.cells #[.int .i64 x.k,.int .i64 x.n,.string x.a,.string x.m,.slice none 0 0] 44 (0,0))) (hS:S b):InT w S (.pointer (some ⟨b,0,none⟩)) (x,.nil):=
 ⟨b,0,none,0,rfl,hS,⟨_,_,h⟩,cell_of_row w b 0 _ _ _ h,cell_of_row w b 1 _ _ _ h,cell_of_row w b 2 _ _ _ h,cell_of_row w b 3 _ _ _ h,cell_of_row w b 4 _ _ _ h,Nat.le_refl _,fun hn=>absurd hn (by simp[Fr.len])⟩
end Go.Proofs.YtgeghilbikljcaaGreatDoor
namespace Go.Proofs.YtgeghilbikljcaaGreatDoor
def rowF (l:List Tk) (m:ByteArray) (part:Fr->Nat->Rs Tr):Nat->Fr->Nat->Rs Fr
 | 0,_,i=>.inr (i,6)
 | n+1,acc,i=>match part acc i with
  | .inr e=>.inr e
  | .inl (t,j)=>if key l j m then rowF l m part n (acc.app (fr1 t)) (j+1) else .inl (acc.app (fr1 t),j)
def rowS (l:List Tk) (m:ByteArray) (r:Rs Tr) (acc:Fr) (R:Fr->Nat->Rs Fr):Rs Fr:=match r with
 | .inr e=>.inr e
 | .inl (t,j)=>if key l j m then R (acc.app (fr1 t)) (j+1) else .inl (acc.app (fr1 t),j)
theorem zW8 (l:List Tk) (m:ByteArray) (part:Fr->Nat->Rs Tr) (n:Nat) (acc:Fr) (i:Nat):rowF l m part (n+1) acc i=rowS l m (part acc i) acc (rowF l m part n):=by rw[rowF];rfl
theorem eG {l:List Tk} {m:ByteArray} {part:Fr->Nat->Rs Tr} (ha:∀acc i,Ahead i (part acc i)):∀(n:Nat) (acc:Fr) (i:Nat),i<=l.length->l.length+1-i<=n->rowF l m part (n+1) acc i=rowF l m part n acc i
 | 0,acc,i,hi,hn=>by omega
 | n+1,acc,i,hi,hn=>by
  rw[zW8,zW8];unfold rowS;have h1:=ha acc i
  cases h:part acc i with
  | inr e=>rfl
  | inl r=>
   obtain⟨t,j⟩:=r;rw[h] at h1;have h1:i<j:=h1;simp only
   split
   ·rename_i hk
    have:=zU hk;exact eG ha n _ _ (by omega) (by omega)
   ·rfl
theorem zUr {l:List Tk} {m:ByteArray} {part:Fr->Nat->Rs Tr} (ha:∀acc i,Ahead i (part acc i)) {n:Nat} {acc:Fr} {i:Nat} (hi:i<=l.length) (hn:l.length+1-i<=n):∀d,rowF l m part (n+d) acc i=rowF l m part n acc i
 | 0=>rfl
 | d+1=>by rw[<- Nat.add_assoc,eG ha _ _ _ hi (by omega),zUr ha hi hn d]
def rowL (l:List Tk) (m:ByteArray) (part:Fr->Nat->Rs Tr) (acc:Fr) (i:Nat):Rs Fr:=rowF l m part (l.length+1) acc i
theorem gO {l:List Tk} {m:ByteArray} {part:Fr->Nat->Rs Tr} (ha:∀acc i,Ahead i (part acc i)) (acc:Fr) (i:Nat) (hi:i<=l.length):rowL l m part acc i=rowS l m (part acc i) acc (rowL l m part):=by
 have h:rowL l m part acc i=rowF l m part (l.length+1+1) acc i:=(zUr ha hi (by omega) 1).symm;rw[h,zW8]
 rfl
def foldK (k:Int):Fr->Tr
 | .nil=>nd k nob .nil
 | .cons x f r=>if r.len=0 then (x,f) else nd k nob (fr2 (x,f) (foldK k r))
theorem eH (k:Int) (t:Tr) {r:Fr} (h:0<r.len):foldK k ((fr1 t).app r)=nd k nob (fr2 t (foldK k r)):=by
 show(if (Fr.app .nil r).len=0 then _ else _)=_
 rw[if_neg (by show ¬r.len=0;omega)]
 rfl
def toT (k:Int):Rs Fr->Rs Tr
 | .inr e=>.inr e
 | .inl (f,j)=>.inl (foldK k f,j)
def mapF (a:Fr):Rs Fr->Rs Fr
 | .inr e=>.inr e
 | .inl (f,j)=>.inl (a.app f,j)
section
variable {l:List Tk} {m:ByteArray} {P:Nat->Rs Tr}
theorem nM (ha:∀i,Ahead i (P i)):∀(d:Nat) (acc:Fr) (i:Nat),l.length-i<=d->i<=l.length->rowL l m (fun _=>P) acc i=mapF acc (rowL l m (fun _=>P) .nil i)
 | d,acc,i,hd,hi=>by
  have h1:=ha i;rw[gO (fun _=>ha) acc i hi,gO (fun _=>ha) .nil i hi];unfold rowS
  cases h:P i with
  | inr e=>rfl
  | inl r=>
   obtain⟨t,j⟩:=r;rw[h] at h1;have h1:i<j:=h1;simp only
   split
   ·rename_i hk
    have:=zU hk
    cases d with
    | zero=>omega
    | succ d=>
     rw[nM ha d _ (j+1) (by omega) (by omega),nM ha d (Fr.app .nil (fr1 t)) (j+1) (by omega) (by omega)]
     cases rowL l m (fun _=>P) .nil (j+1) with
     | inr e=>rfl
     | inl q=>show Sum.inl (_,_)=Sum.inl (_,_);rw[Fr.app_assoc];rfl
   ·rfl
theorem zHa (ha:∀i,Ahead i (P i)):∀(d:Nat) (i:Nat),l.length-i<=d->i<=l.length->∀f j,rowL l m (fun _=>P) .nil i = .inl (f,j)->0<f.len
 | d,i,hd,hi,f,j,h=>by
  have h1:=ha i;rw[gO (fun _=>ha) .nil i hi] at h;unfold rowS at h
  cases hp:P i with
  | inr e=>rw[hp] at h;cases h
  | inl r=>
   obtain⟨t,q⟩:=r;rw[hp] at h h1;have h1:i<q:=h1;simp only at h
   split at h
   ·rename_i hk
    have:=zU hk;rw[nM ha (l.length-(q+1)) _ (q+1) (Nat.le_refl _) (by omega)] at h
    cases hr:rowL l m (fun _=>P) .nil (q+1) with
    | inr e=>rw[hr] at h;cases h
    | inl s=>
     rw[hr] at h;have h:=Sum.inl.inj h;have h:=congrArg Prod.fst h;have h:(Fr.app .nil (fr1 t)).app s.1=f:=h;rw[<- h,Fr.len_app]
     show 0<1+_
     omega
   ·have h:=congrArg Prod.fst (Sum.inl.inj h)
    have h:Fr.app .nil (fr1 t)=f:=h;rw[<- h];exact Nat.succ_pos _
theorem oJ {k:Int} {T:Nat->Rs Tr} (ha:∀i,Ahead i (P i)) (hT:∀i,T i=typS m k l (P i) T):∀(d:Nat) (i:Nat),l.length-i<=d->i<=l.length->toT k (rowL l m (fun _=>P) .nil i)=T i
 | d,i,hd,hi=>by
  have h1:=ha i;rw[gO (fun _=>ha) .nil i hi,hT i];unfold rowS typS
  cases h:P i with
  | inr e=>rfl
  | inl r=>
   obtain⟨t,j⟩:=r;rw[h] at h1;have h1:i<j:=h1;simp only
   split
   ·rename_i hk
    have:=zU hk
    cases d with
    | zero=>omega
    | succ d=>
     have ih:=oJ (k:=k) ha hT d (j+1) (by omega) (by omega);rw[nM ha d _ (j+1) (by omega) (by omega),<- ih]
     cases hr:rowL l m (fun _=>P) .nil (j+1) with
     | inr e=>rfl
     | inl q=>
      obtain⟨f,q⟩:=q;have hne:=zHa ha d (j+1) (by omega) (by omega) f q hr
      show Sum.inl (foldK k ((fr1 t).app f),q)=Sum.inl (nd k nob (fr2 t (foldK k f)),q)
      rw[eH k t hne]
   ·rfl
end
section
variable {nk lg:ByteArray->Bool}
theorem zNm (l:List Tk) (i:Nat) (hi:i<=l.length):toT 5 (rowL l kQ (fun _=>prodL nk lg l) .nil i)=typL nk lg l i:=oJ (vG l) (zUn l) _ i (Nat.le_refl _) hi
theorem zSz (l:List Tk) (i:Nat) (hi:i<=l.length):toT 6 (rowL l kStar (fun _=>atomL nk lg l) .nil i)=prodL nk lg l i:=oJ (vH l) (zZl l) _ i (Nat.le_refl _) hi
def conS (nk lg:ByteArray->Bool) (l:List Tk) (acc:Fr) (i:Nat):Rs Tr:=match nam nk l i with
 | none=>.inr (i,6)
 | some s=>if hasN acc s then .inr (i,9) else if key l (i+1) kOf then (match typL nk lg l (i+2) with
  | .inr e=>.inr e
  | .inl (t,j)=>.inl (nd 8 s (fr1 t),j)) else .inr (i+1,6)
theorem zW9 (l:List Tk) (acc:Fr) (i:Nat):Ahead i (conS nk lg l acc i):=by
 have h1:=wR (nk:=nk) (lg:=lg) l (i+2);unfold conS
 split
 ·exact Nat.le_refl _
 ·split
  ·exact Nat.le_refl _
  ·split
   ·cases h:typL nk lg l (i+2) with
    | inr e=>rw[h] at h1;have h1:i+2<=e.1:=h1;show i<=e.1;omega
    | inl r=>rw[h] at h1;have h1:i+2<r.2:=h1;show i<r.2;omega
   ·show i<=i+1;omega
theorem zWa (l:List Tk) (acc:Fr) (i:Nat):consL nk lg l i acc=rowS l kBar (conS nk lg l acc i) acc fun a j=>consL nk lg l j a:=by
 rw[vZ];unfold consS conS rowS
 cases nam nk l i with
 | none=>rfl
 | some s=>
  simp only
  split
  ·rfl
  ·split
   ·cases typL nk lg l (i+2) with
    | inr e=>rfl
    | inl r=>rfl
   ·rfl
end
end Go.Proofs.YtgeghilbikljcaaGreatDoor
namespace Go.Proofs.YtgeghilbikljcaaGreatDoor
open Go.RowKit
theorem nN (w:World) (r:Option Nat):w.grownBy w r:=⟨rfl,rfl,rfl,Nat.le_refl _,fun _ _ _=>rfl⟩
theorem kV {a b c:World} {r:Option Nat} (h:a.grownBy b r) (k:b.grownBy c r):a.grownBy c r:=
 ⟨k.os.trans h.os,k.tape.trans h.tape,k.output.trans h.output,Nat.le_trans h.size k.size,fun i hi hr=>(k.block i (Nat.lt_of_lt_of_le hi h.size) hr).trans (h.block i hi hr)⟩
theorem kD {a b:World} {B:Nat} {r:Option Nat} (h:Below B a b) (hB:a.heap.size<=B):a.grownBy b r:=⟨h.os,h.tape,h.output,h.size,fun i hi _=>h.block i (by omega)⟩
theorem fO {a b:World} {r:Option Nat} (h:a.grownBy b r) (o:Obj):a.grownBy (b.alloc o) r:=kV h (kD ((Below.refl b.heap.size b).alloc (Nat.le_refl _) o) (Nat.le_refl _))
theorem fP {a b:World} {r:Option Nat} (h:a.grownBy b r) (p:Addr) (u:Value) (hp:a.heap.size<=p.block\/r=some p.block):a.grownBy (b.setCell p u) r:=
 ⟨h.os,h.tape,h.output,by have:=h.size;simpa [World.setCell] using this,fun i hi hr=>(Below.heap_setCell _ _ _ _ (by
  rcases hp with hp | hp
  ·omega
  ·intro e;exact hr (by rw[hp,e]))).trans (h.block i hi hr)⟩
theorem zHb {a b c:World} {r:Option Nat} {B:Nat} (h:Below B a b) (k:b.grownBy c r) (hB:B<=b.heap.size) (hr:∀g,r=some g->B<=g):Below B a c:=h.grown k hB hr
theorem jB {w:World} {b i:Nat} {cs:Array Value} {e:TypeId} {z:Nat×Nat} (u:Value) (h:w.heap[b]? = some (.cells cs e z)):(w.setCell ⟨b,i,none⟩ u).heap[b]? = some (.cells (cs.setIfInBounds i u) e z):=by
 simp[World.setCell,Array.getElem?_modify,h]
theorem xE {w:World} {b:Nat} {a:Addr} {o:Obj} (u:Value) (h:w.heap[b]? = some o) (hne:b≠a.block):(w.setCell a u).heap[b]? = some o:=(Below.heap_setCell _ _ _ _ hne).trans h
theorem yC {w:World} {b:Nat} {o:Obj} (ob:Obj) (h:w.heap[b]? = some o):(w.alloc ob).heap[b]? = some o:=(Below.heap_alloc _ _ _ (qC h)).trans h
theorem zUs (a b:Nat) (w:World) (ha:a<=1000000000) (hb:b<=1000000000):Calls Tryz.prog 143 #[.int .i64 (a:Int),.int .i64 (b:Int)] w fun e w'=>e = .returned (.int .i64 ((a:Int)+(b:Int)))/\w=w':=by
 have h1:¬(9223372036854775807-(b:Int))<(a:Int):=by omega
 go_enter Tryz.func143,Tryz.ntmps143
 go_wp2_with fail
 go_ret
 exact⟨rfl,rfl⟩
def Gg (w:World) (gb mb k:Nat):Prop:=w.heap[gb]? = some (.cells #[.int .i64 (k:Int),.map (some mb)] 118 (0,0))/\w.heap[mb]? = some (.map #[] 0)
theorem zZr (gb mb k:Nat) (v:Value) (x:Array Value) (w:World) (h:Gg w gb mb k) (hk:k<=65536) :
  Calls Tryz.prog 142 #[.pointer (some ⟨gb,0,none⟩),v,.agg x] w fun e w'=>e = .returned (.tuple #[])/\Below w.heap.size w w':=by
 have c0:=cell_of_row w gb 0 _ _ _ h.1;have h1:¬(65536:Int)<(k:Int):=by omega
 have hg:=qC h.1;clear h
 go_enter Tryz.func142,Tryz.ntmps142
 go_wp2_with fail;go_end0;exact⟨rfl,(Below.refl _ _).alloc (Nat.le_refl _) _⟩
theorem zR0 (n:Nat) (v:Value) (w:World):(Instr.checkKey true (n+1) 24 v).run Tryz.prog w = .ok () w:=by
 rw[Instr.checkKey]
 simp[run_underlying Tryz.underlying24,Result.andThen]
theorem zWb {w:World} {mb:Nat} (v:Value) (h:w.heap[mb]? = some (.map #[] 0)) :
  (Instr.lookup 116 (.map (some mb)) v true).run Tryz.prog w = .ok (.tuple #[.agg #[.int .i64 0,.int .i64 0,.bool false],.bool false]) w:=by
 have hz:(zeroValue 89).run Tryz.prog w = .ok (.agg #[.int .i64 0,.int .i64 0,.bool false]) w:=by kernel_rfl
 have hc:=zR0 9999 v w;simp only[Nat.reduceAdd] at hc
 simp[Instr.lookup,run_underlying Tryz.underlying116,run_underlying Tryz.underlying24,MapKept.run_getObj_map h,hc,Instr.findKey,Instr.findNow,hz,Result.andThen]
def zD7 (t:Tr) (gb mb k:Nat) (w:World) (e:Ending) (w':World):Prop:=e = .returned (.agg #[.int .i64 (szT t:Int),.int .i64 (dpT t:Int),.bool false])/\Gg w' gb mb (k+szT t)/\w.grownBy w' (some gb)
theorem Gg.grown {w w':World} {gb mb k:Nat} (h:Gg w gb mb k) (hb:Below w.heap.size w w'):Gg w' gb mb k:=⟨zH h.1 hb,zH h.2 hb⟩
theorem Gg.store {w:World} {gb mb k:Nat} {z:Int} {m:Nat} (h:Gg w gb mb k) (hne:mb≠gb) (hz:z=(m:Int)):Gg (w.setCell ⟨gb,0,none⟩ (.int .i64 z)) gb mb m:=by
 subst hz;exact⟨by rw[jB _ h.1];rfl,xE _ h.2 hne⟩
theorem Gg.far {w:World} {gb mb k b i:Nat} (h:Gg w gb mb k) (u:Value) (h1:gb≠b) (h2:mb≠b):Gg (w.setCell ⟨b,i,none⟩ u) gb mb k:=⟨xE _ h.1 h1,xE _ h.2 h2⟩
theorem zHc {w w':World} {gb:Nat} (h:w.grownBy w' (some gb)) {p:Addr} {v:Value} (hc:w.cell? p=some v) (hne:p.block≠gb):w'.cell? p=some v:=h.cell hc fun e=>hne (by injection e)
theorem Kid.gb {w w':World} {S:Nat->Prop} {A:Option Addr} {r:Fr} {i gb:Nat} (h:Kid w S A r i) (hS:Bel S w.heap.size) (hg:¬S gb) (hw:w.grownBy w' (some gb)):Kid w' S A r i:=
 h.keep (fun _ h=>h) fun pp hp=>hw.block pp (hS _ hp) fun e=>by injection e with e;exact hg (by rw[<- e];exact hp)
theorem yT {w w':World} {gb b:Nat} {o:Obj} (h:w.grownBy w' (some gb)) (hb:w.heap[b]? = some o) (hne:b≠gb):w'.heap[b]? = some o:=(h.block b (qC hb) fun e=>hne (by injection e)).trans hb
theorem nO {w:World} {b:Nat} {u v s:Value} {e:TypeId} {z:Nat×Nat} (h:w.heap[b]? = some (.cells #[u,v,s] e z)):w.cell? ⟨b,0,none⟩=some u:=cell_of_row w b 0 _ _ _ h
theorem nP {w:World} {b:Nat} {u v s:Value} {e:TypeId} {z:Nat×Nat} (h:w.heap[b]? = some (.cells #[u,v,s] e z)):w.cell? ⟨b,1,none⟩=some v:=cell_of_row w b 1 _ _ _ h
theorem nQ {w:World} {b:Nat} {u v s:Value} {e:TypeId} {z:Nat×Nat} (h:w.heap[b]? = some (.cells #[u,v,s] e z)):w.cell? ⟨b,2,none⟩=some s:=cell_of_row w b 2 _ _ _ h
theorem set3 {w:World} {b:Nat} {u v s:Value} {e:TypeId} {z:Nat×Nat} (h:w.heap[b]? = some (.cells #[u,v,s] e z)) (u' v' s':Value):(((w.setCell ⟨b,0,none⟩ u').setCell ⟨b,1,none⟩ v').setCell ⟨b,2,none⟩ s').heap[b]? = some (.cells #[u',v',s'] e z):=by
 rw[jB _ (jB _ (jB _ h))]
 rfl
theorem zNn:∀(n:Nat) (t:Tr),szT t<=n->n<=65536->∀(w:World) (Sq:Nat->Prop) (v:Value) (gb mb k:Nat),Bel Sq w.heap.size->¬Sq gb->InT w Sq v t->Gg w gb mb k->mb≠gb->k+szT t<=65536->
  Calls Tryz.prog 99 #[.pointer (some ⟨gb,0,none⟩),v] w (zD7 t gb mb k w)
 | 0,t,h,_,_,_,_,_,_,_,_,_,_,_,_,_=>absurd h (by unfold szT;omega)
 | n+1,(x,ks),hn,hbig,w,Sq,v,gb,mb,k,hbel,hgS,hin,hgg,hmg,hk=>by
  have ih:=zNn n;obtain⟨q,p,A,c,rfl,hq1,c0,c1,c2,c3,c4,hc,hkid⟩:=hin.open;have hqw:=zQ c4;have hqg:q≠gb:=fun e=>hgS (by rw[<- e];exact hq1)
  have g0:=cell_of_row w gb 0 _ _ _ hgg.1;have g1:=cell_of_row w gb 1 _ _ _ hgg.1;have gf:=frozen_of_row w gb 0 _ _ hgg.1;have hgw:=qC hgg.1;have hmw:=qC hgg.2;have hlk:=fun W (hW:W.heap[mb]? = some (.map #[] 0))=>zWb (w:=W) (.pointer (some ⟨q,p,none⟩)) hW
  have hlk1:=hlk (w.alloc (.cells #[.int .i64 0,.int .i64 0,.bool false] 89)) (yC _ hgg.2);have HG:=Lib.hid hgg;clear hgg hlk
  go_enter Tryz.func99,Tryz.ntmps99
  go_wp2_with fail;obtain⟨H,hH⟩:∃H,w.heap.size=H:=⟨_,rfl⟩;have hsz:szT (x,ks)=1+ks.sz:=rfl;have hdp:dpT (x,ks)=1+ks.dp:=rfl;have hll:=Fr.len_le ks;obtain⟨W3,hW3⟩:∃W3,W3=((w.setCell ⟨gb,0,none⟩ (.int .i64 ((k:Int)+1))).alloc (.cells #[.int .i64 0,.int .i64 0,.bool false] 89)).alloc (.cells #[.int .i64 0,.int .i64 0,.bool false] 89):=⟨_,rfl⟩;have hs0:(w.setCell ⟨gb,0,none⟩ (.int .i64 ((k:Int)+1))).heap.size=H:=by simp[World.setCell,hH]
  have hgg3:Gg W3 gb mb (k+1):=by
   rw[hW3];have h1:=HG.out.store (m:=k+1) hmg (z:=(k:Int)+1) (by omega);exact⟨yC _ (yC _ h1.1),yC _ (yC _ h1.2)⟩
  have hR3:W3.heap[H]? = some (.cells #[.int .i64 0,.int .i64 0,.bool false] 89 (0,0)):=by
   rw[hW3,<- hs0];exact yC _ (heap_alloc_new _ _)
  have hgb3:w.grownBy W3 (some gb):=by rw[hW3];exact fO (fO (fP (nN w _) _ _ (.inr rfl)) _) _
  have hs3:W3.heap.size=H+2:=by rw[hW3];simp;omega
  rw[<- hW3];have HGG3:=Lib.hid hgg3;have cK1:=zZr gb mb (k+1) (.pointer (some ⟨q,p,none⟩)) #[.int .i64 9223372036854775807,.int .i64 9223372036854775807,.bool false] W3 hgg3 (by omega);clear hgg3 hW3;refine cK1.mono ?_;rintro e w1 ⟨rfl,hb1⟩;have hgg1:=HGG3.out.grown hb1;have hR1:=zH hR3 hb1;have hgb1:w.grownBy w1 (some gb):=kV hgb3 (kD hb1 (Nat.le_refl _));have hs1:=hb1.size;rw[hs3] at hs1;have c41:=zHc hgb1 c4 hqg;obtain⟨X,hX⟩:∃X,w1.heap.size=X:=⟨_,rfl⟩;rw[hX] at hs1;have hqX:q<w1.heap.size:=by omega
  obtain⟨N,hN⟩:∃N,ks.len=N:=⟨_,rfl⟩;rw[hN] at c41 hll;have hN1:N<=1000000:=by omega
  have HK:Hid (Kid (w1.alloc (.cells #[.int .i64 1,.int .i64 0,.bool false] 89)) Sq A ks 0):=Lib.hid (hkid.gb hbel hgS (fO hgb1 _));have HGG1:=Lib.hid hgg1;have HR1:=Lib.hid hR1;have HGB1:=Lib.hid hgb1;have HNN:=Lib.hid hN;have HSZ:=Lib.hid hsz;have HDP:=Lib.hid hdp;have HX:=Lib.hid hX;have HH:=Lib.hid hH;have HN0:=Lib.hid hn;have HIH:=Lib.hid ih;have HBEL:=Lib.hid hbel;have HGS:=Lib.hid hgS;clear hlk1 cK1 HGG3 hb1 hgb3 hR3 hgg1 hR1 hgb1 hN hsz hdp hX hkid hin c0 c1 c2 c3 c4 g0 g1 gf hs0 hs3 hH hn ih hbel hgS;go_wp2_with fail;have hXb:(w1.alloc (.cells #[.int .i64 1,.int .i64 0,.bool false] 89)).heap[X]? = some (.cells #[.int .i64 1,.int .i64 0,.bool false] 89 (0,0)):=by rw[<- HX.out];exact heap_alloc_new w1 _
  have HXB:=Lib.hid hXb;rw[HX.out,HH.out];clear hXb
  go_loopw [9,10,42] (fun _ _ i wr=>∃(j:Nat) (done rest:Fr),i = .int .i64 j/\j=done.len/\ks=done.app rest/\Kid wr Sq A rest j/\Gg wr gb mb (k+1+done.sz)/\wr.heap[X]? = some (.cells #[.int .i64 ((1+done.sz:Nat):Int),.int .i64 (done.dp:Int),.bool false] 89 (0,0))/\
   wr.heap[H]? = some (.cells #[.int .i64 0,.int .i64 0,.bool false] 89 (0,0))/\w.grownBy wr (some gb)) (fun _ _ i _=>N-(intOf i).toNat)
  case atStart=>exact⟨0,.nil,ks,rfl,rfl,rfl,HK.out,HGG1.out.grown ((Below.refl _ _).alloc (Nat.le_refl _) _),HXB.out,yC _ HR1.out,fO HGB1.out _⟩
  case round=>
   obtain⟨j,done,rest,rfl,hj,hks,hkid,hgg,hxb,hrb,hgw⟩:=hrel;have hl:N=done.len+rest.len:=by rw[<- HNN.out,hks,Fr.len_app]
   have hs:ks.sz=done.sz+rest.sz:=by rw[hks,Fr.sz_app]
   have hsz:=HSZ.out;have hn:=HN0.out;have hddp:=Fr.dp_le done;have hXr:=qC hxb;have hrw:=hgw.size;have HKS:=Lib.hid hks
   by_cases hlt:0<rest.len
   ·obtain⟨y,l,r,rfl⟩:=Fr.cut hlt
    obtain⟨kb,ko,u,rfl,hkb,hcell,hu,hnext⟩:=hkid.next;have hyl:szT (y,l)=1+l.sz:=rfl;have hyd:dpT (y,l)=1+l.dp:=rfl;have hld:=Fr.dp_le l;have hsr:(Fr.cons y l r).sz=1+l.sz+r.sz:=rfl;have hlr:(Fr.cons y l r).len=r.len+1:=rfl;have hbelr:Bel Sq wr.heap.size:=fun q' h'=>by have:=HBEL.out q' h';omega
    have cI:=HIH.out (y,l) (by omega) (by omega) wr Sq u gb mb (k+1+done.sz) hbelr HGS.out hu hgg hmg (by omega);have HNX:Hid (∀w2,wr.grownBy w2 (some gb)->Kid w2 Sq (some ⟨kb,ko,none⟩) r (j+1)):=Lib.hid fun w2 hw2=>hnext.gb hbelr HGS.out hw2
    have hjz:(j:Int)<(N:Int):=by omega
    obtain⟨Z,hZ⟩:∃Z,szT (y,l)=Z:=⟨_,rfl⟩;obtain⟨D,hD⟩:∃D,dpT (y,l)=D:=⟨_,rfl⟩;obtain⟨S,hS⟩:∃S,1+done.sz=S:=⟨_,rfl⟩;obtain⟨E,hE⟩:∃E,done.dp=E:=⟨_,rfl⟩;rw[hS,hE] at hxb;have hSb:S<=65536/\Z<=65536/\E<=65536/\D<=65536:=by omega
    have HSN:Hid (1+(done.app (.cons y l .nil)).sz=S+Z):=Lib.hid (by rw[Fr.sz_app];simp only[Fr.sz];omega);have HEN:Hid ((done.app (.cons y l .nil)).dp=max E D):=Lib.hid (by rw[Fr.dp_app];simp only[Fr.dp];omega);have HLN:Hid (j+1=(done.app (.cons y l .nil)).len):=Lib.hid (by rw[Fr.len_app];simp only[Fr.len];omega);have HKN:Hid (k+1+done.sz+szT (y,l)=k+1+(done.app (.cons y l .nil)).sz):=Lib.hid (by rw[Fr.sz_app];simp only[Fr.sz];omega);have HZ:=Lib.hid hZ;have HD:=Lib.hid hD;have HRB:=Lib.hid hrb;have HXBR:=Lib.hid hxb;have HGW:=Lib.hid hgw;have hXg:X≠gb:=by have:=HX.out;have:=HGB1.out.size;have:=HH.out;omega
    have hXm:X≠mb:=by have:=HX.out;have:=HGB1.out.size;have:=HH.out;omega
    have HHG:Hid (H≠gb):=Lib.hid (by have:=HH.out;omega);have cS:=fun W=>zUs S Z W (by omega) (by omega)
    have hjN:j<N:=by omega
    clear hkid hnext hu hks hj hl hlr hsr hsz hyl hyd hld hZ hD hE hS hbelr hgg hgw hn hddp hxb hrb hs;go_wp2_with fail;refine cI.mono ?_;rintro e w2 ⟨rfl,hgg2,hgw2⟩;rw[HZ.out,HD.out];have HGG2:=Lib.hid hgg2;have HGW2:=Lib.hid hgw2;have hs2:=hgw2.size;have hx2:X<w2.heap.size:=by omega
    have hxb2:=yT hgw2 HXBR.out hXg;have HXB2:=Lib.hid hxb2;have cx0:=nO hxb2;have cx1:=nP hxb2;have cx2:=nQ hxb2;have fx:=fun i=>frozen_of_row w2 X i _ _ hxb2
    have fx0:=fx 0;have fx1:=fx 1;have fx2:=fx 2;clear hgg2 hgw2 hxb2 fx;go_wp2_with fail;refine(cS _).mono ?_;rintro e w3 ⟨rfl,rfl⟩;go_wp2_with fail
    go_roundw
    case rel=>
     have hmx:max (E:Int) (D:Int)=(if E<D then (D:Int) else (E:Int)):=by split<;>omega
     try rw[hmx]
     clear hmx;have hset:=set3 HXB2.out (.int .i64 ((S:Int)+(Z:Int))) (.int .i64 (if E<D then (D:Int) else (E:Int))) (.bool false);have hgbw:w.grownBy ((((w2.setCell ⟨X,0,none⟩ (.int .i64 ((S:Int)+(Z:Int)))).setCell ⟨X,1,none⟩ (.int .i64 (if E<D then (D:Int) else (E:Int)))).setCell ⟨X,2,none⟩ (.bool false)).alloc (.cells #[.int .i64 (Z:Int),.int .i64 (D:Int),.bool false] 89)) (some gb):=by
      have hX':w.heap.size<=X:=by rw[HH.out];omega
      exact fO (fP (fP (fP (kV HGW.out HGW2.out) _ _ (.inl hX')) _ _ (.inl hX')) _ _ (.inl hX')) _
     refine⟨j+1,done.app (.cons y l .nil),r,by go_num,HLN.out,by rw[HKS.out,Fr.app_cons],?_,?_,?_,?_,hgbw⟩
     ·refine(HNX.out w2 HGW2.out).keep (fun _ h=>h) fun pp hp=>?_
      have hpw:pp<w.heap.size:=HBEL.out _ hp;have h1:=HH.out;rw[Below.heap_alloc _ _ _ (by simp[World.setCell];omega),Below.heap_setCell _ _ _ _ (by simp only;omega),Below.heap_setCell _ _ _ _ (by simp only;omega),Below.heap_setCell _ _ _ _ (by simp only;omega)]
     ·rw[<- HKN.out]
      exact(((HGG2.out.far _ (Ne.symm hXg) (Ne.symm hXm)).far _ (Ne.symm hXg) (Ne.symm hXm)).far _ (Ne.symm hXg) (Ne.symm hXm)).grown ((Below.refl _ _).alloc (Nat.le_refl _) _)
     ·rw[HSN.out,HEN.out]
      have e1:((S+Z:Nat):Int)=(S:Int)+(Z:Int):=by omega
      have e2:((max E D:Nat):Int)=if E<D then (D:Int) else (E:Int):=by split<;>omega
      rw[e1,e2];exact yC _ hset
     ·have hHX:H≠X:=by omega
      exact yC _ (xE _ (xE _ (xE _ (yT HGW2.out HRB.out HHG.out) hHX) hHX) hHX)
    case measure=>simp[intOf];omega
   ·have h0:rest = .nil:=by
     cases rest with
     | nil=>rfl
     | cons y l r=>exact absurd (Nat.succ_pos _) hlt
    subst h0;have hjz:¬(j:Int)<(N:Int):=by have:(Fr.nil).len=0:=rfl;omega
    have hfin:ks=done:=by rw[hks,Fr.app_nil]
    obtain⟨S,hS⟩:∃S,1+done.sz=S:=⟨_,rfl⟩;obtain⟨D,hD⟩:∃D,done.dp=D:=⟨_,rfl⟩;have hsn:(Fr.nil).sz=0:=rfl;have hSb:S<=65536/\D<=65536/\k+S<=65536:=by omega
    rw[hS,hD] at hxb;have HSZ':Hid (szT (x,ks)=S):=Lib.hid (by omega);have HDP':Hid (dpT (x,ks)=D+1):=Lib.hid (by rw[HDP.out,hfin,hD];omega);have HGGR:Hid (Gg wr gb mb (k+S)):=Lib.hid (by rw[<- hS];have e:k+(1+done.sz)=k+1+done.sz:=by omega
                                                                                                                                                                                            rw[e];exact hgg)
    have cx0:=nO hxb;have cx1:=nP hxb;have cx2:=nQ hxb;have fx:=fun i=>frozen_of_row wr X i _ _ hxb
    have fx0:=fx 0;have fx1:=fx 1;have fx2:=fx 2;have HRB:=Lib.hid hrb;have HXBR:=Lib.hid hxb;have HGW:=Lib.hid hgw;have cS:=fun W=>zUs D 1 W (by omega) (by omega)
    clear hkid hks hj hl hsz hS hD hn hddp hxb hrb hs hgg hgw hfin hsn fx;go_wp2_with fail;refine(cS _).mono ?_;rintro e w3 ⟨rfl,rfl⟩;go_wp2_with fail;have hggK:Gg (wr.setCell ⟨X,1,none⟩ (.int .i64 ((D:Int)+1))) gb mb (k+S):=HGGR.out.far _ (by have:=HX.out;have:=HGB1.out.size;have:=HH.out;omega) (by have:=HX.out;have:=HGB1.out.size;have:=HH.out;omega);have hxbK:(wr.setCell ⟨X,1,none⟩ (.int .i64 ((D:Int)+1))).heap[X]? = some (.cells #[.int .i64 (S:Int),.int .i64 ((D:Int)+1),.bool false] 89 (0,0)):=by
     rw[jB _ HXBR.out]
     rfl
    have hrbK:(wr.setCell ⟨X,1,none⟩ (.int .i64 ((D:Int)+1))).heap[H]? = some (.cells #[.int .i64 0,.int .i64 0,.bool false] 89 (0,0)):=xE _ HRB.out (by simp only;omega);have hgwK:w.grownBy (wr.setCell ⟨X,1,none⟩ (.int .i64 ((D:Int)+1))) (some gb):=fP HGW.out _ _ (.inl (by rw[HH.out];simp only;omega));have cK:=zZr gb mb (k+S) (.pointer (some ⟨q,p,none⟩)) #[.int .i64 (S:Int),.int .i64 ((D:Int)+1),.bool false] _ hggK (by omega);have HGGK:=Lib.hid hggK;have HXBK:=Lib.hid hxbK;have HRBK:=Lib.hid hrbK;have HGWK:=Lib.hid hgwK;clear hggK hxbK hrbK hgwK;refine cK.mono ?_;rintro e w5 ⟨rfl,hb5⟩;have HB5:=Lib.hid hb5;have hxb5:=zH HXBK.out hb5;have hrb5:=zH HRBK.out hb5;have dx0:=nO hxb5;have dx1:=nP hxb5;have dx2:=nQ hxb5;have dr0:=nO hrb5;have dr1:=nP hrb5;have dr2:=nQ hrb5;have gx:=fun i=>frozen_of_row w5 H i _ _ hrb5
    have gx0:=gx 0;have gx1:=gx 1;have gx2:=gx 2;have hHX:H<X:=by omega
    clear cK cx0 cx1 cx2 fx0 fx1 fx2 hb5 hxb5 hrb5 gx;go_wp2_with fail;have hgwF:w.grownBy (((w5.setCell ⟨H,0,none⟩ (.int .i64 (S:Int))).setCell ⟨H,1,none⟩ (.int .i64 ((D:Int)+1))).setCell ⟨H,2,none⟩ (.bool false)) (some gb):=by
     have hX':w.heap.size<=H:=by rw[HH.out];omega
     exact fP (fP (fP (kV HGWK.out (kD HB5.out (Nat.le_refl _))) _ _ (.inl hX')) _ _ (.inl hX')) _ _ (.inl hX')
    have hHg:gb≠H:=by have:=HH.out;omega
    have hHm:mb≠H:=by have:=HH.out;omega
    have hggF:=(((HGGK.out.grown HB5.out).far (b:=H) (i:=0) (.int .i64 (S:Int)) hHg hHm).far (b:=H) (i:=1) (.int .i64 ((D:Int)+1)) hHg hHm).far (b:=H) (i:=2) (.bool false) hHg hHm;exact bodyPost_ret (v:=.agg #[.int .i64 (S:Int),.int .i64 ((D:Int)+1),.bool false]) (by simp[results,Tryz.results99,go_sem,dr0,dr1,dr2]) rfl ⟨by rw[HSZ'.out,HDP'.out];rfl,by rw[HSZ'.out];exact hggF,hgwF⟩
theorem zD8 (gb:Nat) (w:World) :
  Calls Tryz.prog 99 #[.pointer (some ⟨gb,0,none⟩),.pointer none] w fun e w'=>e = .returned (.agg #[.int .i64 0,.int .i64 0,.bool true])/\Below w.heap.size w w':=by
 go_enter Tryz.func99,Tryz.ntmps99
 go_wp2_with fail;exact bodyPost_ret (v:=.agg #[.int .i64 0,.int .i64 0,.bool true]) (by simp[results,Tryz.results99,go_sem]) rfl ⟨rfl,((Below.refl _ _).alloc (Nat.le_refl _) _)⟩
def zD9 (s d:Nat) (g:Bool) (w:World) (e:Ending) (w':World):Prop:=e = .returned (.agg #[.int .i64 (s:Int),.int .i64 (d:Int),.bool g])/\Below w.heap.size w w'
def zNo (n:Nat) (w:World) (e:Ending) (w':World):Prop:=e = .returned (.int .i64 (n:Int))/\Below w.heap.size w w'
theorem jU (o:Option Tr) (w:World) (Sq:Nat->Prop) (v:Value) (hbel:Bel Sq w.heap.size) (hin:InO w Sq v o) (hsz:szO o<=65536) :
  Calls Tryz.prog 58 #[v] w (zD9 (szO o) (dpO o) (o.isNone) w):=by
 have hmm:=@run_makeMap Tryz.prog;have three:=nJ w (.cells #[.int .i64 0,.int .i64 0,.bool false] 89) (.map #[] 0) (.cells #[.int .i64 0,.map (some (w.heap.size+1))] 118) rfl;obtain⟨H,hH⟩:∃H,w.heap.size=H:=⟨_,rfl⟩;rw[hH] at three hbel;have HT:=Lib.hid three;have HH:=Lib.hid hH;clear three;obtain⟨S,hS⟩:∃S,szO o=S:=⟨_,rfl⟩;obtain⟨D,hD⟩:∃D,dpO o=D:=⟨_,rfl⟩;obtain⟨G,hG⟩:∃G,o.isNone=G:=⟨_,rfl⟩;have HS:=Lib.hid hS;have HD:=Lib.hid hD;have HG:=Lib.hid hG;have HBEL:=Lib.hid hbel;have HIN:=Lib.hid hin;rw[hS,hD,hG];clear hH hbel hin hS hD hG
 go_enter Tryz.func58,Tryz.ntmps58
 go_wp2_with fail;rw[HH.out];obtain⟨W,hW⟩:∃W,W=((w.alloc (.cells #[.int .i64 0,.int .i64 0,.bool false] 89)).alloc (.map #[] 0)).alloc (.cells #[.int .i64 0,.map (some (H+1))] 118):=⟨_,rfl⟩;have ht:=HT.out;rw[<- hW] at ht ⊢;obtain⟨t1,t2,t3,hb1,hs1⟩:=ht;have hgg:Gg W (H+2) (H+1) 0:=⟨t3,t2⟩;have key:Calls Tryz.prog 99 #[.pointer (some ⟨H+1+1,0,none⟩),v] W fun e w'=>e = .returned (.agg #[.int .i64 (S:Int),.int .i64 (D:Int),.bool G])/\W.grownBy w' (some (H+2)):=by
  rw[<- HS.out,<- HD.out,<- HG.out]
  cases o with
  | none=>
   have hv:v = .pointer none:=HIN.out;subst hv;refine(zD8 (H+2) W).mono ?_;rintro e w' ⟨rfl,hb⟩;exact⟨rfl,kD hb (Nat.le_refl _)⟩
  | some t=>
   refine(zNn (szT t) t (Nat.le_refl _) hsz W Sq v (H+2) (H+1) 0 (fun q h=>by have:=HBEL.out q h;omega) (fun h=>by have:=HBEL.out _ h;omega) (InT.below HIN.out HBEL.out hb1) hgg (by omega) (by have:szO (some t)=szT t:=rfl;omega)).mono ?_;rintro e w' ⟨rfl,_,hb⟩;exact⟨rfl,hb⟩
 have HT1:=Lib.hid t1;have HB1:=Lib.hid hb1;have HHs:=Lib.hid hs1;clear t1 t2 t3 hgg hW hb1 hs1 HT;refine key.mono ?_;rintro e w1 ⟨rfl,hg1⟩;have hr1:=yT hg1 HT1.out (by omega);have dr0:=nO hr1;have dr1:=nP hr1;have dr2:=nQ hr1;have gx:=fun i=>frozen_of_row w1 H i _ _ hr1
 have gx0:=gx 0;have gx1:=gx 1;have gx2:=gx 2;have HG1:=Lib.hid hg1;clear key hr1 gx hg1;go_wp2_with fail;have hbF:Below H w (((w1.setCell ⟨H,0,none⟩ (.int .i64 (S:Int))).setCell ⟨H,1,none⟩ (.int .i64 (D:Int))).setCell ⟨H,2,none⟩ (.bool G)):=
  (((zHb HB1.out HG1.out (by have:=HHs.out;omega) (fun g hg=>by injection hg with hg;omega)).setCell (Nat.le_refl _) _).setCell (Nat.le_refl _) _).setCell (Nat.le_refl _) _
 exact bodyPost_ret (v:=.agg #[.int .i64 (S:Int),.int .i64 (D:Int),.bool G]) (by simp[results,Tryz.results58,go_sem,dr0,dr1,dr2]) rfl ⟨rfl,by rw[HH.out];exact hbF⟩
theorem zDa (a b g:Value) (w:World):(Instr.field 89 (.agg #[a,b,g]) 0).run Tryz.prog w=(.ok a w:Result Value):=by kernel_rfl
theorem zDb (a b g:Value) (w:World):(Instr.field 89 (.agg #[a,b,g]) 1).run Tryz.prog w=(.ok b w:Result Value):=by kernel_rfl
theorem zDc (o:Option Tr) (w:World) (Sq:Nat->Prop) (v:Value) (hbel:Bel Sq w.heap.size) (hin:InO w Sq v o) (hsz:szO o<=65536) :
  Calls Tryz.prog 33 #[v] w (zNo (szO o) w):=by
 have cM:=jU o w Sq v hbel hin hsz;obtain⟨S,hS⟩:∃S,szO o=S:=⟨_,rfl⟩;obtain⟨D,hD⟩:∃D,dpO o=D:=⟨_,rfl⟩;obtain⟨G,hG⟩:∃G,o.isNone=G:=⟨_,rfl⟩;rw[hS,hD,hG] at cM;rw[hS];clear hbel hin hS hD hG
 go_enter Tryz.func33,Tryz.ntmps33
 go_wp2_with fail;refine cM.mono ?_;rintro e w1 ⟨rfl,hb⟩;have hf:=zDa (.int .i64 (S:Int)) (.int .i64 (D:Int)) (.bool G) w1;go_wp2_with fail
 go_ret
 exact⟨rfl,hb⟩
theorem zDd (o:Option Tr) (w:World) (Sq:Nat->Prop) (v:Value) (hbel:Bel Sq w.heap.size) (hin:InO w Sq v o) (hsz:szO o<=65536) :
  Calls Tryz.prog 34 #[v] w (zNo (dpO o) w):=by
 have cM:=jU o w Sq v hbel hin hsz;obtain⟨S,hS⟩:∃S,szO o=S:=⟨_,rfl⟩;obtain⟨D,hD⟩:∃D,dpO o=D:=⟨_,rfl⟩;obtain⟨G,hG⟩:∃G,o.isNone=G:=⟨_,rfl⟩;rw[hS,hD,hG] at cM;rw[hD];clear hbel hin hS hD hG
 go_enter Tryz.func34,Tryz.ntmps34
 go_wp2_with fail;refine cM.mono ?_;rintro e w1 ⟨rfl,hb⟩;have hf:=zDb (.int .i64 (S:Int)) (.int .i64 (D:Int)) (.bool G) w1;go_wp2_with fail
 go_ret
 exact⟨rfl,hb⟩
end Go.Proofs.YtgeghilbikljcaaGreatDoor
