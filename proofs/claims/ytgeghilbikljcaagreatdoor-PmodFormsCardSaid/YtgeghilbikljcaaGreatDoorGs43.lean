/-
  Layer 5: the program's isArm, isProg, the check of what lies in a structure; then all its checks, of every tree.
-/
import Derived.Test.YtgeghilbikljcaaGreatDoorGs29
import Derived.Test.YtgeghilbikljcaaGreatDoorGs31
import Derived.Test.YtgeghilbikljcaaGreatDoorGs42
set_option maxHeartbeats 40000000
set_option maxRecDepth 100000
namespace Go.Proofs.YtgeghilbikljcaaGreatDoor
open Go.RowKit
theorem zBi:∀r∈RWS,r.cat=9->r.kind=34:=by decide
theorem zPo (x:Nod) (f:Fr) (hn:Nd1 x f):TelAt 147 (isT B.nck B.long (x,f) 9) (x,f):=fun w v hx hv=>by
 by_cases hk:x.k=34
 ·have HE:Hid (isT B.nck B.long (x,f) 9=(texB x B.nck B.nck&&seqK (IF f) [2])):=Lib.hid (by show isX _ _ x (IF f) 9=_;rw[qL hk (by rfl),yE (A:=B.nck) (M:=B.nck) (fun _=>rfl) (fun _=>rfl),zO _ _ (by rfl)];rfl)
  rw[HE.out];obtain⟨q,p,A,c',rfl,hq,c0,c1,c2,c3,c4,hcc,hkid⟩:=InT.open hv;rw[hk] at c0;have cH:=aD x f w _ hv hn.hs.1 hn.hs.2.1;have cT:∀w1,Up w w1->Calls Tryz.prog 102 #[.pointer (some ⟨q,p,none⟩),.slice (some ⟨w1.heap.size,0,none⟩) 1 1] (w1.alloc (.cells #[.func (.func 106) #[] #[]] 91)) (TelB (seqK (IF f) [2]) (w1.alloc (.cells #[.func (.func 106) #[] #[]] 91))):=fun w1 u=>qK [2] x f _ _ _ _ (Nx.up hx (u.alloc _)) (hv.up (u.alloc _)) hn.hf (by decide) (zJ (fnsC [2]) (heap_alloc_new w1 _)) (qQ hn (by decide))
  obtain⟨hb,hhb⟩:∃hb,texB x B.nck B.nck=hb:=⟨_,rfl⟩;obtain⟨tb,htb⟩:∃tb,seqK (IF f) [2]=tb:=⟨_,rfl⟩;rw[hhb,htb];rw[hhb] at cH;rw[htb] at cT;clear HE hhb htb hv hk hn hx hq c1 c2 c3 c4 hcc hkid
  cases hb
  ·go_enter Tryz.func147,Tryz.ntmps147
   go_wp2_with fail;refine cH.mono ?_;rintro e w1 ⟨rfl,u1⟩;go_wp2_with fail
   go_ret
   exact qD rfl u1
  ·go_enter Tryz.func147,Tryz.ntmps147
   go_wp2_with fail;refine cH.mono ?_;rintro e w1 ⟨rfl,u1⟩;go_wp2_with fail;refine(cT w1 u1).mono ?_;rintro e w2 ⟨rfl,u2⟩;go_wp2_with fail
   go_ret
   exact qD (by cases tb<;>rfl) (Up.trans (u1.alloc _) u2)
 ·have HE:Hid (isT B.nck B.long (x,f) 9=false):=Lib.hid (jZ fun r hr hc e=>hk (by rw[<- e];exact zBi r hr hc))
  rw[HE.out];obtain⟨q,p,A,c',rfl,hq,c0,c1,c2,c3,c4,hcc,hkid⟩:=InT.open hv;clear hv HE hq c1 c2 c3 c4 hcc hkid
  go_enter Tryz.func147,Tryz.ntmps147
  go_wp2_with fail
  go_ret
  exact qD rfl (Up.refl _)
theorem zFw (x:Nod) (f:Fr) (h6:TelAt 62 (isT B.nck B.long (x,f) 6) (x,f)):TelAt 149 (inM (IT (x,f))) (x,f):=fun w v hx hv=>by
 obtain⟨b,hb⟩:∃b,isT B.nck B.long (x,f) 6=b:=⟨_,rfl⟩;have HE:Hid (inM (IT (x,f))=(!decide (x.k=74) && !decide (x.k=75)&&b)):=Lib.hid (by rw[<- hb];rfl);rw[HE.out];have cT:=h6 w v hx hv;rw[hb] at cT;obtain⟨q,p,A,c',rfl,hq,c0,c1,c2,c3,c4,hcc,hkid⟩:=InT.open hv;clear hv HE hq c1 c2 c3 c4 hcc hkid h6 hb hx
 by_cases n1:x.k=74
 ·rw[n1] at c0 ⊢
  go_enter Tryz.func149,Tryz.ntmps149
  go_wp2_with fail
  go_ret
  exact qD rfl (Up.refl _)
 ·by_cases n2:x.k=75
  ·rw[n2] at c0 ⊢
   go_enter Tryz.func149,Tryz.ntmps149
   go_wp2_with fail
   go_ret
   exact qD rfl (Up.refl _)
  ·have HE:Hid ((!decide (x.k=74) && !decide (x.k=75)&&b)=b):=Lib.hid (by rw[decide_eq_false n1,decide_eq_false n2];rfl)
   rw[HE.out]
   go_enter Tryz.func149,Tryz.ntmps149
   go_wp2_with fail;refine cT.mono ?_;rintro e w1 ⟨rfl,u1⟩;go_wp2_with fail
   go_ret
   exact qD (by simp[n1,n2]) u1
theorem zBj:∀r∈RWS,r.cat=7->r.kind=80:=by decide
theorem zVw (x:Nod) (f:Fr) (hn:Nd1 x f):TelAt 36 (isT B.nck B.long (x,f) 7) (x,f):=fun w v hx hv=>by
 by_cases hk:x.k=80
 ·have HE:Hid (isT B.nck B.long (x,f) 7=(numB x 0 0&&rowB [] 0 (fun i=>i.is 6) (IF f))):=Lib.hid (by show isX _ _ x (IF f) 7=_;rw[qL hk (by rfl),yP,zJb])
  rw[HE.out];obtain⟨q,p,A,c',rfl,hq,c0,c1,c2,c3,c4,hcc,hkid⟩:=InT.open hv;rw[hk] at c0;have cH:=zN x f w _ hv;have cT:∀w1,Up w w1->Calls Tryz.prog 61 #[.pointer (some ⟨q,p,none⟩),.int .i64 0,.func (.func 62) #[] #[],.slice none 0 0] w1 (TelB (rowB [] 0 (fun i=>i.is 6) (IF f)) w1):=fun w1 u=>pS [] 0 62 (fun i=>i.is 6) x f w1 _ none 0 (fun _ _=>by kernel_rfl) (by omega) (Nx.up hx u) (hv.up u) hn.hf (by decide) (.inl ⟨rfl,rfl⟩) (fun _ _ _ _ h=>by cases h) (fun i t h=>(hn.ih i t h).a6)
  obtain⟨hb,hhb⟩:∃hb,numB x 0 0=hb:=⟨_,rfl⟩;obtain⟨tb,htb⟩:∃tb,rowB [] 0 (fun i=>i.is 6) (IF f)=tb:=⟨_,rfl⟩;rw[hhb,htb];rw[hhb] at cH;rw[htb] at cT;clear HE hhb htb hv hk hn hx hq c1 c2 c3 c4 hcc hkid
  cases hb
  ·go_enter Tryz.func36,Tryz.ntmps36
   go_wp2_with fail;refine cH.mono ?_;rintro e w1 ⟨rfl,u1⟩;go_wp2_with fail
   go_ret
   exact qD rfl u1
  ·go_enter Tryz.func36,Tryz.ntmps36
   go_wp2_with fail;refine cH.mono ?_;rintro e w1 ⟨rfl,u1⟩;go_wp2_with fail;refine(cT w1 u1).mono ?_;rintro e w2 ⟨rfl,u2⟩;go_wp2_with fail
   go_ret
   exact qD (by cases tb<;>rfl) (Up.trans u1 u2)
 ·have HE:Hid (isT B.nck B.long (x,f) 7=false):=Lib.hid (jZ fun r hr hc e=>hk (by rw[<- e];exact zBj r hr hc))
  rw[HE.out];obtain⟨q,p,A,c',rfl,hq,c0,c1,c2,c3,c4,hcc,hkid⟩:=InT.open hv;clear hv HE hq c1 c2 c3 c4 hcc hkid
  go_enter Tryz.func36,Tryz.ntmps36
  go_wp2_with fail
  go_ret
  exact qD rfl (Up.refl _)
theorem zJq:∀(n:Nat) (t:Tr),szT t<=n->n<=60000->okST t->Good t/\Nd1 t.1 t.2
 | 0,t,h,_,_=>absurd h (by unfold szT;omega)
 | n+1,(x,f),h,hb,hs=>by
  have h1:szT (x,f)=1+f.sz:=rfl;have h2:=Fr.len_le f;have hn:Nd1 x f:=⟨hs,by omega,fun i t hi=>(zJq n t (by have:=Fr.get_sz hi;omega) (by omega) (uV hs.2.2 hi)).1⟩;have a6:=zVv x f hn;exact⟨⟨zVo x f hn,zVp x f hn,zP8 x f hn,zP9 x f hn,zVu x f hn,a6,zPo x f hn,zFw x f a6,hn.hf,fun j s hj=>(hn.ih j s hj).a1⟩,hn⟩
def Sb (B:Nat) (X:Nat->Prop) (w:World) (v:Value) (q:Nat):Prop:=B<=q/\q<w.heap.size/\v.ownBlock≠some q/\¬X q
def PkSt (w:World) (lb cb B:Nat) (X:Nat->Prop) (vo:Value) (cs:List Cel):Prop:=
 w.heap[lb]? = some (.cells #[.func (.func 100) #[] #[.pointer (some ⟨lb,0,none⟩),.pointer (some ⟨cb,0,none⟩)]] 63 (0,0))/\w.heap[cb]? = some (.cells #[vo] 92 (0,0))/\
  (vo.ownBlock≠some lb/\vo.ownBlock≠some cb)/\∃vs,w.ownsRow B 121 5 vo cs.length (flat cs vs)/\CsF w (Sb B X w vo) vs cs
def PkEnd (w w':World) (cb:Nat) (vo vo':Value):Prop:=
 w'.os=w.os/\w'.tape=w.tape/\w'.output=w.output/\w.heap.size<=w'.heap.size/\(∀b,b<w.heap.size->b≠cb->vo.ownBlock≠some b->w'.heap[b]? = w.heap[b]?)/\(vo'.ownBlock=vo.ownBlock\/∀g,vo'.ownBlock=some g->w.heap.size<=g)
def zBk (t:Tr) (lb cb B:Nat) (X:Nat->Prop) (vo:Value) (cs:List Cel) (w:World) (e:Ending) (w':World):Prop:=
 e = .returned (.int .i64 ((cs.length+t.2.sz:Nat):Int))/\∃vo',PkSt w' lb cb B X vo' (cs++celT t cs.length)/\PkEnd w w' cb vo vo'
theorem PkEnd.refl (w:World) (cb:Nat) (vo:Value):PkEnd w w cb vo vo:=⟨rfl,rfl,rfl,Nat.le_refl _,fun _ _ _ _=>rfl,.inl rfl⟩
theorem PkEnd.trans {a b c:World} {cb:Nat} {u v x:Value} (h:PkEnd a b cb u v) (k:PkEnd b c cb v x):PkEnd a c cb u x:=by
 obtain⟨h1,h2,h3,h4,h5,h6⟩:=h;obtain⟨k1,k2,k3,k4,k5,k6⟩:=k;refine⟨k1.trans h1,k2.trans h2,k3.trans h3,Nat.le_trans h4 k4,fun i hi hc hv=>?_,?_⟩
 ·refine(k5 i (by omega) hc ?_).trans (h5 i hi hc hv)
  rcases h6 with h | h
  ·rw[h];exact hv
  ·intro e;have:=h i e;omega
 ·rcases k6 with k | k
  ·rw[k]
   exact h6
  ·exact .inr fun g hg=>by have:=k g hg;omega
theorem PkEnd.below {a b c:World} {cb:Nat} {u v:Value} (h:PkEnd a b cb u v) (k:Below b.heap.size b c):PkEnd a c cb u v:=h.trans ⟨k.os,k.tape,k.output,k.size,fun i hi _ _=>k.block i hi,.inl rfl⟩
def Xc (X:Nat->Prop) (C:Nat) (vk:Value) (q:Nat):Prop:=X q\/q=C\/vk.ownBlock=some q
def LaRel (w:World) (lb cb B C:Nat) (X:Nat->Prop) (vo0 vo vk:Value) (x:Nod) (CS:List Cel) (RS:List Int) (wr:World):Prop:=
 PkSt wr lb cb B (Xc X C vk) vo CS/\wr.ownsRow (C+1) 3 1 vk RS.length (ints RS)/\wr.heap[C]? = some (.cells #[.int .i64 x.k,.int .i64 x.n,.string x.a,.string x.m,vk] 121 (0,0))/\PkEnd w wr cb vo0 vo/\
  (∀g,vo.ownBlock=some g->g≠C/\vk.ownBlock≠some g)
theorem LaRel.step {w wr w2 w6:World} {lb cb B C:Nat} {X:Nat->Prop} {vo0 vo vo2 vk v6:Value} {x:Nod} {CS CS2:List Cel} {RS:List Int} {z:Int} {ob:Obj} (hC:w.heap.size=C) (hlc:lb<C/\cb<C/\B<=C)
  (h:LaRel w lb cb B C X vo0 vo vk x CS RS wr) (h2:PkSt w2 lb cb B (Xc X C vk) vo2 CS2) (he:PkEnd wr w2 cb vo vo2)
  (ho6:w6.ownsRow (C+1) 3 1 v6 (RS.length+1) (ints RS++[.int .i64 z])) (hg6:(w2.alloc ob).grownBy w6 vk.ownBlock) (hat6:v6.ownBlock=vk.ownBlock\/v6.ownBlock=some (w2.heap.size+1)) :
  LaRel w lb cb B C X vo0 vo2 v6 x CS2 (RS++[z]) (w6.setCell ⟨C,4,none⟩ v6)/\(∀b,b<wr.heap.size->b≠cb->vo.ownBlock≠some b->b≠C->vk.ownBlock≠some b->(w6.setCell ⟨C,4,none⟩ v6).heap[b]? = wr.heap[b]?):=by
 obtain⟨⟨_,_,_,vs,ho,hf⟩,hk,hc,hend,hap⟩:=h;obtain⟨g1,g2,g3,vs2,ho2,hf2⟩:=h2;obtain⟨e1,e2,e3,hs2,hst,hvo⟩:=he;have hCr:=qC hc;have hkl:=hk.lt;have h6l:=ho6.lt;have hol2:=ho2.lt;have hsa:(w2.alloc ob).heap.size=w2.heap.size+1:=by simp
 have hs6:=hg6.size;have hsz7:(w6.setCell ⟨C,4,none⟩ v6).heap.size=w6.heap.size:=by simp[World.setCell]
 have hw:w.heap.size<=wr.heap.size:=hend.2.2.2.1;have hap2:∀g,vo2.ownBlock=some g->g≠C/\vk.ownBlock≠some g:=by
  intro g hg
  rcases hvo with h | h
  ·exact hap g (by rw[<- h];exact hg)
  ·have h1:=h g hg
   exact⟨by omega,fun e=>by have:=(hkl g e).2;omega⟩
 have hcC:cb≠C:=by omega
 have hlC:lb≠C:=by omega
 have hck:vk.ownBlock≠some cb:=fun e=>by have:=(hkl cb e).1;omega
 have hlk:vk.ownBlock≠some lb:=fun e=>by have:=(hkl lb e).1;omega
 have h67:∀b,b<w2.heap.size->b≠C->vk.ownBlock≠some b->(w6.setCell ⟨C,4,none⟩ v6).heap[b]? = w2.heap[b]?:=by
  intro b h1 h2 h3;rw[Below.heap_setCell _ _ _ _ h2,hg6.block b (by omega) (fun e=>h3 e.symm),Below.heap_alloc _ _ _ h1]
 have hC2:w2.heap[C]? = some (.cells #[.int .i64 x.k,.int .i64 x.n,.string x.a,.string x.m,vk] 121 (0,0)):=(hst C hCr (by omega) (fun e=>(hap C e).1 rfl)).trans hc;have hC6:w6.heap[C]? = some (.cells #[.int .i64 x.k,.int .i64 x.n,.string x.a,.string x.m,vk] 121 (0,0)):=by
  rw[hg6.block C (by omega) (fun e=>by have:=(hkl C e.symm).1;omega),Below.heap_alloc _ _ _ (by omega)];exact hC2
 refine⟨⟨⟨?_,?_,g3,vs2,?_,?_⟩,?_,?_,?_,?_⟩,?_⟩
 ·rw[h67 lb (qC g1) hlC hlk];exact g1
 ·rw[h67 cb (qC g2) hcC hck];exact g2
 ·have h1:w6.ownsRow B 121 5 vo2 CS2.length (flat CS2 vs2):=(ho2.alloc ob).kept hg6 (by
   cases hv:vo2.ownBlock with
   | none=>exact .inl rfl
   | some g=>exact .inr fun e=>(hap2 g hv).2 e.symm)
  exact yF h1 _ _ fun g hg=>(hap2 g hg).1
 ·refine hf2.keep (fun q hq=>?_) fun b hb=>?_
  ·obtain⟨q1,q2,q3,q4⟩:=hq
   refine⟨q1,by omega,q3,fun hx=>q4 ?_⟩
   rcases hx with hx | hx | hx
   ·exact .inl hx
   ·exact .inr (.inl hx)
   ·rcases hat6 with h | h
    ·exact .inr (.inr (by rw[<- h];exact hx))
    ·rw[h] at hx;injection hx with hx;omega
  ·obtain⟨q1,q2,q3,q4⟩:=hb
   exact h67 b q2 (fun e=>q4 (.inr (.inl e))) (fun e=>q4 (.inr (.inr e)))
 ·rw[zQp,List.length_append]
  exact yF ho6 _ _ fun g hg=>by have:=(h6l g hg).1;simp only;omega
 ·rw[jB _ hC6];rfl
 ·obtain⟨d1,d2,d3,d4,d5,d6⟩:=hend
  have hend2:PkEnd w w2 cb vo0 vo2:=PkEnd.trans ⟨d1,d2,d3,d4,d5,d6⟩ ⟨e1,e2,e3,hs2,hst,hvo⟩;obtain⟨m1,m2,m3,m4,m5,m6⟩:=hend2;refine⟨(show w6.os=_ from hg6.os.trans m1),(show w6.tape=_ from hg6.tape.trans m2),(show w6.output=_ from hg6.output.trans m3),by omega,fun b hb hbc hbv=>?_,m6⟩;rw[h67 b (by omega) (by omega) (fun e=>by have:=(hkl b e).1;omega)];exact m5 b hb hbc hbv
 ·intro g hg
  refine⟨(hap2 g hg).1,?_⟩
  rcases hat6 with h | h
  ·rw[h];exact(hap2 g hg).2
  ·rw[h];intro e;injection e with e;have:=(hol2 g hg).2;omega
 ·intro b hb hbc hbv hbC hbk
  rw[h67 b (by omega) hbC hbk];exact hst b hb hbc hbv
theorem LaRel.end {w wr w4:World} {lb cb B C:Nat} {X:Nat->Prop} {vo0 vo vk v4:Value} {x:Nod} {CS:List Cel} {RS:List Int} {ob:Obj} {vs:List Value} (hC:w.heap.size=C) (hlc:lb<C/\cb<C/\B<=C) (hX:∀q,X q->q<C) (hXc:X cb) (hne:lb≠cb) (hvo:vo.ownBlock≠some lb/\vo.ownBlock≠some cb)
  (g1:wr.heap[lb]? = some (.cells #[.func (.func 100) #[] #[.pointer (some ⟨lb,0,none⟩),.pointer (some ⟨cb,0,none⟩)]] 63 (0,0))) (g2:wr.heap[cb]? = some (.cells #[vo] 92 (0,0)))
  (hf:CsF wr (Sb B (Xc X C vk) wr vo) vs CS)
  (hk:wr.ownsRow (C+1) 3 1 vk RS.length (ints RS)) (hend:PkEnd w wr cb vo0 vo) (hap:∀g,vo.ownBlock=some g->g≠C/\vk.ownBlock≠some g)
  (ho4:w4.ownsRow B 121 5 v4 (CS.length+1) (flat CS vs++[.int .i64 x.k,.int .i64 x.n,.string x.a,.string x.m,vk])) (hg4:(wr.alloc ob).grownBy w4 vo.ownBlock) (hat4:v4.ownBlock=vo.ownBlock\/v4.ownBlock=some (wr.heap.size+1)) :
  PkSt (w4.setCell ⟨cb,0,none⟩ v4) lb cb B X v4 (CS++[⟨x,RS⟩])/\PkEnd w (w4.setCell ⟨cb,0,none⟩ v4) cb vo0 v4:=by
 have hkl:=hk.lt;have h4l:=ho4.lt;have hsa:(wr.alloc ob).heap.size=wr.heap.size+1:=by simp
 have hs4:=hg4.size;have hsz7:(w4.setCell ⟨cb,0,none⟩ v4).heap.size=w4.heap.size:=by simp[World.setCell]
 have hw:w.heap.size<=wr.heap.size:=hend.2.2.2.1;have hst:∀b,b<wr.heap.size->b≠cb->vo.ownBlock≠some b->(w4.setCell ⟨cb,0,none⟩ v4).heap[b]? = wr.heap[b]?:=by
  intro b h1 h2 h3;rw[Below.heap_setCell _ _ _ _ h2,hg4.block b (by omega) (fun e=>h3 e.symm),Below.heap_alloc _ _ _ h1]
 obtain⟨hvl,hvc⟩:=hvo;have hlr:=qC g1;have hcr:=qC g2;have hc4:w4.heap[cb]? = some (.cells #[vo] 92 (0,0)):=by
  rw[hg4.block cb (by have:=qC g2;omega) (fun e=>hvc e.symm),Below.heap_alloc _ _ _ (qC g2)];exact g2
 have hS:∀q,B<=q->q<wr.heap.size->vo.ownBlock≠some q->¬X q->Sb B X (w4.setCell ⟨cb,0,none⟩ v4) v4 q:=by
  intro q h1 h2 h3 h4;refine⟨h1,by omega,?_,h4⟩
  rcases hat4 with h | h
  ·rw[h];exact h3
  ·rw[h];intro e;injection e with e;omega
 refine⟨⟨?_,?_,?_,vs++[vk],?_,?_⟩,?_⟩
 ·rw[hst lb (qC g1) hne hvl];exact g1
 ·rw[jB _ hc4];rfl
 ·rcases hat4 with h | h
  ·rw[h];exact⟨hvl,hvc⟩
  ·rw[h]
   exact⟨fun e=>by injection e with e;omega,fun e=>by injection e with e;omega⟩
 ·have h4c:v4.ownBlock≠some cb:=by
   rcases hat4 with h | h
   ·rw[h];exact hvc
   ·rw[h];intro e;injection e with e;omega
  rw[zX1 _ _ hf.len,List.length_append];exact yF ho4 _ _ fun g hg=>fun e=>h4c (by rw[hg,e])
 ·refine CsF.app (hf.keep (fun q hq=>hS q hq.1 hq.2.1 hq.2.2.1 fun hx=>hq.2.2.2 (.inl hx)) fun b hb=>hst b hb.2.1 (fun e=>hb.2.2.2 (.inl (by rw[e];exact hXc))) hb.2.2.1) ⟨?_,trivial⟩
  refine(SpS.own (S:=fun q'=>vk.ownBlock=some q') hk fun g hg=>hg).keep (fun q' h=>hS q' (by have:=(hkl q' h).1;omega) (hkl q' h).2 (fun e=>(hap q' e).2 h) fun hx=>by have:=(hkl q' h).1;have:=hX q' hx;omega) fun b h=>hst b (hkl b h).2 (by have:=(hkl b h).1;omega) fun e=>(hap b e).2 h
 ·obtain⟨m1,m2,m3,m4,m5,m6⟩:=hend
  refine⟨(show w4.os=_ from hg4.os.trans m1),(show w4.tape=_ from hg4.tape.trans m2),(show w4.output=_ from hg4.output.trans m3),by omega,fun b hb hbc hbv=>?_,?_⟩
  ·rw[hst b (by omega) hbc ?_]
   ·exact m5 b hb hbc hbv
   ·rcases m6 with h | h
    ·rw[h];exact hbv
    ·intro e;have:=h b e;omega
  ·rcases hat4 with h | h
   ·rw[h];exact m6
   ·exact .inr fun g hg=>by rw[h] at hg;injection hg with hg;omega
theorem PkSt.below {w w':World} {lb cb B:Nat} {X:Nat->Prop} {vo:Value} {cs:List Cel} (h:PkSt w lb cb B X vo cs) (hb:Below w.heap.size w w'):PkSt w' lb cb B X vo cs:=by
 obtain⟨h1,h2,h3,vs,ho,hf⟩:=h;have hs:=hb.size;exact⟨zH h1 hb,zH h2 hb,h3,vs,xC ho hb,hf.keep (fun q hq=>⟨hq.1,by have:=hq.2.1;omega,hq.2.2⟩) fun b hb'=>hb.block b hb'.2.1⟩
theorem PkSt.more {w:World} {lb cb B:Nat} {X X':Nat->Prop} {vo:Value} {cs:List Cel} (h:PkSt w lb cb B X vo cs) (hX:∀q,q<w.heap.size->X' q->X q):PkSt w lb cb B X' vo cs:=by
 obtain⟨h1,h2,h3,vs,ho,hf⟩:=h;exact⟨h1,h2,h3,vs,ho,hf.keep (fun q hq=>⟨hq.1,hq.2.1,hq.2.2.1,fun hx=>hq.2.2.2 (hX q hq.2.1 hx)⟩) fun _ _=>rfl⟩
theorem zBl {w w2:World} {cb B s n:Nat} {e:TypeId} {vo vo2 v:Value} {xs:List Value} (he:PkEnd w w2 cb vo vo2) (h:w.ownsRow B e s v n xs) (hne:v.ownBlock≠some cb) (hv:∀g,vo.ownBlock=some g->v.ownBlock≠some g):w2.ownsRow B e s v n xs:=by
 have hlt:=h.lt;refine⟨h.1,?_⟩
 rcases h.2 with h2 | ⟨g,cap,cur,hvv,hbg,hh,d⟩
 ·exact .inl h2
 ·subst hvv
  refine .inr ⟨g,cap,cur,rfl,hbg,?_,d⟩;rw[he.2.2.2.2.1 g (qC hh) (fun e=>hne (by rw[<- e];rfl)) (fun e=>hv g e rfl)];exact hh
theorem zVx {w w':World} {ob:Obj} {r:Option Nat} (h:((w.alloc ob).drew).grownBy w' r):(w.alloc ob).grownBy w' r:=⟨h.os,h.tape,h.output,h.size,h.block⟩
def LayAt (n:Nat):Prop:=∀(t:Tr),szT t<=n->∀(w:World) (Sq:Nat->Prop) (v:Value) (lb cb B:Nat) (X:Nat->Prop) (vo:Value) (cs:List Cel),lb<w.heap.size/\cb<w.heap.size/\B<=w.heap.size->lb≠cb->(∀q,X q->q<w.heap.size)->X cb->(∀q,Sq q->q<B/\q≠cb)->InT w Sq v t->
    PkSt w lb cb B X vo cs->cs.length+szT t<=1000000->Calls Tryz.prog 100 #[v,.pointer (some ⟨lb,0,none⟩),.pointer (some ⟨cb,0,none⟩)] w (zBk t lb cb B X vo cs w)
theorem zS7:∀n,n<=100000->LayAt n
 | 0,_=>fun t h=>absurd h (by unfold szT;omega)
 | n+1,hbig=>by
  have ih:=zS7 n (by omega);rintro⟨x,ks⟩ hn w Sq v lb cb B X vo cs hlc hne hX hXc hS hin hst hcl;obtain⟨q,p,A,c,rfl,hq1,c0,c1,c2,c3,c4,hc,hkid⟩:=hin.open;have hqB:=(hS q hq1).1;have hqw:q<w.heap.size:=by omega
  have hsz:szT (x,ks)=1+ks.sz:=rfl;have hll:=Fr.len_le ks;obtain⟨N,hN⟩:∃N,ks.len=N:=⟨_,rfl⟩;rw[hN] at c4 hll;have hN1:N<=100000:=by omega
  obtain⟨C,hC⟩:∃C,w.heap.size=C:=⟨_,rfl⟩;have hs1:(w.alloc (.cells #[.int .i64 x.k,.int .i64 x.n,.string x.a,.string x.m,.slice none 0 0] 121)).heap.size=C+1:=by simp;exact hC
  have hb1:Below w.heap.size w ((w.alloc (.cells #[.int .i64 x.k,.int .i64 x.n,.string x.a,.string x.m,.slice none 0 0] 121)).drew):=qE ((Below.refl _ w).alloc (Nat.le_refl _) _) 1;have hn1:((w.alloc (.cells #[.int .i64 x.k,.int .i64 x.n,.string x.a,.string x.m,.slice none 0 0] 121)).drew).heap[C]? = some (.cells #[.int .i64 x.k,.int .i64 x.n,.string x.a,.string x.m,.slice none 0 0] 121 (0,0)):=by rw[<- hC];exact heap_alloc_new w _
  obtain⟨W1,hW1⟩:∃W1,W1=((w.alloc (.cells #[.int .i64 x.k,.int .i64 x.n,.string x.a,.string x.m,.slice none 0 0] 121)).drew):=⟨_,rfl⟩;rw[<- hW1] at hb1 hn1;have hst':=hst;obtain⟨e1,e2,e3,vs0,ho0,hf0⟩:=hst';have hol0:=ho0.lt;have hini:LaRel w lb cb B C X vo vo (.slice none 0 0) x (cs++(celF .nil cs.length).1) (celF .nil cs.length).2 W1:=by
   refine⟨?_,World.ownsRow_nil _ _ _ _,hn1,(PkEnd.refl w cb vo).below hb1,fun g hg=>⟨by have:=(hol0 g hg).2;omega,by simp[Value.ownBlock]⟩⟩;have:PkSt w lb cb B (Xc X C (.slice none 0 0)) vo cs:=hst.more fun q hq hx=>by
    rcases hx with h | h | h
    ·exact h
    ·omega
    ·simp[Value.ownBlock] at h
   simpa [celF] using this.below hb1
  have hkid1:Kid W1 Sq A ks 0:=hkid.keep (fun _ h=>h) fun b hb=>hb1.block b (by have:=(hS b hb).1;omega)
  have HINI:=Lib.hid hini;have HKID1:=Lib.hid hkid1;have HW1:=Lib.hid hW1;have HC:=Lib.hid hC;have HIH:=Lib.hid ih;have HS:=Lib.hid hS;have HX:=Lib.hid hX;have HNN:=Lib.hid hN;have HSZ:=Lib.hid hsz;have HN0:=Lib.hid hn;have HCL:=Lib.hid hcl;have HNE:=Lib.hid hne;have hlcC:lb<C/\cb<C/\B<=C:=by omega
  have HXC:=Lib.hid hXc;obtain⟨j0,hj,hy0,hy1,hy2⟩:=info_parts infoI;obtain⟨i0,hi,hz0,hz1,hz2⟩:=info_parts zS3;clear hkid hin hst hs1 hb1 hn1 hW1 e1 e2 e3 ho0 hf0 hXc hol0 hini hkid1 hC ih hS hX hN hsz hn hcl hc hlc hne
  go_enter Tryz.func100,Tryz.ntmps100
  go_wp2_with fail
  go_region_held3 (fun w'=>w'.cell? ⟨q,p,none⟩=some (.int .i64 x.k)/\w'.cell? ⟨q,p+1,none⟩=some (.int .i64 x.n)/\w'.cell? ⟨q,p+2,none⟩=some (.string x.a)/\w'.cell? ⟨q,p+3,none⟩=some (.string x.m)) (go_keep) (fail)
  rw[<- HW1.out,HC.out];clear c0 c1 c2 c3;have c4W:W1.cell? ⟨q,p+4,none⟩=some (.slice A N c):=by
   rw[HW1.out];exact((qE ((Below.refl w.heap.size w).alloc (Nat.le_refl _) _) 1).cell (p:=⟨q,p+4,none⟩) hqw).trans c4
  clear c4;go_wp2_with fail;clear c4W
  go_loopw [7,30] (fun _ i wr=>∃(j:Nat) (done rest:Fr) (vo' vk:Value),i = .int .i64 j/\j=done.len/\ks=done.app rest/\Kid wr Sq A rest j/\LaRel w lb cb B C X vo vo' vk x (cs++(celF done cs.length).1) (celF done cs.length).2 wr) (fun _ i _=>N-(intOf i).toNat)
  case atStart=>exact⟨0,.nil,ks,vo,.slice none 0 0,rfl,rfl,rfl,HKID1.out,HINI.out⟩
  case round=>
   obtain⟨j,done,rest,vo1,vk,rfl,hj,hks,hkid,hrel⟩:=hrel;have HREL:=Lib.hid hrel;obtain⟨hst,hk,hcb,hend,hap⟩:=hrel;have HST:=Lib.hid hst;obtain⟨g1,g2,g3,vs,ho,hf⟩:=hst;have HG3:=Lib.hid g3;have hl:N=done.len+rest.len:=by rw[<- HNN.out,hks,Fr.len_app]
   have hss:ks.sz=done.sz+rest.sz:=by rw[hks,Fr.sz_app]
   have hsz:=HSZ.out;have hn:=HN0.out;have hcl:=HCL.out;have hCS:(cs++(celF done cs.length).1).length=cs.length+done.sz:=by rw[List.length_append,(pR done cs.length).1]
   have hRS:=(pR done cs.length).2;rw[<- hj] at hRS;have hCr:=qC hcb;have hwr:w.heap.size<=wr.heap.size:=hend.2.2.2.1;have HSN:=Lib.hid (zQq done · · cs.length);obtain⟨D,hD⟩:∃D,cs.length+done.sz=D:=⟨_,rfl⟩;rw[hD] at hCS;obtain⟨CS,hCSe⟩:∃CS,cs++(celF done cs.length).1=CS:=⟨_,rfl⟩;obtain⟨RS,hRSe⟩:∃RS,(celF done cs.length).2=RS:=⟨_,rfl⟩;rw[hCSe] at ho hf hCS HST HREL;rw[hRSe] at hk hRS HREL;have hk':=hk;rw[hRS] at hk';have hkl:=hk.lt;have hol:=ho.lt;have kl:wr.cell? ⟨lb,0,none⟩=some (.func (.func 100) #[] #[.pointer (some ⟨lb,0,none⟩),.pointer (some ⟨cb,0,none⟩)]):=cell_of_row wr lb 0 _ _ _ g1;have kc:wr.cell? ⟨C,4,none⟩=some vk:=cell_of_row wr C 4 _ _ _ hcb;have hlr:=qC g1;have HG1:=Lib.hid g1;have HG2:=Lib.hid g2;have HO:=Lib.hid ho;have HF:=Lib.hid hf;have HKR:=Lib.hid hk;have HK':=Lib.hid hk';have HCB:=Lib.hid hcb;have HEND:=Lib.hid hend;have HAP:=Lib.hid hap;have HKL:=Lib.hid hkl;have HOL:=Lib.hid hol;have HCS:=Lib.hid hCS;have HRS:=Lib.hid hRS;have HCSE:=Lib.hid hCSe;have HRSE:=Lib.hid hRSe;have HKS:=Lib.hid hks;have HD:=Lib.hid hD;have hvkc:vk.ownBlock≠some cb:=fun e=>by have:=(hkl cb e).1;omega
   have HVKC:=Lib.hid hvkc
   by_cases hlt:0<rest.len
   ·obtain⟨y,l,r,rfl⟩:=Fr.cut hlt
    obtain⟨kb,ko,u,rfl,hkb,hcell,hu,hnext⟩:=hkid.next;have hyl:szT (y,l)=1+l.sz:=rfl;have hsr:(Fr.cons y l r).sz=1+l.sz+r.sz:=rfl;have hlr2:(Fr.cons y l r).len=r.len+1:=rfl;have hjN:j<N:=by omega
    have hjz:(j:Int)<(N:Int):=by omega
    have hkbr:kb<wr.heap.size:=by have:=(HS.out kb hkb).1;have:=HC.out;omega
    obtain⟨q1,o1,rfl⟩:=hu.ptr;obtain⟨Z,hZ⟩:∃Z:Int,((CS.length+l.sz:Nat):Int)=Z:=⟨_,rfl⟩;have cI:∀W,Below wr.heap.size wr W->Calls Tryz.prog 100 #[.pointer (some ⟨q1,o1,none⟩),.pointer (some ⟨lb,0,none⟩),.pointer (some ⟨cb,0,none⟩)] W fun e w'=>e = .returned (.int .i64 Z)/\∃vo',PkSt w' lb cb B (Xc X C vk) vo' (CS++celT (y,l) CS.length)/\PkEnd wr w' cb vo1 vo':=by
     intro W hW;have hWs:=hW.size;refine(HIH.out (y,l) (by omega) W Sq _ lb cb B (Xc X C vk) vo1 CS ⟨by have:=HC.out;omega,by have:=HC.out;omega,by have:=HC.out;omega⟩ HNE.out (fun q' hq'=>?_) (.inl HXC.out) HS.out (hu.below (fun q' hq'=>by have:=(HS.out q' hq').1;have:=HC.out;omega) hW) (HST.out.below hW) (by have:=HCS.out;have:=HD.out;omega)).mono ?_
     ·rcases hq' with h | h | h
      ·have:=HX.out q' h;have:=HC.out;omega
      ·have:=HC.out;omega
      ·have:=(HKL.out q' h).2;omega
     ·rintro e w' ⟨rfl,vo',h1,h2⟩
      exact⟨by rw[<- hZ],vo',h1,PkEnd.trans ((PkEnd.refl wr cb vo1).below hW) h2⟩
    have HZ:=Lib.hid hZ;have HN:=Lib.hid hnext;have HLN:Hid (j+1=(done.app (.cons y l .nil)).len):=Lib.hid (by rw[Fr.len_app];simp only[Fr.len];omega);have HBQ:Hid (∀b,Sq b->b<wr.heap.size/\b≠cb/\vo1.ownBlock≠some b/\b≠C/\vk.ownBlock≠some b):=Lib.hid fun b hb=>by
     have h1:=HS.out b hb;have h2:=HC.out;exact⟨by omega,h1.2,fun e=>by have:=(HOL.out b e).1;omega,by omega,fun e=>by have:=(HKL.out b e).1;omega⟩
    have hjb:j<=1000000:=by omega
    clear hkid hks hj hl hss hsz hn hcl hCS hRS hCSe hRSe ho hf hk hcb hend hap hk' hu hnext hsr hlr2 hyl hD hZ g1 g2 g3 hkl hol hvkc;go_wp2_with fail
    go_region_law (first
      | (go_simp;go_at_call 100;refine(cI _ (by first | exact Below.refl _ _ | exact qE (Below.refl _ _) 1)).mono ?_;rintro e w2 ⟨rfl,vo2,hst2,hend2⟩;have HST2:=Lib.hid hst2;have HEND2:=Lib.hid hend2;have HK2:=Lib.hid (zBl hend2 HK'.out HVKC.out fun g hg=>(HAP.out g hg).2);have hs2:=hend2.2.2.2.1;have hcb2:=(hend2.2.2.2.2.1 C hCr (by omega) (fun e=>(HAP.out C e).1 rfl)).trans HCB.out;have k2:w2.cell? ⟨C,4,none⟩=some vk:=cell_of_row w2 C 4 _ _ _ hcb2;have f2:=frozen_of_row w2 C 4 _ _ hcb2;have k3:∀ob,(w2.alloc ob).cell? ⟨C,4,none⟩=some vk:=fun ob=>(((Below.refl w2.heap.size w2).alloc (Nat.le_refl _) ob).cell (zQ k2)).trans k2;clear hst2 hend2 hcb2)
      | (refine step_append_lies _ (by rfl) _ _ _ (by rfl) (C+1) 3 j0 _ 1 8 Tryz.underlying119 hj hy0 hy1 hy2 rfl (by omega) vk j (ints RS) (by rfl) (by exact World.ownsRow.alloc (by exact HK2.out) _) ⟨w2.heap.size,0,none⟩ 1 1 [.int .i64 Z] (by rfl) (by rfl) (by exact cell_one_new _ _ _) (fun x hx=>by simp at hx;subst hx;rfl) (by omega) (by unfold maxLen;omega) (by omega) (by simp;omega) (w2.heap.size+1) (by simp) ?_;intro g4 cap4 w4 hown4 hgrow4 hat4 hlt4;have hgrow4:(w2.alloc (.cells #[.int .i64 Z] 3)).grownBy w4 vk.ownBlock:=(by first | exact hgrow4 | exact zVx hgrow4);have HOWN4:=Lib.hid hown4;have HG4:=Lib.hid hgrow4;have HAT4:=Lib.hid hat4;have kc4:=(hgrow4.cell_far ⟨C,4,none⟩ (by simp;omega) (fun e=>by have:=(HK2.out.lt C e.symm).1;omega)).trans (k3 _);have fc4:=(hgrow4.frozen_far ⟨C,4,none⟩ (by simp;omega) (fun e=>by have:=(HK2.out.lt C e.symm).1;omega)).trans ((((Below.refl w2.heap.size w2).alloc (Nat.le_refl _) (.cells #[.int .i64 Z] 3)).frozen (p:=⟨C,4,none⟩) (zQ k2)).trans f2);clear hown4 hgrow4 hat4))
    all_goals
     have HSTEP:=Lib.hid (LaRel.step (ob:=.cells #[.int .i64 Z] 3) (z:=Z) HC.out hlcC HREL.out HST2.out HEND2.out (by rw[HRS.out];exact HOWN4.out) HG4.out (by
      rcases HAT4.out with h | h
      ·exact .inl h.symm
      ·exact .inr (by rw[<- h];rfl)))
     go_wp2_with fail
     go_roundw
     case rel=>
      obtain⟨hs1,hs2'⟩:=HSTEP.out;refine⟨j+1,done.app (.cons y l .nil),r,vo2,.slice (some ⟨g4,0,none⟩) (j+1) cap4,by go_num,HLN.out,by rw[HKS.out,Fr.app_cons],HN.out.keep (fun _ h=>h) fun b hb=>?_,?_⟩
      ·obtain⟨b1,b2,b3,b4,b5⟩:=HBQ.out b hb
       exact hs2' b b1 b2 b3 b4 b5
      ·have hz:((cs.length+done.sz+l.sz:Nat):Int)=Z:=by rw[<- HZ.out,HCS.out,HD.out]
       rw[HSN.out y l];simp only;rw[<- List.append_assoc,HCSE.out,HRSE.out,hz,HD.out,<- HCS.out];exact hs1
     case measure=>simp[intOf];omega
   ·have h0:rest = .nil:=by
     cases rest with
     | nil=>rfl
     | cons y l r=>exact absurd (Nat.succ_pos _) hlt
    subst h0;have hjz:¬(j:Int)<(N:Int):=by have:(Fr.nil).len=0:=rfl;omega
    have hfin:done=ks:=by rw[hks,Fr.app_nil]
    have d0:wr.cell? ⟨C,0,none⟩=some (.int .i64 x.k):=cell_of_row wr C 0 _ _ _ hcb;have d1:wr.cell? ⟨C,1,none⟩=some (.int .i64 x.n):=cell_of_row wr C 1 _ _ _ hcb;have d2:wr.cell? ⟨C,2,none⟩=some (.string x.a):=cell_of_row wr C 2 _ _ _ hcb;have d3:wr.cell? ⟨C,3,none⟩=some (.string x.m):=cell_of_row wr C 3 _ _ _ hcb;have ko:wr.cell? ⟨cb,0,none⟩=some vo1:=cell_of_row wr cb 0 _ _ _ g2;have fo:=frozen_of_row wr cb 0 _ _ g2;have hcbr:=qC g2;rw[hCS] at ho;have hDb:D<=1000000:=by omega
    have HDB:Hid (D=cs.length+ks.sz):=Lib.hid (by rw[<- hD,hfin]);have HFIN:=Lib.hid hfin;have HVK1:=Lib.hid (SpS.own (S:=fun _=>True) hk fun _ _=>trivial).one;have HO':=Lib.hid ho;obtain⟨OA,OC,rfl⟩:=mU ho;have hBr:B<=wr.heap.size:=by have:=HC.out;omega
    clear hkid hks hj hl hss hsz hn hcl hCS hRS hCSe hRSe ho hf hk hcb hend hap hk' hD hfin g1 g2 g3 hkl hol hvkc
    go_wp2_with (at_builtin;(refine wpList_append_own_at _ rfl _ _ 92 rfl B 121 i0 _ 5 72 Tryz.underlying92 hi hz0 hz1 hz2 rfl (by decide) (.slice OA D OC) D (flat CS vs) rfl (HO'.out.alloc _) ⟨wr.heap.size,0,none⟩ 1 1 [.int .i64 x.k,.int .i64 x.n,.string x.a,.string x.m,vk] rfl rfl (zQr (heap_alloc_new wr _)) (fun u hu=>zJ7 HVK1.out u hu) (by unfold maxLen;omega) (by omega) (by simp;omega) ?_);intro v4 w4 hown4 hgrow4 _ hat4;obtain⟨A4,C4,hv4⟩:=mU hown4;subst hv4;have HOWN4:=Lib.hid hown4;have HG4:=Lib.hid hgrow4;have HAT4:=Lib.hid hat4;have ko4:=(hgrow4.cell_far ⟨cb,0,none⟩ (by simp;omega) (fun e=>HG3.out.2 e.symm)).trans ((((Below.refl wr.heap.size wr).alloc (Nat.le_refl _) _).cell (p:=⟨cb,0,none⟩) hcbr).trans ko);have fo4:=(hgrow4.frozen_far ⟨cb,0,none⟩ (by simp;omega) (fun e=>HG3.out.2 e.symm)).trans ((((Below.refl wr.heap.size wr).alloc (Nat.le_refl _) _).frozen (p:=⟨cb,0,none⟩) hcbr).trans fo);clear hown4 hgrow4 hat4)
    go_ret
    obtain⟨r1,r2⟩:=LaRel.end (x:=x) (X:=X) (vo0:=vo) HC.out hlcC (fun q' h=>by have:=HX.out q' h;have:=HC.out;omega) HXC.out HNE.out HG3.out HG1.out HG2.out HF.out HKR.out HEND.out HAP.out (by rw[HCS.out];exact HOWN4.out) HG4.out (by have:=HAT4.out;simpa using this);have hfull:cs++celT (x,ks) cs.length=CS++[⟨x,RS⟩]:=by
     unfold celT;simp only;rw[<- HFIN.out,<- List.append_assoc,HCSE.out,HRSE.out]
    refine⟨?_,_,?_,r2⟩
    ·refine tZ ?_
     have:=HDB.out;simp only;omega
    ·rw[hfull]
     exact r1
theorem zBm (t:Tr) (hsz:szT t<=8192) (w:World) (Sq:Nat->Prop) (v:Value) (hS:Bel Sq w.heap.size) (hin:InT w Sq v t) :
  Calls Tryz.prog 59 #[v] w (zBe (celT t 0) 0 w):=by
 have hb:=(Below.refl w.heap.size w).alloc (Nat.le_refl _) (.cells #[.slice none 0 0] 94);have hs:(w.alloc (.cells #[.slice none 0 0] 94)).heap.size=w.heap.size+1:=by simp
 have cM:=jU (some t) (w.alloc (.cells #[.slice none 0 0] 94)) Sq v (fun q h=>by have:=hS q h;omega) (hin.below hS hb) (by have:szO (some t)=szT t:=rfl;omega);have hZ0:szO (some t)=szT t:=rfl;rw[hZ0,Option.isNone_some] at cM;obtain⟨Z,hZ⟩:∃Z,szT t=Z:=⟨_,rfl⟩;obtain⟨D,hD⟩:∃D,dpO (some t)=D:=⟨_,rfl⟩;rw[hZ] at cM hsz;rw[hD] at cM;have hz:¬(8192:Int)<(Z:Int):=by omega
 have hbx:(w.alloc (.cells #[.slice none 0 0] 94)).heap[w.heap.size]? = some (.cells #[.slice none 0 0] 94 (0,0)):=heap_alloc_new w _;have HS:=Lib.hid hs;have HB:=Lib.hid hb;have HBX:=Lib.hid hbx;have HIN:=Lib.hid hin;have HBEL:=Lib.hid hS;have HZ:=Lib.hid hZ;obtain⟨i0,hi,hz0,hz1,hz2⟩:=info_parts zS3;clear hin hS hZ hD hb hbx hs hZ0
 go_enter Tryz.func59,Tryz.ntmps59
 go_wp2_with fail;refine cM.mono ?_;rintro e w1 ⟨rfl,hb1⟩;rw[HS.out] at hb1;obtain⟨H,hH⟩:∃H,w.heap.size=H:=⟨_,rfl⟩;rw[hH] at hb1;obtain⟨M,hM⟩:∃M,w1.heap.size=M:=⟨_,rfl⟩;have hs1:=hb1.size;have hsw:(w.alloc (.cells #[.slice none 0 0] 94)).heap.size=H+1:=by rw[HS.out,hH]
 rw[hsw,hM] at hs1;have hbx1:w1.heap[H]? = some (.cells #[.slice none 0 0] 94 (0,0)):=by rw[<- hH];exact(hb1.block w.heap.size (by omega)).trans HBX.out
 obtain⟨W2,hW2⟩:∃W2,W2=w1.alloc (.cells #[.int .i64 (Z:Int),.int .i64 (D:Int),.bool false] 89):=⟨_,rfl⟩;have hb2:Below M w1 W2:=by rw[hW2];exact(Below.refl M w1).alloc (by omega) _
 have hs2:W2.heap.size=M+1:=by rw[hW2];simp;omega
 have hm2:W2.heap[M]? = some (.cells #[.int .i64 (Z:Int),.int .i64 (D:Int),.bool false] 89 (0,0)):=by rw[hW2,<- hM];exact heap_alloc_new w1 _
 obtain⟨wm,hrun,hown,hgr⟩:=run_make_own (P:=Tryz.prog) W2 (M+1) 92 121 i0 _ 5 Tryz.underlying92 hi hz0 hz1 .i64 .i64 Z (by rw[hz2];omega) (by unfold maxLen;omega) (by omega);have m0:W2.cell? ⟨M,0,none⟩=some (.int .i64 (Z:Int)):=cell_of_row W2 M 0 _ _ _ hm2;have m2:W2.cell? ⟨M,2,none⟩=some (.bool false):=cell_of_row W2 M 2 _ _ _ hm2;have hMW:M<W2.heap.size:=by omega
 have hbm:Below (M+1) W2 wm:=⟨hgr.os,hgr.tape,hgr.output,hgr.size,fun k hk=>hgr.block k (by omega) (by simp)⟩;rw[hs2] at hrun hown;have hsm:=hbm.size;have HB1:=Lib.hid hb1;have HB2:=Lib.hid hb2;have HBM:=Lib.hid hbm;have HOWN:=Lib.hid hown;have HH:=Lib.hid hH;have HM:=Lib.hid hM;have HW2:=Lib.hid hW2;have HS2:=Lib.hid hs2;have HBX1:=Lib.hid hbx1;have HSW:=Lib.hid hsw;clear hb1 hb2 hbm hown hgr hH hM hm2 hbx1 hsw hs2 cM;rw[HH.out];have hrun2:(Instr.makeSlice 92 (.int .i64 0) (.int .i64 (Z:Int))).run Tryz.prog (w1.alloc (.cells #[.int .i64 (Z:Int),.int .i64 (D:Int),.bool false] 89)) = .ok (.slice (some ⟨M+1,0,none⟩) 0 Z) wm:=by rw[<- HW2.out];exact hrun
 clear hrun;go_wp2_with fail;obtain⟨C,hC⟩:∃C,wm.heap.size=C:=⟨_,rfl⟩;rw[hC];obtain⟨W5,hW5⟩:∃W5,W5=(wm.alloc (.cells #[.slice (some ⟨M+1,0,none⟩) 0 Z] 92)).alloc (.cells #[.func (.func 100) #[] #[.pointer (some ⟨C+1,0,none⟩),.pointer (some ⟨C,0,none⟩)]] 63):=⟨_,rfl⟩;rw[<- hW5];have s1:(wm.alloc (.cells #[.slice (some ⟨M+1,0,none⟩) 0 Z] 92)).heap.size=C+1:=by simp;omega
 have k1:W5.heap[C]? = some (.cells #[.slice (some ⟨M+1,0,none⟩) 0 Z] 92 (0,0)):=by
  rw[hW5,Below.heap_alloc _ _ _ (by omega),<- hC];exact heap_alloc_new wm _
 have k2:W5.heap[C+1]? = some (.cells #[.func (.func 100) #[] #[.pointer (some ⟨C+1,0,none⟩),.pointer (some ⟨C,0,none⟩)]] 63 (0,0)):=by
  rw[hW5,<- s1];exact heap_alloc_new _ _
 have hb5:Below C wm W5:=by rw[hW5];exact((Below.refl C wm).alloc (by omega) _).alloc (by omega) _
 have s5:W5.heap.size=C+2:=by rw[hW5];simp;omega
 have hMC:M+1<=C:=by have:=HS2.out;omega
 have hrow:W5.ownsRow (M+1) 121 5 (.slice (some ⟨M+1,0,none⟩) 0 Z) 0 []:=xC HOWN.out (by rw[hC];exact hb5);have hM1C:M+1<C:=by
  have:=(HOWN.out.lt (M+1) rfl).2;omega
 have hbw5:Below H w W5:=((((HH.out▸HB.out:Below H w _).trans (HB1.out.mono (by omega))).trans (HB2.out.mono (by omega))).trans (HBM.out.mono (by omega))).trans (hb5.mono (by omega));have hst:PkSt W5 (C+1) C (M+1) (fun q=>q=C+1\/q=C) (.slice (some ⟨M+1,0,none⟩) 0 Z) []:=⟨k2,k1,⟨by simp[Value.ownBlock];omega,by simp[Value.ownBlock];omega⟩,[],hrow,trivial⟩;have hbx5:W5.heap[H]? = some (.cells #[.slice none 0 0] 94 (0,0)):=by
  rw[hb5.block H (by omega),HBM.out.block H (by omega),HB2.out.block H (by omega)];exact HBX1.out
 have hZ0:szO (some t)=szT t:=rfl;have cL:=zS7 100000 (Nat.le_refl _) t (by have:=HZ.out;omega) W5 Sq v (C+1) C (M+1) (fun q=>q=C+1\/q=C) (.slice (some ⟨M+1,0,none⟩) 0 Z) [] ⟨by omega,by omega,by omega⟩ (by omega) (by rintro q (rfl | rfl)<;>omega) (.inr rfl) (fun q hq=>by have:=HBEL.out q hq;have:=HH.out;exact⟨by omega,by omega⟩) (HIN.out.below HBEL.out (by rw[HH.out];exact hbw5)) hst (by have:=HZ.out;simp;omega)
 have HBW5:=Lib.hid hbw5;have HBX5:=Lib.hid hbx5;have HS5:=Lib.hid s5;clear hrun2 m0 m2 hW5 s1 k1 k2 hb5 s5 hrow hbw5 hst hbx5 hZ0 hC;refine cL.mono ?_;rintro e w6 ⟨rfl,vo6,⟨g1,g2,g3,vs,ho,hf⟩,he⟩;obtain⟨e1,e2,e3,e4,e5,e6⟩:=he;rw[List.nil_append] at ho hf;have e4':=e4;rw[HS5.out] at e4';have hbx6:w6.heap[H]? = some (.cells #[.slice none 0 0] 94 (0,0)):=by
  rw[e5 H (by have:=HS5.out;omega) (by omega) (by simp[Value.ownBlock];omega)];exact HBX5.out
 obtain⟨A6,C6,rfl⟩:=mU ho;have q0:w6.cell? ⟨C,0,none⟩=some (.slice A6 (celT t ([]:List Cel).length).length C6):=cell_of_row w6 C 0 _ _ _ g2;have r0:w6.cell? ⟨H,0,none⟩=some (.slice none 0 0):=cell_of_row w6 H 0 _ _ _ hbx6;have rf0:=frozen_of_row w6 H 0 _ _ hbx6;have hHw:=qC hbx6;have hCw:=qC g2;have hbel6:Below H w w6:=⟨e1.trans HBW5.out.os,e2.trans HBW5.out.tape,e3.trans HBW5.out.output,Nat.le_trans HBW5.out.size e4,fun k hk=>(e5 k (by have:=HS5.out;omega) (by omega) (by simp[Value.ownBlock];omega)).trans (HBW5.out.block k hk)⟩;have hnH:(Value.slice A6 (celT t ([]:List Cel).length).length C6).ownBlock≠some H:=by
  rcases e6 with h | h
  ·rw[h];simp[Value.ownBlock];omega
  ·intro e;have:=h H e;have:=HS5.out;omega
 have HO:=Lib.hid ho;have HF:=Lib.hid hf;have HBEL6:=Lib.hid hbel6;have HNH:=Lib.hid hnH;obtain⟨L,hL⟩:∃L,(celT t ([]:List Cel).length).length=L:=⟨_,rfl⟩;rw[hL] at q0;have HL:=Lib.hid hL;clear ho hf hbel6 hnH g1 g2 g3 e1 e2 e3 e5 e6 hbx6 hL cL;go_wp2_with fail;have hcls:Cls (w6.setCell ⟨H,0,none⟩ (.slice A6 L C6)) (w6.setCell ⟨H,0,none⟩ (.slice A6 L C6)).heap.size (.slice A6 L C6) (celT t 0):=by
  rw[<- HL.out];refine OwnC.cls (H:=M+1) ⟨vs,yF HO.out _ _ (fun g hg=>fun e=>HNH.out (by rw[hg,e])),HF.out.keep (fun q h=>⟨h.1,by simpa [World.setCell] using h.2.1,h.2.2.1⟩) fun b h=>Below.heap_setCell _ _ _ _ (by have:=h.1;simp only;omega)⟩
 exact bodyPost_ret (v:=.tuple #[.agg #[.slice A6 L C6],.int .i64 0]) (by simp[results,Tryz.results59,go_sem,r0]) rfl ⟨_,rfl,hcls,by rw[HH.out];exact HBEL6.out.setCell (Nat.le_refl _) _⟩
theorem uPack (t:Tr) {W w:World} {v:Value} (h:HasT W v (some t)) (hz:szT t<=8192) (u:Up W w) :
  Calls Tryz.prog 59 #[v] w fun e w'=>∃v',e = .returned (.tuple #[.agg #[v'],.int .i64 0])/\Cls w' w'.heap.size v' (celT t 0)/\Up W w':=
 (zBm t hz w _ v HasT.bel (h.up u)).mono fun _ _ k=>by obtain⟨p,k1,k2,k3⟩:=k;exact⟨p,k1,k2,u.of k3⟩
def zBn (gp:Bool) (w:World) (e:Ending) (w':World):Prop:=∃s d:Nat,e = .returned (.agg #[.int .i64 (s:Int),.int .i64 (d:Int),.bool gp])/\s<=100000/\(gp=false->8192<s)/\Below w.heap.size w w'
def uZ (z:Int) (w:World) (e:Ending) (w':World):Prop:=e = .returned (.tuple #[.agg #[.slice none 0 0],.int .i64 z])/\Up w w'
theorem zS8 (gp:Bool) (v:Value) (w:World) (cM:Calls Tryz.prog 58 #[v] (w.alloc (.cells #[.slice none 0 0] 94)) (zBn gp (w.alloc (.cells #[.slice none 0 0] 94)))) :
  Calls Tryz.prog 59 #[v] w (uZ (if gp then 1 else 3) w):=by
 have hb:=(Below.refl w.heap.size w).alloc (Nat.le_refl _) (.cells #[.slice none 0 0] 94);have hs:(w.alloc (.cells #[.slice none 0 0] 94)).heap.size=w.heap.size+1:=by simp
 have hbx:(w.alloc (.cells #[.slice none 0 0] 94)).heap[w.heap.size]? = some (.cells #[.slice none 0 0] 94 (0,0)):=heap_alloc_new w _;obtain⟨H,hH⟩:∃H,w.heap.size=H:=⟨_,rfl⟩;rw[hH] at hb hs hbx;have HS:=Lib.hid hs;have HB:=Lib.hid hb;have HBX:=Lib.hid hbx;have HH:=Lib.hid hH;clear hs hb hbx hH
 cases gp
 ·go_enter Tryz.func59,Tryz.ntmps59
  go_wp2_with fail;refine cM.mono ?_;rintro e w1 ⟨S,D,rfl,hS,hg,hb1⟩;rw[HS.out] at hb1;have hbx1:=(hb1.block H (by omega)).trans HBX.out;have cz:=cell_of_row w1 H 0 _ _ _ hbx1;have fz:=frozen_of_row w1 H 0 _ _ hbx1;have HB1:=Lib.hid hb1;have HX1:=Lib.hid hbx1;have hH1:=qC hbx1;have hzz:(8192:Int)<(S:Int):=by have:=hg rfl;omega
  clear hbx1 hb1 cM hg;rw[HH.out];go_wp2_with fail;have r0:((w1.setCell ⟨H,0,none⟩ (.slice none 0 0)).alloc (.cells #[.int .i64 (S:Int),.int .i64 (D:Int),.bool false] 89)).cell? ⟨H,0,none⟩=some (.slice none 0 0):=cell_of_row _ H 0 _ _ _ (yC _ (jB _ HX1.out));have hbF:Below H w ((w1.setCell ⟨H,0,none⟩ (.slice none 0 0)).alloc (.cells #[.int .i64 (S:Int),.int .i64 (D:Int),.bool false] 89)):=
   Below.alloc (Below.setCell (HB.out.trans (HB1.out.mono (by omega))) (Nat.le_refl _) _) (by simp[World.setCell];omega) _
  exact bodyPost_ret (v:=.tuple #[.agg #[.slice none 0 0],.int .i64 3]) (by simp[results,Tryz.results59,go_sem,r0]) rfl ⟨rfl,by show Below w.heap.size _ _;rw[HH.out];exact hbF⟩
 ·go_enter Tryz.func59,Tryz.ntmps59
  go_wp2_with fail;refine cM.mono ?_;rintro e w1 ⟨S,D,rfl,hS,hg,hb1⟩;rw[HS.out] at hb1;have hbx1:=(hb1.block H (by omega)).trans HBX.out;have cz:=cell_of_row w1 H 0 _ _ _ hbx1;have fz:=frozen_of_row w1 H 0 _ _ hbx1;have HB1:=Lib.hid hb1;have HX1:=Lib.hid hbx1;have hH1:=qC hbx1;clear hbx1 hb1 cM hg;rw[HH.out];go_wp2_with fail;have r0:((w1.setCell ⟨H,0,none⟩ (.slice none 0 0)).alloc (.cells #[.int .i64 (S:Int),.int .i64 (D:Int),.bool true] 89)).cell? ⟨H,0,none⟩=some (.slice none 0 0):=cell_of_row _ H 0 _ _ _ (yC _ (jB _ HX1.out));have hbF:Below H w ((w1.setCell ⟨H,0,none⟩ (.slice none 0 0)).alloc (.cells #[.int .i64 (S:Int),.int .i64 (D:Int),.bool true] 89)):=
   Below.alloc (Below.setCell (HB.out.trans (HB1.out.mono (by omega))) (Nat.le_refl _) _) (by simp[World.setCell];omega) _
  exact bodyPost_ret (v:=.tuple #[.agg #[.slice none 0 0],.int .i64 1]) (by simp[results,Tryz.results59,go_sem,r0]) rfl ⟨rfl,by show Below w.heap.size _ _;rw[HH.out];exact hbF⟩
theorem zJr (w:World) (v:Value) (hv:HasT w v none):Calls Tryz.prog 59 #[v] w (uZ 1 w):=
 zS8 true v w ((jU none _ (fun q=>q<(w.alloc (.cells #[.slice none 0 0] 94)).heap.size) v (fun _ h=>h) (hv.up ((Up.refl w).alloc _)) (by show(0:Nat)<=65536;omega)).mono fun e w' h=>⟨0,0,h.1,by omega,(fun h=>by cases h),h.2⟩)
theorem zJs (t:Tr) (w:World) (v:Value) (hv:HasT w v (some t)) (hz:szT t<=60000) (hb:8192<szT t):Calls Tryz.prog 59 #[v] w (uZ 3 w):=
 zS8 false v w ((jU (some t) _ (fun q=>q<(w.alloc (.cells #[.slice none 0 0] 94)).heap.size) v (fun _ h=>h) (hv.up ((Up.refl w).alloc _)) (by show szT t<=65536;omega)).mono fun e w' h=>⟨szT t,dpO (some t),h.1,by omega,fun _=>hb,h.2⟩)
theorem zXg (k:FuncId) (z:Int) (hz:¬z=0) (v:Value) (w:World) (cP:Calls Tryz.prog 59 #[v] w (uZ z w)):Calls Tryz.prog 35 #[v,.func (.func k) #[] #[]] w (InP z w):=by
 go_enter Tryz.func35,Tryz.ntmps35
 go_wp2_with fail;refine cP.mono ?_;rintro e w1 ⟨rfl,u1⟩;go_wp2_with fail
 go_ret
 exact uW rfl (u1.alloc _)
theorem zJt (k:FuncId) (ek:Ent k) (t:Tr) (b:Bool) (v:Value) (w:World) (hx:B.Nx w) (hv:HasT w v (some t)) (hz:szT t<=8192) (cT:TelAt k b t) :
  Calls Tryz.prog 35 #[v,.func (.func k) #[] #[]] w (InP (if 60<dpT t then 7 else if b then 0 else 16) w):=by
 have cP:=uPack t hv hz (Up.refl w);have cD:∀w',Up w w'->Calls Tryz.prog 34 #[v] w' (NuP (dpT t) w):=fun w' u=>uDeep (some t) hv (by show szT t<=65536;omega) u
 have cK:∀w',Up w w'->Calls Tryz.prog k #[v] w' (TelB b w'):=fun w' u=>cT w' v (Nx.up hx u) (hv.up u)
 obtain⟨D,hD⟩:∃D,dpT t=D:=⟨_,rfl⟩;rw[hD] at cD ⊢;clear hx hv hz cT hD
 by_cases hd:60<D
 ·have hd':(60:Int)<(D:Int):=by omega
  rw[if_pos hd]
  go_enter Tryz.func35,Tryz.ntmps35
  go_wp2_with fail;refine cP.mono ?_;rintro e w1 ⟨v',rfl,hcl,u1⟩;obtain⟨A6,C6,rfl,-⟩:=id hcl;clear hcl cP cK;go_wp2_with fail;refine(cD _ (u1.alloc _)).mono ?_;rintro e w2 ⟨rfl,u2⟩;go_wp2_with fail
  go_ret
  exact uW rfl u2
 ·have hd':¬(60:Int)<(D:Int):=by omega
  rw[if_neg hd]
  cases b
  all_goals
   go_enter Tryz.func35,Tryz.ntmps35
   go_wp2_with fail;refine cP.mono ?_;rintro e w1 ⟨v',rfl,hcl,u1⟩;obtain⟨A6,C6,rfl,-⟩:=id hcl;clear hcl cP;go_wp2_with fail;refine(cD _ (u1.alloc _)).mono ?_;rintro e w2 ⟨rfl,u2⟩;go_wp2_with fail;rw[ek,Oper.upon_enter];refine(cK _ u2).mono ?_;rintro e w3 ⟨rfl,u3⟩;go_wp2_with fail
   go_ret
   exact uW rfl (u2.trans u3)
theorem in_up {z:Int} {W w:World} {P:Program} {k:FuncId} {args:Array Value} (u:Up W w) (h:Calls P k args w (InP z w)):Calls P k args w (InP z W):=h.mono fun _ _ h=>⟨h.1,u.trans h.2⟩
theorem zPp (k:FuncId) (ek:Ent k) (c:Int) (cT:∀t,szT t<=60000->okST t->TelAt k (isT B.nck B.long t c) t) (o:Option Tr) (hz:szO o<=60000) (hs:okSO o) (W w:World) (v:Value) (hx:B.Nx W) (hv:HasT W v o) (hu:Up W w) :
  Calls Tryz.prog 35 #[v,.func (.func k) #[] #[]] w (InP (chk B.nck B.long o c) W):=by
 refine in_up hu ?_;have hv':=hv.up hu;have hx':=Nx.up hx hu
 cases o with
 | none=>exact zXg k 1 (by omega) v w (zJr w v hv')
 | some t=>
  have hz':szT t<=60000:=hz;unfold chk;simp only
  by_cases hb:8192<szT t
  ·rw[if_pos hb]
   exact zXg k 3 (by omega) v w (zJs t w v hv' hz' hb)
  ·rw[if_neg hb]
   exact zJt k ek t _ v w hx' hv' (by omega) (cT t hz' (hs t rfl))
theorem zJu {z:Int} {W w:World} {v:Value} (h:Calls Tryz.prog 35 #[v,.func (.func 36) #[] #[]] w (InP z W)):Calls Tryz.prog 18 #[v] w (InP z W):=by
 go_enter Tryz.func18,Tryz.ntmps18
 go_wp2_with fail;refine h.mono ?_;rintro e w1 ⟨rfl,u1⟩;go_wp2_with fail
 go_ret
 exact uW rfl u1
theorem zFx:ShpAt 18 7:=fun o hz hs W w v hx hv hu=>zJu (zPp 36 (fun _ _=>by kernel_rfl) 7 (fun t h hs=>zVw t.1 t.2 (zJq _ t (Nat.le_refl _) h hs).2) o hz hs W w v hx hv hu)
end Go.Proofs.YtgeghilbikljcaaGreatDoor
namespace Go.Proofs.YtgeghilbikljcaaGreatDoor
theorem zJv {m:Nat} {s:ByteArray} {t:Tr} {a e:Int} (hn:∀s,B.nck s=true->s.size<=128) (hg:∀s,B.long s=true->s.size<=128) (h:srcZ m s=(some t,a,e)):a=0/\e=0/\chk B.nck B.long (some t) 7=0:=by
 unfold srcZ at h
 split at h
 ·unfold srcD at h
  split at h
  ·cases h
  ·rename_i f j hd
   split at h
   ·cases h
   ·split at h
    ·cases h
    ·rename_i h1
     split at h
     ·cases h
     ·rename_i h2
      injection h with h3 h4;injection h4 with h4 h5;injection h3 with h3;subst h3;refine⟨h4.symm,h5.symm,?_⟩;obtain⟨k1,_⟩:=(xV (l:=tqs (B.lexR s).1) hn hg m).2.2.1 true 0 f j hd;have hT:isT B.nck B.long (progT f) 7=true:=by
       refine wI ⟨7,80,[],[],0,0,[42,100]⟩ (by simp[RWS]) rfl rfl rfl rfl (Int.le_refl 0) (Int.le_refl 0) ?_;have k1:((infF B.nck B.long f).all fun i=>i.is 6 && !(false&&(decide (i.k=74)||decide (i.k=75))))=true:=k1
       cases hq:infF B.nck B.long f with
       | nil=>rfl
       | cons x y=>rw[hq] at k1;exact k1
      show(if 8192<szT (progT f) then (3:Int) else if 60<dpT (progT f) then 7 else if isT B.nck B.long (progT f) 7=true then 0 else 16)=0
      rw[if_neg h1,if_neg h2,if_pos hT]
 ·cases h
theorem zJw {m:Nat} {s:ByteArray} {a e:Int} (h:srcZ m s=(none,a,e)) (hb:∀p,p<(B.lexR s).1.length->0<=jP (B.lexR s).1 s p/\jP (B.lexR s).1 s p<=s.size):0<=a/\a<=(s.size:Int)/\e≠0:=by
 have hall:∀p,0<=jP (B.lexR s).1 s p/\jP (B.lexR s).1 s p<=s.size:=by
  intro p
  by_cases hp:p<(B.lexR s).1.length
  ·exact hb p hp
  ·unfold jP
   rw[List.getElem?_eq_none (by omega)];exact⟨Int.natCast_nonneg _,Int.le_refl _⟩
 unfold srcZ at h
 split at h
 ·unfold srcD at h
  split at h
  ·rename_i p er hd
   injection h with _ h;injection h with h1 h2;subst h1;have hin:=xM (nk:=B.nck) (lg:=B.long) (l:=tqs (B.lexR s).1) (n:=m) (i:=0) (top:=true) (Nat.zero_le _);rw[hd] at hin;refine⟨(hall p).1,(hall p).2,?_⟩;have:=hin.2.2;omega
  ·split at h
   ·injection h with _ h
    injection h with h1 h2;subst h1;exact⟨(hall _).1,(hall _).2,by omega⟩
   ·split at h
    ·injection h with _ h
     injection h with h1 h2;exact⟨by omega,by omega,by omega⟩
    ·split at h
     ·injection h with _ h
      injection h with h1 h2;exact⟨by omega,by omega,by omega⟩
     ·cases h
 ·rename_i hne
  injection h with _ h;injection h with h1 h2;have:=B.zW3 s;exact⟨by omega,by omega,by rw[<- h2];exact hne⟩
theorem zJx {m:Nat} {s:ByteArray} {t:Tr} {a e:Int} (h:srcZ m s=(some t,a,e)):∃l f,B.lexR s=(l,0,0)/\declF B.nck B.long (tqs l) m true 0 = .inl (f,l.length)/\t=progT f/\szT t<=8192/\dpT t<=60:=by
 obtain⟨l,b,c,hl⟩:∃l b c,B.lexR s=(l,b,c):=⟨_,_,_,rfl⟩;unfold srcZ at h;rw[hl] at h;simp only at h
 split at h
 ·rename_i hc
  subst hc;have hb:b=0:=by
   rcases B.nG hl with ⟨_,hb,_⟩ | ⟨h,_⟩
   ·exact hb
   ·exact absurd rfl h
  subst hb;unfold srcD at h
  split at h
  ·cases h
  ·rename_i f j hd
   have hin:=xM (nk:=B.nck) (lg:=B.long) (l:=tqs l) (n:=m) (i:=0) (top:=true) (Nat.zero_le _);rw[hd] at hin;have hj:=hin.2;rw[pM] at hj
   split at h
   ·cases h
   ·split at h
    ·cases h
    ·split at h
     ·cases h
     ·injection h with h3 h4
      injection h3 with h3;subst h3;have e:j=l.length:=by omega
      subst e;exact⟨l,f,hl,hd,rfl,by omega,by omega⟩
 ·cases h
end Go.Proofs.YtgeghilbikljcaaGreatDoor
namespace Go.Proofs.YtgeghilbikljcaaGreatDoor
open Go.RowKit
theorem zFy (m:Nat) (s:ByteArray):szO (srcZ m s).1<=8192:=by
 obtain⟨o,a,e,h⟩:∃o a e,srcZ m s=(o,a,e):=⟨_,_,_,rfl⟩;rw[h]
 cases o with
 | none=>exact Nat.zero_le _
 | some t=>obtain⟨_,_,_,_,_,h3,_⟩:=zJx h;exact h3
end Go.Proofs.YtgeghilbikljcaaGreatDoor
