/-
  The program's Pack: what its closure tells of trees.
-/
import Derived.Test.YtbpijnalmakfaaaGreatDoorGw20
import Derived.ArgAppend
import Derived.Deep.DeepCutAuto
import Derived.Deep.Fields
import Derived.Deep.OwnRows
import Derived.Deep.Slices
import Derived.LaidEqlPtr
import Derived.Laws.EntriesVeiled
set_option maxHeartbeats 40000000
set_option maxRecDepth 100000
namespace Go.Proofs.YtbpijnalmakfaaaGreatDoor
open Go.RowKit
theorem PkSt.below {w w':World} {lb cb B:Nat} {X:Nat→Prop} {vo:Value} {cs:List Cel} (h:PkSt w lb cb B X vo cs) (hb:Below w.heap.size w w'):PkSt w' lb cb B X vo cs:=by
 obtain⟨h1,h2,h3,vs,ho,hf⟩:=h;have hs:=hb.size;exact⟨qS h1 hb,qS h2 hb,h3,vs,yC ho hb,hf.keep (fun q hq=>⟨hq.1,by have:=hq.2.1;omega,hq.2.2⟩) fun b hb'=>hb.block b hb'.2.1⟩
theorem PkSt.more {w:World} {lb cb B:Nat} {X X':Nat→Prop} {vo:Value} {cs:List Cel} (h:PkSt w lb cb B X vo cs) (hX:∀q,q<w.heap.size→X' q→X q):PkSt w lb cb B X' vo cs:=by
 obtain⟨h1,h2,h3,vs,ho,hf⟩:=h;exact⟨h1,h2,h3,vs,ho,hf.keep (fun q hq=>⟨hq.1,hq.2.1,hq.2.2.1,fun hx=>hq.2.2.2 (hX q hq.2.1 hx)⟩) fun _ _=>rfl⟩
theorem yWz {w w2:World} {cb B s n:Nat} {e:TypeId} {vo vo2 v:Value} {xs:List Value} (he:PkEnd w w2 cb vo vo2) (h:w.ownsRow B e s v n xs) (hne:v.ownBlock≠some cb) (hv:∀g,vo.ownBlock=some g→v.ownBlock≠some g):w2.ownsRow B e s v n xs:=by
 have hlt:=h.lt;refine⟨h.1,?_⟩
 rcases h.2 with h2 | ⟨g,cap,cur,hvv,hbg,hh,d⟩
 ·exact .inl h2
 ·subst hvv
  refine .inr ⟨g,cap,cur,rfl,hbg,?_,d⟩;rw[he.2.2.2.2.1 g (qC hh) (fun e=>hne (by rw[←e];rfl)) (fun e=>hv g e rfl)];exact hh
theorem zRw {w w':World} {ob:Obj} {r:Option Nat} (h:((w.alloc ob).drew).grownBy w' r):(w.alloc ob).grownBy w' r:=⟨h.os,h.tape,h.output,h.size,h.block⟩
def LayAt (n:Nat):Prop:=∀(t:Tr),szT t≤n→∀(w:World) (Sq:Nat→Prop) (v:Value) (lb cb B:Nat) (X:Nat→Prop) (vo:Value) (cs:List Cel),lb<w.heap.size∧cb<w.heap.size∧B≤w.heap.size→lb≠cb→(∀q,X q→q<w.heap.size)→X cb→(∀q,Sq q→q<B∧q≠cb)→InT w Sq v t→
    PkSt w lb cb B X vo cs→cs.length+szT t≤1000000→Calls Tryz.prog 158 #[v,.pointer (some ⟨lb,0,none⟩),.pointer (some ⟨cb,0,none⟩)] w (yWy t lb cb B X vo cs w)
theorem zOl:∀n,n≤100000→LayAt n
 | 0,_=>fun t h=>absurd h (by unfold szT;omega)
 | n+1,hbig=>by
  have ih:=zOl n (by omega);rintro⟨x,ks⟩ hn w Sq v lb cb B X vo cs hlc hne hX hXc hS hin hst hcl;obtain⟨q,p,A,c,rfl,hq1,c0,c1,c2,c3,c4,hc,hkid⟩:=hin.open;have hqB:=(hS q hq1).1;have hqw:q<w.heap.size:=by omega
  have hsz:szT (x,ks)=1+ks.sz:=rfl;have hll:=Fr.len_le ks;obtain⟨N,hN⟩:∃N,ks.len=N:=⟨_,rfl⟩;rw[hN] at c4 hll;have hN1:N≤100000:=by omega
  obtain⟨C,hC⟩:∃C,w.heap.size=C:=⟨_,rfl⟩;have hs1:(w.alloc (.cells #[.int .i64 x.k,.int .i64 x.n,.string x.a,.string x.m,.slice none 0 0] 78)).heap.size=C+1:=by simp;exact hC
  have hb1:Below w.heap.size w ((w.alloc (.cells #[.int .i64 x.k,.int .i64 x.n,.string x.a,.string x.m,.slice none 0 0] 78)).drew):=qD ((Below.refl _ w).alloc (Nat.le_refl _) _) 1;have hn1:((w.alloc (.cells #[.int .i64 x.k,.int .i64 x.n,.string x.a,.string x.m,.slice none 0 0] 78)).drew).heap[C]? = some (.cells #[.int .i64 x.k,.int .i64 x.n,.string x.a,.string x.m,.slice none 0 0] 78 (0,0)):=by rw[←hC];exact heap_alloc_new w _
  obtain⟨W1,hW1⟩:∃W1,W1=((w.alloc (.cells #[.int .i64 x.k,.int .i64 x.n,.string x.a,.string x.m,.slice none 0 0] 78)).drew):=⟨_,rfl⟩;rw[←hW1] at hb1 hn1;have hst':=hst;obtain⟨e1,e2,e3,vs0,ho0,hf0⟩:=hst';have hol0:=ho0.lt;have hini:LaRel w lb cb B C X vo vo (.slice none 0 0) x (cs++(celF .nil cs.length).1) (celF .nil cs.length).2 W1:=by
   refine⟨?_,World.ownsRow_nil _ _ _ _,hn1,(PkEnd.refl w cb vo).below hb1,fun g hg=>⟨by have:=(hol0 g hg).2;omega,by simp[Value.ownBlock]⟩⟩;have:PkSt w lb cb B (Xc X C (.slice none 0 0)) vo cs:=hst.more fun q hq hx=>by
    rcases hx with h | h | h
    ·exact h
    ·omega
    ·simp[Value.ownBlock] at h
   simpa [celF] using this.below hb1
  have hkid1:Kid W1 Sq A ks 0:=hkid.keep (fun _ h=>h) fun b hb=>hb1.block b (by have:=(hS b hb).1;omega)
  have HINI:=Lib.hid hini;have HKID1:=Lib.hid hkid1;have HW1:=Lib.hid hW1;have HC:=Lib.hid hC;have HIH:=Lib.hid ih;have HS:=Lib.hid hS;have HX:=Lib.hid hX;have HNN:=Lib.hid hN;have HSZ:=Lib.hid hsz;have HN0:=Lib.hid hn;have HCL:=Lib.hid hcl;have HNE:=Lib.hid hne;have hlcC:lb<C∧cb<C∧B≤C:=by omega
  have HXC:=Lib.hid hXc;obtain⟨j0,hj,hy0,hy1,hy2⟩:=info_parts infoI;obtain⟨i0,hi,hz0,hz1,hz2⟩:=info_parts aZ;clear hkid hin hst hs1 hb1 hn1 hW1 e1 e2 e3 ho0 hf0 hXc hol0 hini hkid1 hC ih hS hX hN hsz hn hcl hc hlc hne
  go_enter Tryz.func158,Tryz.ntmps158
  go_wp2_with fail
  go_region_held3 (fun w'=>w'.cell? ⟨q,p,none⟩=some (.int .i64 x.k)∧w'.cell? ⟨q,p+1,none⟩=some (.int .i64 x.n)∧w'.cell? ⟨q,p+2,none⟩=some (.string x.a)∧w'.cell? ⟨q,p+3,none⟩=some (.string x.m)) (go_keep) (fail)
  rw[←HW1.out,HC.out];clear c0 c1 c2 c3;have c4W:W1.cell? ⟨q,p+4,none⟩=some (.slice A N c):=by
   rw[HW1.out];exact((qD ((Below.refl w.heap.size w).alloc (Nat.le_refl _) _) 1).cell (p:=⟨q,p+4,none⟩) hqw).trans c4
  clear c4;go_wp2_with fail;clear c4W
  go_loopw [7,30] (fun _ i wr=>∃(j:Nat) (done rest:Fr) (vo' vk:Value),i = .int .i64 j∧j=done.len∧ks=done.app rest∧Kid wr Sq A rest j∧LaRel w lb cb B C X vo vo' vk x (cs++(celF done cs.length).1) (celF done cs.length).2 wr) (fun _ i _=>N-(intOf i).toNat)
  case atStart=>exact⟨0,.nil,ks,vo,.slice none 0 0,rfl,rfl,rfl,HKID1.out,HINI.out⟩
  case round=>
   obtain⟨j,done,rest,vo1,vk,rfl,hj,hks,hkid,hrel⟩:=hrel;have HREL:=Lib.hid hrel;obtain⟨hst,hk,hcb,hend,hap⟩:=hrel;have HST:=Lib.hid hst;obtain⟨g1,g2,g3,vs,ho,hf⟩:=hst;have HG3:=Lib.hid g3;have hl:N=done.len+rest.len:=by rw[←HNN.out,hks,Fr.len_app]
   have hss:ks.sz=done.sz+rest.sz:=by rw[hks,Fr.sz_app]
   have hsz:=HSZ.out;have hn:=HN0.out;have hcl:=HCL.out;have hCS:(cs++(celF done cs.length).1).length=cs.length+done.sz:=by rw[List.length_append,(wO done cs.length).1]
   have hRS:=(wO done cs.length).2;rw[←hj] at hRS;have hCr:=qC hcb;have hwr:w.heap.size≤wr.heap.size:=hend.2.2.2.1;have HSN:=Lib.hid (zZy done · · cs.length);obtain⟨D,hD⟩:∃D,cs.length+done.sz=D:=⟨_,rfl⟩;rw[hD] at hCS;obtain⟨CS,hCSe⟩:∃CS,cs++(celF done cs.length).1=CS:=⟨_,rfl⟩;obtain⟨RS,hRSe⟩:∃RS,(celF done cs.length).2=RS:=⟨_,rfl⟩;rw[hCSe] at ho hf hCS HST HREL;rw[hRSe] at hk hRS HREL;have hk':=hk;rw[hRS] at hk';have hkl:=hk.lt;have hol:=ho.lt;have kl:wr.cell? ⟨lb,0,none⟩=some (.func (.func 158) #[] #[.pointer (some ⟨lb,0,none⟩),.pointer (some ⟨cb,0,none⟩)]):=cell_of_row wr lb 0 _ _ _ g1;have kc:wr.cell? ⟨C,4,none⟩=some vk:=cell_of_row wr C 4 _ _ _ hcb;have hlr:=qC g1;have HG1:=Lib.hid g1;have HG2:=Lib.hid g2;have HO:=Lib.hid ho;have HF:=Lib.hid hf;have HKR:=Lib.hid hk;have HK':=Lib.hid hk';have HCB:=Lib.hid hcb;have HEND:=Lib.hid hend;have HAP:=Lib.hid hap;have HKL:=Lib.hid hkl;have HOL:=Lib.hid hol;have HCS:=Lib.hid hCS;have HRS:=Lib.hid hRS;have HCSE:=Lib.hid hCSe;have HRSE:=Lib.hid hRSe;have HKS:=Lib.hid hks;have HD:=Lib.hid hD;have hvkc:vk.ownBlock≠some cb:=fun e=>by have:=(hkl cb e).1;omega
   have HVKC:=Lib.hid hvkc
   by_cases hlt:0<rest.len
   ·obtain⟨y,l,r,rfl⟩:=Fr.cut hlt
    obtain⟨kb,ko,u,rfl,hkb,hcell,hu,hnext⟩:=hkid.next;have hyl:szT (y,l)=1+l.sz:=rfl;have hsr:(Fr.cons y l r).sz=1+l.sz+r.sz:=rfl;have hlr2:(Fr.cons y l r).len=r.len+1:=rfl;have hjN:j<N:=by omega
    have hjz:(j:Int)<(N:Int):=by omega
    have hkbr:kb<wr.heap.size:=by have:=(HS.out kb hkb).1;have:=HC.out;omega
    obtain⟨q1,o1,rfl⟩:=hu.ptr;obtain⟨Z,hZ⟩:∃Z:Int,((CS.length+l.sz:Nat):Int)=Z:=⟨_,rfl⟩;have cI:∀W,Below wr.heap.size wr W→Calls Tryz.prog 158 #[.pointer (some ⟨q1,o1,none⟩),.pointer (some ⟨lb,0,none⟩),.pointer (some ⟨cb,0,none⟩)] W fun e w'=>e = .returned (.int .i64 Z)∧∃vo',PkSt w' lb cb B (Xc X C vk) vo' (CS++celT (y,l) CS.length)∧PkEnd wr w' cb vo1 vo':=by
     intro W hW;have hWs:=hW.size;refine(HIH.out (y,l) (by omega) W Sq _ lb cb B (Xc X C vk) vo1 CS ⟨by have:=HC.out;omega,by have:=HC.out;omega,by have:=HC.out;omega⟩ HNE.out (fun q' hq'=>?_) (.inl HXC.out) HS.out (hu.below (fun q' hq'=>by have:=(HS.out q' hq').1;have:=HC.out;omega) hW) (HST.out.below hW) (by have:=HCS.out;have:=HD.out;omega)).mono ?_
     ·rcases hq' with h | h | h
      ·have:=HX.out q' h;have:=HC.out;omega
      ·have:=HC.out;omega
      ·have:=(HKL.out q' h).2;omega
     ·rintro e w' ⟨rfl,vo',h1,h2⟩
      exact⟨by rw[←hZ],vo',h1,PkEnd.trans ((PkEnd.refl wr cb vo1).below hW) h2⟩
    have HZ:=Lib.hid hZ;have HN:=Lib.hid hnext;have HLN:Hid (j+1=(done.app (.cons y l .nil)).len):=Lib.hid (by rw[Fr.len_app];simp only[Fr.len];omega);have HBQ:Hid (∀b,Sq b→b<wr.heap.size∧b≠cb∧vo1.ownBlock≠some b∧b≠C∧vk.ownBlock≠some b):=Lib.hid fun b hb=>by
     have h1:=HS.out b hb;have h2:=HC.out;exact⟨by omega,h1.2,fun e=>by have:=(HOL.out b e).1;omega,by omega,fun e=>by have:=(HKL.out b e).1;omega⟩
    have hjb:j≤1000000:=by omega
    clear hkid hks hj hl hss hsz hn hcl hCS hRS hCSe hRSe ho hf hk hcb hend hap hk' hu hnext hsr hlr2 hyl hD hZ g1 g2 g3 hkl hol hvkc;go_wp2_with fail
    go_region_law (first
      | (go_simp;go_at_call 158;refine(cI _ (by first | exact Below.refl _ _ | exact qD (Below.refl _ _) 1)).mono ?_;rintro e w2 ⟨rfl,vo2,hst2,hend2⟩;have HST2:=Lib.hid hst2;have HEND2:=Lib.hid hend2;have HK2:=Lib.hid (yWz hend2 HK'.out HVKC.out fun g hg=>(HAP.out g hg).2);have hs2:=hend2.2.2.2.1;have hcb2:=(hend2.2.2.2.2.1 C hCr (by omega) (fun e=>(HAP.out C e).1 rfl)).trans HCB.out;have k2:w2.cell? ⟨C,4,none⟩=some vk:=cell_of_row w2 C 4 _ _ _ hcb2;have f2:=frozen_of_row w2 C 4 _ _ hcb2;have k3:∀ob,(w2.alloc ob).cell? ⟨C,4,none⟩=some vk:=fun ob=>(((Below.refl w2.heap.size w2).alloc (Nat.le_refl _) ob).cell (yL k2)).trans k2;clear hst2 hend2 hcb2)
      | (refine step_append_lies _ (by rfl) _ _ _ (by rfl) (C+1) 3 j0 _ 1 8 Tryz.underlying76 hj hy0 hy1 hy2 rfl (by omega) vk j (ints RS) (by rfl) (by exact World.ownsRow.alloc (by exact HK2.out) _) ⟨w2.heap.size,0,none⟩ 1 1 [.int .i64 Z] (by rfl) (by rfl) (by exact cell_one_new _ _ _) (fun x hx=>by simp at hx;subst hx;rfl) (by omega) (by unfold maxLen;omega) (by omega) (by simp;omega) (w2.heap.size+1) (by simp) ?_;intro g4 cap4 w4 hown4 hgrow4 hat4 hlt4;have hgrow4:(w2.alloc (.cells #[.int .i64 Z] 3)).grownBy w4 vk.ownBlock:=(by first | exact hgrow4 | exact zRw hgrow4);have HOWN4:=Lib.hid hown4;have HG4:=Lib.hid hgrow4;have HAT4:=Lib.hid hat4;have kc4:=(hgrow4.cell_far ⟨C,4,none⟩ (by simp;omega) (fun e=>by have:=(HK2.out.lt C e.symm).1;omega)).trans (k3 _);have fc4:=(hgrow4.frozen_far ⟨C,4,none⟩ (by simp;omega) (fun e=>by have:=(HK2.out.lt C e.symm).1;omega)).trans ((((Below.refl w2.heap.size w2).alloc (Nat.le_refl _) (.cells #[.int .i64 Z] 3)).frozen (p:=⟨C,4,none⟩) (yL k2)).trans f2);clear hown4 hgrow4 hat4))
    all_goals
     have HSTEP:=Lib.hid (LaRel.step (ob:=.cells #[.int .i64 Z] 3) (z:=Z) HC.out hlcC HREL.out HST2.out HEND2.out (by rw[HRS.out];exact HOWN4.out) HG4.out (by
      rcases HAT4.out with h | h
      ·exact .inl h.symm
      ·exact .inr (by rw[←h];rfl)))
     go_wp2_with fail
     go_roundw
     case rel=>
      obtain⟨hs1,hs2'⟩:=HSTEP.out;refine⟨j+1,done.app (.cons y l .nil),r,vo2,.slice (some ⟨g4,0,none⟩) (j+1) cap4,by go_num,HLN.out,by rw[HKS.out,Fr.app_cons],HN.out.keep (fun _ h=>h) fun b hb=>?_,?_⟩
      ·obtain⟨b1,b2,b3,b4,b5⟩:=HBQ.out b hb
       exact hs2' b b1 b2 b3 b4 b5
      ·have hz:((cs.length+done.sz+l.sz:Nat):Int)=Z:=by rw[←HZ.out,HCS.out,HD.out]
       rw[HSN.out y l];simp only;rw[←List.append_assoc,HCSE.out,HRSE.out,hz,HD.out,←HCS.out];exact hs1
     case measure=>simp[intOf];omega
   ·have h0:rest = .nil:=by
     cases rest with
     | nil=>rfl
     | cons y l r=>exact absurd (Nat.succ_pos _) hlt
    subst h0;have hjz:¬(j:Int)<(N:Int):=by have:(Fr.nil).len=0:=rfl;omega
    have hfin:done=ks:=by rw[hks,Fr.app_nil]
    have d0:wr.cell? ⟨C,0,none⟩=some (.int .i64 x.k):=cell_of_row wr C 0 _ _ _ hcb;have d1:wr.cell? ⟨C,1,none⟩=some (.int .i64 x.n):=cell_of_row wr C 1 _ _ _ hcb;have d2:wr.cell? ⟨C,2,none⟩=some (.string x.a):=cell_of_row wr C 2 _ _ _ hcb;have d3:wr.cell? ⟨C,3,none⟩=some (.string x.m):=cell_of_row wr C 3 _ _ _ hcb;have ko:wr.cell? ⟨cb,0,none⟩=some vo1:=cell_of_row wr cb 0 _ _ _ g2;have fo:=frozen_of_row wr cb 0 _ _ g2;have hcbr:=qC g2;rw[hCS] at ho;have hDb:D≤1000000:=by omega
    have HDB:Hid (D=cs.length+ks.sz):=Lib.hid (by rw[←hD,hfin]);have HFIN:=Lib.hid hfin;have HVK1:=Lib.hid (SpS.own (S:=fun _=>True) hk fun _ _=>trivial).one;have HO':=Lib.hid ho;obtain⟨OA,OC,rfl⟩:=jB ho;have hBr:B≤wr.heap.size:=by have:=HC.out;omega
    clear hkid hks hj hl hss hsz hn hcl hCS hRS hCSe hRSe ho hf hk hcb hend hap hk' hD hfin g1 g2 g3 hkl hol hvkc
    go_wp2_with (at_builtin;(refine wpList_append_own_at _ rfl _ _ 36 rfl B 78 i0 _ 5 72 Tryz.underlying36 hi hz0 hz1 hz2 rfl (by decide) (.slice OA D OC) D (flat CS vs) rfl (HO'.out.alloc _) ⟨wr.heap.size,0,none⟩ 1 1 [.int .i64 x.k,.int .i64 x.n,.string x.a,.string x.m,vk] rfl rfl (dC (heap_alloc_new wr _)) (fun u hu=>oA HVK1.out u hu) (by unfold maxLen;omega) (by omega) (by simp;omega) ?_);intro v4 w4 hown4 hgrow4 _ hat4;obtain⟨A4,C4,hv4⟩:=jB hown4;subst hv4;have HOWN4:=Lib.hid hown4;have HG4:=Lib.hid hgrow4;have HAT4:=Lib.hid hat4;have ko4:=(hgrow4.cell_far ⟨cb,0,none⟩ (by simp;omega) (fun e=>HG3.out.2 e.symm)).trans ((((Below.refl wr.heap.size wr).alloc (Nat.le_refl _) _).cell (p:=⟨cb,0,none⟩) hcbr).trans ko);have fo4:=(hgrow4.frozen_far ⟨cb,0,none⟩ (by simp;omega) (fun e=>HG3.out.2 e.symm)).trans ((((Below.refl wr.heap.size wr).alloc (Nat.le_refl _) _).frozen (p:=⟨cb,0,none⟩) hcbr).trans fo);clear hown4 hgrow4 hat4)
    go_ret
    obtain⟨r1,r2⟩:=LaRel.end (x:=x) (X:=X) (vo0:=vo) HC.out hlcC (fun q' h=>by have:=HX.out q' h;have:=HC.out;omega) HXC.out HNE.out HG3.out HG1.out HG2.out HF.out HKR.out HEND.out HAP.out (by rw[HCS.out];exact HOWN4.out) HG4.out (by have:=HAT4.out;simpa using this);have hfull:cs++celT (x,ks) cs.length=CS++[⟨x,RS⟩]:=by
     unfold celT;simp only;rw[←HFIN.out,←List.append_assoc,HCSE.out,HRSE.out]
    refine⟨?_,_,?_,r2⟩
    ·refine aH ?_
     have:=HDB.out;simp only;omega
    ·rw[hfull]
     exact r1
theorem yV0 (t:Tr) (hsz:szT t≤8192) (w:World) (Sq:Nat→Prop) (v:Value) (hS:Bel Sq w.heap.size) (hin:InT w Sq v t) :
  Calls Tryz.prog 100 #[v] w (zHk (celT t 0) 0 w):=by
 have hb:=(Below.refl w.heap.size w).alloc (Nat.le_refl _) (.cells #[.slice none 0 0] 38);have hs:(w.alloc (.cells #[.slice none 0 0] 38)).heap.size=w.heap.size+1:=by simp
 have cM:=vZ (some t) (w.alloc (.cells #[.slice none 0 0] 38)) Sq v (fun q h=>by have:=hS q h;omega) (hin.below hS hb) (by have:szO (some t)=szT t:=rfl;omega);have hZ0:szO (some t)=szT t:=rfl;rw[hZ0,Option.isNone_some] at cM;obtain⟨Z,hZ⟩:∃Z,szT t=Z:=⟨_,rfl⟩;obtain⟨D,hD⟩:∃D,dpO (some t)=D:=⟨_,rfl⟩;rw[hZ] at cM hsz;rw[hD] at cM;have hz:¬(8192:Int)<(Z:Int):=by omega
 have hbx:(w.alloc (.cells #[.slice none 0 0] 38)).heap[w.heap.size]? = some (.cells #[.slice none 0 0] 38 (0,0)):=heap_alloc_new w _;have HS:=Lib.hid hs;have HB:=Lib.hid hb;have HBX:=Lib.hid hbx;have HIN:=Lib.hid hin;have HBEL:=Lib.hid hS;have HZ:=Lib.hid hZ;obtain⟨i0,hi,hz0,hz1,hz2⟩:=info_parts aZ;clear hin hS hZ hD hb hbx hs hZ0
 go_enter Tryz.func100,Tryz.ntmps100
 go_wp2_with fail;refine cM.mono ?_;rintro e w1 ⟨rfl,hb1⟩;rw[HS.out] at hb1;obtain⟨H,hH⟩:∃H,w.heap.size=H:=⟨_,rfl⟩;rw[hH] at hb1;obtain⟨M,hM⟩:∃M,w1.heap.size=M:=⟨_,rfl⟩;have hs1:=hb1.size;have hsw:(w.alloc (.cells #[.slice none 0 0] 38)).heap.size=H+1:=by rw[HS.out,hH]
 rw[hsw,hM] at hs1;have hbx1:w1.heap[H]? = some (.cells #[.slice none 0 0] 38 (0,0)):=by rw[←hH];exact(hb1.block w.heap.size (by omega)).trans HBX.out
 obtain⟨W2,hW2⟩:∃W2,W2=w1.alloc (.cells #[.int .i64 (Z:Int),.int .i64 (D:Int),.bool false] 181):=⟨_,rfl⟩;have hb2:Below M w1 W2:=by rw[hW2];exact(Below.refl M w1).alloc (by omega) _
 have hs2:W2.heap.size=M+1:=by rw[hW2];simp;omega
 have hm2:W2.heap[M]? = some (.cells #[.int .i64 (Z:Int),.int .i64 (D:Int),.bool false] 181 (0,0)):=by rw[hW2,←hM];exact heap_alloc_new w1 _
 obtain⟨wm,hrun,hown,hgr⟩:=run_make_own (P:=Tryz.prog) W2 (M+1) 36 78 i0 _ 5 Tryz.underlying36 hi hz0 hz1 .i64 .i64 Z (by rw[hz2];omega) (by unfold maxLen;omega) (by omega);have m0:W2.cell? ⟨M,0,none⟩=some (.int .i64 (Z:Int)):=cell_of_row W2 M 0 _ _ _ hm2;have m2:W2.cell? ⟨M,2,none⟩=some (.bool false):=cell_of_row W2 M 2 _ _ _ hm2;have hMW:M<W2.heap.size:=by omega
 have hbm:Below (M+1) W2 wm:=⟨hgr.os,hgr.tape,hgr.output,hgr.size,fun k hk=>hgr.block k (by omega) (by simp)⟩;rw[hs2] at hrun hown;have hsm:=hbm.size;have HB1:=Lib.hid hb1;have HB2:=Lib.hid hb2;have HBM:=Lib.hid hbm;have HOWN:=Lib.hid hown;have HH:=Lib.hid hH;have HM:=Lib.hid hM;have HW2:=Lib.hid hW2;have HS2:=Lib.hid hs2;have HBX1:=Lib.hid hbx1;have HSW:=Lib.hid hsw;clear hb1 hb2 hbm hown hgr hH hM hm2 hbx1 hsw hs2 cM;rw[HH.out];have hrun2:(Instr.makeSlice 36 (.int .i64 0) (.int .i64 (Z:Int))).run Tryz.prog (w1.alloc (.cells #[.int .i64 (Z:Int),.int .i64 (D:Int),.bool false] 181)) = .ok (.slice (some ⟨M+1,0,none⟩) 0 Z) wm:=by rw[←HW2.out];exact hrun
 clear hrun;go_wp2_with fail;obtain⟨C,hC⟩:∃C,wm.heap.size=C:=⟨_,rfl⟩;rw[hC];obtain⟨W5,hW5⟩:∃W5,W5=(wm.alloc (.cells #[.slice (some ⟨M+1,0,none⟩) 0 Z] 36)).alloc (.cells #[.func (.func 158) #[] #[.pointer (some ⟨C+1,0,none⟩),.pointer (some ⟨C,0,none⟩)]] 116):=⟨_,rfl⟩;rw[←hW5];have s1:(wm.alloc (.cells #[.slice (some ⟨M+1,0,none⟩) 0 Z] 36)).heap.size=C+1:=by simp;omega
 have k1:W5.heap[C]? = some (.cells #[.slice (some ⟨M+1,0,none⟩) 0 Z] 36 (0,0)):=by
  rw[hW5,Below.heap_alloc _ _ _ (by omega),←hC];exact heap_alloc_new wm _
 have k2:W5.heap[C+1]? = some (.cells #[.func (.func 158) #[] #[.pointer (some ⟨C+1,0,none⟩),.pointer (some ⟨C,0,none⟩)]] 116 (0,0)):=by
  rw[hW5,←s1];exact heap_alloc_new _ _
 have hb5:Below C wm W5:=by rw[hW5];exact((Below.refl C wm).alloc (by omega) _).alloc (by omega) _
 have s5:W5.heap.size=C+2:=by rw[hW5];simp;omega
 have hMC:M+1≤C:=by have:=HS2.out;omega
 have hrow:W5.ownsRow (M+1) 78 5 (.slice (some ⟨M+1,0,none⟩) 0 Z) 0 []:=yC HOWN.out (by rw[hC];exact hb5);have hM1C:M+1<C:=by
  have:=(HOWN.out.lt (M+1) rfl).2;omega
 have hbw5:Below H w W5:=((((HH.out▸HB.out:Below H w _).trans (HB1.out.mono (by omega))).trans (HB2.out.mono (by omega))).trans (HBM.out.mono (by omega))).trans (hb5.mono (by omega));have hst:PkSt W5 (C+1) C (M+1) (fun q=>q=C+1∨q=C) (.slice (some ⟨M+1,0,none⟩) 0 Z) []:=⟨k2,k1,⟨by simp[Value.ownBlock];omega,by simp[Value.ownBlock];omega⟩,[],hrow,trivial⟩;have hbx5:W5.heap[H]? = some (.cells #[.slice none 0 0] 38 (0,0)):=by
  rw[hb5.block H (by omega),HBM.out.block H (by omega),HB2.out.block H (by omega)];exact HBX1.out
 have hZ0:szO (some t)=szT t:=rfl;have cL:=zOl 100000 (Nat.le_refl _) t (by have:=HZ.out;omega) W5 Sq v (C+1) C (M+1) (fun q=>q=C+1∨q=C) (.slice (some ⟨M+1,0,none⟩) 0 Z) [] ⟨by omega,by omega,by omega⟩ (by omega) (by rintro q (rfl | rfl)<;>omega) (.inr rfl) (fun q hq=>by have:=HBEL.out q hq;have:=HH.out;exact⟨by omega,by omega⟩) (HIN.out.below HBEL.out (by rw[HH.out];exact hbw5)) hst (by have:=HZ.out;simp;omega)
 have HBW5:=Lib.hid hbw5;have HBX5:=Lib.hid hbx5;have HS5:=Lib.hid s5;clear hrun2 m0 m2 hW5 s1 k1 k2 hb5 s5 hrow hbw5 hst hbx5 hZ0 hC;refine cL.mono ?_;rintro e w6 ⟨rfl,vo6,⟨g1,g2,g3,vs,ho,hf⟩,he⟩;obtain⟨e1,e2,e3,e4,e5,e6⟩:=he;rw[List.nil_append] at ho hf;have e4':=e4;rw[HS5.out] at e4';have hbx6:w6.heap[H]? = some (.cells #[.slice none 0 0] 38 (0,0)):=by
  rw[e5 H (by have:=HS5.out;omega) (by omega) (by simp[Value.ownBlock];omega)];exact HBX5.out
 obtain⟨A6,C6,rfl⟩:=jB ho;have q0:w6.cell? ⟨C,0,none⟩=some (.slice A6 (celT t ([]:List Cel).length).length C6):=cell_of_row w6 C 0 _ _ _ g2;have r0:w6.cell? ⟨H,0,none⟩=some (.slice none 0 0):=cell_of_row w6 H 0 _ _ _ hbx6;have rf0:=frozen_of_row w6 H 0 _ _ hbx6;have hHw:=qC hbx6;have hCw:=qC g2;have hbel6:Below H w w6:=⟨e1.trans HBW5.out.os,e2.trans HBW5.out.tape,e3.trans HBW5.out.output,Nat.le_trans HBW5.out.size e4,fun k hk=>(e5 k (by have:=HS5.out;omega) (by omega) (by simp[Value.ownBlock];omega)).trans (HBW5.out.block k hk)⟩;have hnH:(Value.slice A6 (celT t ([]:List Cel).length).length C6).ownBlock≠some H:=by
  rcases e6 with h | h
  ·rw[h];simp[Value.ownBlock];omega
  ·intro e;have:=h H e;have:=HS5.out;omega
 have HO:=Lib.hid ho;have HF:=Lib.hid hf;have HBEL6:=Lib.hid hbel6;have HNH:=Lib.hid hnH;obtain⟨L,hL⟩:∃L,(celT t ([]:List Cel).length).length=L:=⟨_,rfl⟩;rw[hL] at q0;have HL:=Lib.hid hL;clear ho hf hbel6 hnH g1 g2 g3 e1 e2 e3 e5 e6 hbx6 hL cL;go_wp2_with fail;have hcls:Cls (w6.setCell ⟨H,0,none⟩ (.slice A6 L C6)) (w6.setCell ⟨H,0,none⟩ (.slice A6 L C6)).heap.size (.slice A6 L C6) (celT t 0):=by
  rw[←HL.out];refine OwnC.cls (H:=M+1) ⟨vs,zC HO.out _ _ (fun g hg=>fun e=>HNH.out (by rw[hg,e])),HF.out.keep (fun q h=>⟨h.1,by simpa [World.setCell] using h.2.1,h.2.2.1⟩) fun b h=>Below.heap_setCell _ _ _ _ (by have:=h.1;simp only;omega)⟩
 exact bodyPost_ret (v:=.tuple #[.agg #[.slice A6 L C6],.int .i64 0]) (by simp[results,Tryz.results100,go_sem,r0]) rfl ⟨_,rfl,hcls,by rw[HH.out];exact HBEL6.out.setCell (Nat.le_refl _) _⟩
theorem uDeep (o:Option Tr) {W w:World} {v:Value} (h:HasT W v o) (hz:szO o≤65536) (u:Up W w):Calls Tryz.prog 101 #[v] w (NuP (dpO o) W):=
 (yWp o w _ v HasT.bel (h.up u) hz).mono fun _ _ k=>⟨k.1,u.of k.2⟩
theorem uPack (t:Tr) {W w:World} {v:Value} (h:HasT W v (some t)) (hz:szT t≤8192) (u:Up W w) :
  Calls Tryz.prog 100 #[v] w fun e w'=>∃v',e = .returned (.tuple #[.agg #[v'],.int .i64 0])∧Cls w' w'.heap.size v' (celT t 0)∧Up W w':=
 (yV0 t hz w _ v HasT.bel (h.up u)).mono fun _ _ k=>by obtain⟨p,k1,k2,k3⟩:=k;exact⟨p,k1,k2,u.of k3⟩
theorem zUy (k:FuncId) (ek:Ent k) (t:Tr) (b:Bool) (v:Value) (w:World) (hx:B.Nx w) (hv:HasT w v (some t)) (hz:szT t≤8192) (cT:TelAt k b t) :
  Calls Tryz.prog 45 #[v,.func (.func k) #[] #[]] w (InP (if 60<dpT t then 7 else if b then 0 else 16) w):=by
 have cP:=uPack t hv hz (Up.refl w);have cD:∀w',Up w w'→Calls Tryz.prog 101 #[v] w' (NuP (dpT t) w):=fun w' u=>uDeep (some t) hv (by show szT t≤65536;omega) u
 have cK:∀w',Up w w'→Calls Tryz.prog k #[v] w' (TelB b w'):=fun w' u=>cT w' v (Nx.up hx u) (hv.up u)
 obtain⟨D,hD⟩:∃D,dpT t=D:=⟨_,rfl⟩;rw[hD] at cD ⊢;clear hx hv hz cT hD
 by_cases hd:60<D
 ·have hd':(60:Int)<(D:Int):=by omega
  rw[if_pos hd]
  go_enter Tryz.func45,Tryz.ntmps45
  go_wp2_with fail;refine cP.mono ?_;rintro e w1 ⟨v',rfl,hcl,u1⟩;obtain⟨A6,C6,rfl,-⟩:=id hcl;clear hcl cP cK;go_wp2_with fail;refine(cD _ (u1.alloc _)).mono ?_;rintro e w2 ⟨rfl,u2⟩;go_wp2_with fail
  go_ret
  exact mH rfl u2
 ·have hd':¬(60:Int)<(D:Int):=by omega
  rw[if_neg hd]
  cases b
  all_goals
   go_enter Tryz.func45,Tryz.ntmps45
   go_wp2_with fail;refine cP.mono ?_;rintro e w1 ⟨v',rfl,hcl,u1⟩;obtain⟨A6,C6,rfl,-⟩:=id hcl;clear hcl cP;go_wp2_with fail;refine(cD _ (u1.alloc _)).mono ?_;rintro e w2 ⟨rfl,u2⟩;go_wp2_with fail;rw[ek,Oper.upon_enter];refine(cK _ u2).mono ?_;rintro e w3 ⟨rfl,u3⟩;go_wp2_with fail
   go_ret
   exact mH rfl (u2.trans u3)
theorem zUz {z:Int} {W w:World} {v:Value} (h:Calls Tryz.prog 45 #[v,.func (.func 46) #[] #[]] w (InP z W)):Calls Tryz.prog 22 #[v] w (InP z W):=by
 go_enter Tryz.func22,Tryz.ntmps22
 go_wp2_with fail;refine h.mono ?_;rintro e w1 ⟨rfl,u1⟩;go_wp2_with fail
 go_ret
 exact mH rfl u1
section
variable {nk lg:ByteArray→Bool}
end
theorem nK:∀(l:List Tk),Lib.join ((txt l).map (·.data.toList)) (ByteArray.mk #[32]).data.toList=jT l
 | []=>rfl
 | [a]=>Lib.join_one _ _
 | a::b::r=>by
  have ih:=nK (b::r);have e1:(txt (a::b::r)).map (·.data.toList)=a.s.data.toList::(txt (b::r)).map (·.data.toList):=rfl;have e2:(txt (b::r)).map (·.data.toList)=b.s.data.toList::(txt r).map (·.data.toList):=rfl;rw[e1,Lib.join_cons];rw[e2,Lib.join_cons] at ih
  show _=a.s.data.toList++32::jT (b::r)
  rw[←ih,e2]
  show a.s.data.toList++Lib.joinTail [32] (b.s.data.toList::(txt r).map (·.data.toList))=_
  simp[Lib.joinTail]
def zLb (o:Option Tr):ByteArray:=match o with
 | some t=>txE qE t
 | none=>nob
def dT (o:Option Tr) (W:World) (e:Ending) (w':World):Prop:=e = .returned (.tuple #[.string (if chk B.nck B.long o 2=0 then zLb o else nob),.int .i64 (chk B.nck B.long o 2)])∧Up W w'
theorem hasOp {W w:World} {va vb:Value} {a b:Tr} {k:Int} (hW:W.heap.size≤w.heap.size) (ha:NewT W w va a) (hb:NewT W w vb b) :
  NewT W ((w.alloc (.cells #[va,vb] 24)).alloc (.cells #[.int .i64 31,.int .i64 k,.string ⟨#[]⟩,.string ⟨#[]⟩,.slice (some ⟨w.heap.size,0,none⟩) 2 2] 57)) (.pointer (some ⟨w.heap.size+1,0,none⟩)) (opN k,fr2 a b):=by
 have e1:(w.alloc (.cells #[va,vb] 24)).heap.size=w.heap.size+1:=by simp
 rw[←e1];obtain⟨W1,hW1⟩:∃W1,w.alloc (.cells #[va,vb] 24)=W1:=⟨_,rfl⟩;have s1:W1.heap[w.heap.size]? = some (.cells #[va,vb] 24 (0,0)):=by rw[←hW1];exact heap_alloc_new w _
 have u1:Up w W1:=by rw[←hW1];exact(Up.refl w).alloc _
 have z1:=u1.size;rw[hW1];obtain⟨W2,hW2⟩:∃W2,W1.alloc (.cells #[.int .i64 31,.int .i64 k,.string ⟨#[]⟩,.string ⟨#[]⟩,.slice (some ⟨w.heap.size,0,none⟩) 2 2] 57)=W2:=⟨_,rfl⟩;have s2:W2.heap[W1.heap.size]? = some (.cells #[.int .i64 31,.int .i64 k,.string ⟨#[]⟩,.string ⟨#[]⟩,.slice (some ⟨w.heap.size,0,none⟩) 2 2] 57 (0,0)):=by rw[←hW2];exact heap_alloc_new W1 _
 have u2:Up W1 W2:=by rw[←hW2];exact(Up.refl W1).alloc _
 have s3:W2.heap[w.heap.size]? = some (.cells #[va,vb] 24 (0,0)):=u2.row s1;rw[hW2];exact yU (x:=opN k) (f:=fr2 a b) s2 rfl (Nat.le_refl _) ⟨by omega,qC s2⟩ ⟨hW,qC s3⟩ ⟨⟨_,cell_of_row W2 w.heap.size 0 _ _ _ s3,ha.up (u1.trans u2)⟩,⟨_,cell_of_row W2 w.heap.size 1 _ _ _ s3,hb.up (u1.trans u2)⟩,trivial⟩
theorem mP {W w:World} {k n:Int} {s:ByteArray} (hW:W.heap.size≤w.heap.size):NewT W (w.alloc (.cells #[.int .i64 k,.int .i64 n,.string s,.string ⟨#[]⟩,.slice none 0 0] 57)) (.pointer (some ⟨w.heap.size,0,none⟩)) (⟨k,n,s,nob⟩,.nil):=
 nI (x:=⟨k,n,s,nob⟩) (heap_alloc_new w _) ⟨hW,qC (heap_alloc_new w _)⟩
def expZ (nk lg:ByteArray→Bool) (l:List Te) (n:Nat) (i:Int):Rs Tr:=if i<0∨(l.length:Int)<i then .inr (0,2) else exprF nk lg l n i.toNat
end Go.Proofs.YtbpijnalmakfaaaGreatDoor
namespace Go.Proofs.YtbpijnalmakfaaaGreatDoor
open Go.ChangeShapes Go.WideShapes Go.Deep Go.RowKit
def w5 (w:World) (a:Addr) (c:Cel) (kv:Value):Prop:=w.cell? (a.add 0)=some (.int .i64 c.x.k)∧w.cell? (a.add 1)=some (.int .i64 c.x.n)∧w.cell? (a.add 2)=some (.string c.x.a)∧w.cell? (a.add 3)=some (.string c.x.m)∧w.cell? (a.add 4)=some kv
end Go.Proofs.YtbpijnalmakfaaaGreatDoor
namespace Go.Proofs.YtbpijnalmakfaaaGreatDoor
open Go.RowKit
def rI {α:Type}:Rs α→Nat
 | .inl (_,j)=>j
 | .inr (p,_)=>p
def rE {α:Type}:Rs α→Int
 | .inl _=>0
 | .inr (_,r)=>r
def Two (a b:Nat) (q:Nat):Prop:=q=a∨q=b
theorem Gs.two {b c:Nat} {w w':World} (h:Gs (On b) w w'):Gs (Two b c) w w':=h.wide fun _ _ hq=>.inl hq
theorem Gs.out2 {b c:Nat} {a w w':World} (h:Gs (On b) a w) (g:Gs (Two b c) w w') (hc:a.heap.size≤c):Gs (On b) a w':=
 ⟨g.os.trans h.os,g.tape.trans h.tape,g.output.trans h.output,Nat.le_trans h.size g.size,fun k hk hn=>(g.block k (Nat.lt_of_lt_of_le hk h.size) (by intro hq;rcases hq with hq | hq;exact hn hq;omega)).trans (h.block k hk hn)⟩
def P1 (wb:World) (B2:Nat) (R:Rs Tr) (w:World):Prop:=∃A,Boxed w B2 24 (.pointer A)∧∀t j,R = .inl (t,j)→InT w (fun q=>NewS wb w q∧q≠B2) (.pointer A) t
theorem zGi (wb:World) (b:Nat) (v:Value) (B1 B2:Nat) (A0:Option Addr) (R:Rs Tr) (w:World) (hz:wb.heap.size≤w.heap.size) (hbw:b≠B2) (hB2:B2<w.heap.size) (c1:w.cell? ⟨B1,0,none⟩=some (.pointer (some ⟨b,0,none⟩))) (b2:Boxed w B2 24 (.pointer A0))
  (cA:Calls Tryz.prog 170 #[.agg #[.pointer (some ⟨b,0,none⟩)]] w (PaT (On b) b v R (fun _ _=>True) w)) :
  Calls Tryz.prog 246 #[.pointer (some ⟨B1,0,none⟩),.pointer (some ⟨B2,0,none⟩)] w (InL (Two b B2) b v (rI R) (rE R) (P1 wb B2 R) w):=by
 have HB:=Lib.hid b2;clear b2
 go_enter Tryz.func246,Tryz.ntmps246
 go_wp2_with fail;refine cA.mono ?_;rintro en w1 ⟨A,rfl,g1,hR⟩;have b3:Boxed w1 B2 24 (.pointer A0):=g1.row HB.out (by unfold On;omega);have c3:=b3.cell;have f3:=b3.frozen;have hb3:=b3.lt;have B3:=Lib.hid b3;have G1:=Lib.hid g1;have HR:=Lib.hid hR;have hz1:=g1.size;clear b3 g1 hR cA;go_wp2_with fail;go_end0;have hne:∀q,q≠B2→(w1.setCell ⟨B2,0,none⟩ (.pointer A)).heap[q]? = w1.heap[q]?:=fun q hq=>Below.heap_setCell _ _ _ _ hq
 refine⟨⟨_,rfl⟩,(G1.out.two).set _ _ (.inl (.inr rfl)),?_,A,B3.out.set _,fun t j hR=>?_⟩
 ·have h:=HR.out
  cases R with
  | inl e=>exact(hne b hbw).trans h.2.1
  | inr e=>exact(hne b hbw).trans h
 ·have h:=HR.out
  rw[hR] at h;have hs:(w1.setCell ⟨B2,0,none⟩ (.pointer A)).heap.size=w1.heap.size:=by simp[World.setCell]
  exact InT.keep h.1 (fun q hq=>⟨⟨by have:=hq.1;omega,by rw[hs];exact hq.2⟩,by have:=hq.1;omega⟩) fun q hq=>hne q (by have:=hq.1;omega)
section
variable {nk lg:ByteArray→Bool}
def parR (l:List Tk) (R:Rs Tr):Rs Tr:=match R with
 | .inr e=>.inr e
 | .inl (t,j)=>if key l j kShut then .inl (t,j+1) else .inr (j,6)
theorem kC {l:List Tk} {i:Nat} {e:Int} {x:ByteArray} (h:¬e=0):tkB l i e x=false:=by unfold tkB;rw[decide_eq_false h,Bool.false_and]
theorem yA {l:List Tk} {i:Nat} {x:ByteArray}:tkB l i 0 x=key l i x:=by unfold tkB;rw[decide_eq_true rfl,Bool.true_and]
theorem oT {e:Int} (h:¬e=0):neE e false=e:=if_neg h
theorem zRx {V0:World} {l:List Tk} (b:Nat) (v:Value) (i:Nat) (R:Rs Tr) (hR:LeOk l.length R) (hl:l.length≤100000) (w:World) (T:Toks nk lg V0 v l) (h:Psr w b v i 0) (hu:Up V0 w) (hbW:V0.heap.size≤b) (hP:Pl w) (hi:i≤1000000) (hn:∀k,k<3→tkB l i 0 (plS k)=false) (hy:tkB l i 0 kOpen=true)
  (cA:∀w',Gs (On b) w w'→Psr w' b v (i+1) 0→Calls Tryz.prog 170 #[.agg #[.pointer (some ⟨b,0,none⟩)]] w' (PaT (On b) b v R (fun _ _=>True) w')) :
  Calls Tryz.prog 224 #[.agg #[.pointer (some ⟨b,0,none⟩)]] w (PaT (On b) b v (parR l R) (fun _ _=>True) w):=by
 have HY:=Lib.hid hy;have HCA:=Lib.hid cA;have HLE:=Lib.hid hR;clear hy cA hR;obtain⟨tp,zp,hpl⟩:=hP;have hb:b<w.heap.size:=qC h;have hpw:7<w.heap.size:=qC hpl;have H:=Lib.hid h;have HPL:=Lib.hid hpl;have HU:=Lib.hid hu;have HT:=Lib.hid T;have HN:=Lib.hid hn;have hpl2:((w.alloc (.cells #[.pointer (some ⟨b,0,none⟩)] 188)).alloc (.cells #[.pointer none] 24)).heap[7]? = some (.cells plV tp zp):=(((Up.refl w).alloc _).alloc _).row hpl;clear h hpl hu T hn
 go_enter Tryz.func224,Tryz.ntmps224
 go_wp2_with (refine wpList_load_row rfl 258 (.global 7) rfl 7 rfl tp plV zp _ hpl2 Tryz.underlying258 rfl (by kernel_rfl) ?_)
 generalize hA:plV=AR
 have HAR:=Lib.hid hA;obtain⟨W0,hW0⟩:∃W0,(w.alloc (.cells #[.pointer (some ⟨b,0,none⟩)] 188)).alloc (.cells #[.pointer none] 24)=W0:=⟨_,rfl⟩;have z0:W0.heap.size=w.heap.size+2:=by rw[←hW0];simp
 have b1:W0.heap[w.heap.size]? = some (.cells #[.pointer (some ⟨b,0,none⟩)] 188 (0,0)):=by rw[←hW0];exact kL _ (heap_alloc_new w _)
 have b2:W0.heap[w.heap.size+1]? = some (.cells #[.pointer none] 24 (0,0)):=by rw[←hW0];exact vV _ _ (by simp)
 have u0:Up w W0:=by rw[←hW0];exact((Up.refl w).alloc _).alloc _
 have B1:=Lib.hid b1;have B2:=Lib.hid b2;have UZ:=Lib.hid u0;rw[hW0];clear hA hpl2 hW0 b1 b2 u0
 go_loopw [6] (fun x wr=>∃k:Nat,k≤3∧x = .int .i64 (k:Int)∧Gs (On b) W0 wr∧Psr wr b v i 0) (fun x _=>4-(intOf x).toNat)
 case atStart=>exact⟨0,Nat.zero_le _,rfl,Gs.refl _ _,H.out.up UZ.out⟩
 case round=>
  obtain⟨k,hk,rfl,hg,ps⟩:=hrel;have hgs:=hg.size;have hur:Up V0 wr:=hg.up (HU.out.trans UZ.out) (fun q hq=>by rw[hq];exact hbW);have r1:wr.heap[w.heap.size]? = some (.cells #[.pointer (some ⟨b,0,none⟩)] 188 (0,0)):=hg.row B1.out (by unfold On;omega);have r2:wr.heap[w.heap.size+1]? = some (.cells #[.pointer none] 24 (0,0)):=hg.row B2.out (by unfold On;omega);have c1:wr.cell? ⟨w.heap.size,0,none⟩=some (.pointer (some ⟨b,0,none⟩)):=cell_of_row wr w.heap.size 0 _ _ _ r1;have hbw:w.heap.size<wr.heap.size:=by omega
  by_cases hlt:k<3
  ·have hix:∀W,(Instr.index 258 (.agg AR) (.int .i64 (k:Int))).run Tryz.prog W = .ok (.agg #[.string (plS k),.int .i64 ((k+1:Nat):Int)]) W:=fun W=>by rw[←HAR.out];exact dM k (by omega) W
   have hw:IntKind.i64.wrap ((k:Int)+1)=((k+1:Nat):Int):=by rw[IntKind.wrap_i64];omega
   have hkz:(k:Int)<3:=by omega
   obtain⟨X,hX⟩:∃X,plS k=X:=⟨_,rfl⟩;obtain⟨ka,hka⟩:∃ka,((k+1:Nat):Int)=ka:=⟨_,rfl⟩;rw[hX,hka] at hix;have HX:=Lib.hid hX;have HKA:=Lib.hid hka;rw[hka] at hw;obtain⟨Wr,hWr⟩:∃Wr,wr.alloc (.cells #[.string X,.int .i64 ka] 257)=Wr:=⟨_,rfl⟩;have ur:Up wr Wr:=by rw[←hWr];exact(Up.refl wr).alloc _
   have cT:Calls Tryz.prog 47 #[.pointer (some ⟨b,0,none⟩),.string X] Wr (TaP b v i 0 (tkB l i 0 X) Wr):=qW b v i 0 X Wr HT.out (ps.up ur) (hur.trans ur) hi;rw[←hX] at cT;rw[HN.out k (by omega),hX] at cT;have HG:=Lib.hid hg;have WRD:=Lib.hid hWr;have UR:=Lib.hid ur;clear hX hka hWr ur hg ps hur r1 r2;go_wp2_with fail;rw[WRD.out];refine cT.mono ?_;rintro en w2 ⟨rfl,g2,h2⟩;go_wp2_with fail
   go_roundw
   case rel=>exact⟨k+1,by omega,zV (by have:=HKA.out;omega),(HG.out.trans (Gs.of UR.out)).trans g2,h2⟩
   case measure=>simp[intOf];have:=HKA.out;omega
  ·obtain rfl:k=3:=by omega
   have hSee:Calls Tryz.prog 110 #[.pointer (some ⟨b,0,none⟩),.string kOpen] wr (BoU true wr):=by have h:=gI b v i 0 kOpen wr HT.out ps hur;rw[HY.out] at h;exact h
   have HG:=Lib.hid hg;have HPS:=Lib.hid ps;have HR1:=Lib.hid r1;have HR2:=Lib.hid r2;have HUR:=Lib.hid hur;clear hg ps r1 r2 hur;go_wp2_with fail;refine hSee.mono ?_;rintro en w1 ⟨rfl,u1⟩;have c1b:=(show Up wr w1 from u1).cell c1;have hz1:wr.heap.size≤w1.heap.size:=(show Up wr w1 from u1).size;have hgA:Gs (On b) w w1:=((Gs.of UZ.out).trans HG.out).trans (Gs.of u1);have HB2:Hid (Boxed w1 (w.heap.size+1) 24 (.pointer none)):=Lib.hid (Up.row u1 HR2.out);have HB1:Hid (w1.heap[w.heap.size]? = some (.cells #[.pointer (some ⟨b,0,none⟩)] 188 (0,0))):=Lib.hid (Up.row u1 HR1.out);have cB:=jA b v i 0 kOpen kShut 246 #[.pointer (some ⟨w.heap.size,0,none⟩),.pointer (some ⟨w.heap.size+1,0,none⟩)] (fun _ _=>by kernel_rfl) (Two b (w.heap.size+1)) (fun q hq=>by have:=HU.out.size;rcases hq with hq | hq<;>omega) hbW (rI R) (rE R) (P1 w (w.heap.size+1) R) w1
    HT.out (HPS.out.up u1) (HUR.out.trans u1) hi (by have h:=HLE.out.1;cases R<;>(simp only[rI];simp only[pl] at h;omega)) (fun w2 g2 h2=>by
     rw[HY.out] at h2;exact zGi w b v w.heap.size (w.heap.size+1) none R w2 (by have:=g2.size;omega) (by omega) (by have:=g2.size;omega) (cell_of_row w2 _ 0 _ _ _ (g2.row HB1.out (by unfold On;omega))) (g2.row HB2.out (by unfold On;omega)) (HCA.out w2 (hgA.trans g2) h2))
   have HGA:=Lib.hid hgA;clear hgA u1 hSee c1;go_wp2_with fail;refine cB.mono ?_;rintro en w4 ⟨⟨u,rfl⟩,w2,w3,g2,g3,⟨A,b3,hT⟩,g4,h4⟩;have b4:Boxed w4 (w.heap.size+1) 24 (.pointer A):=g4.row b3 (by unfold On;omega);have c4:=b4.cell;have f4:=b4.frozen;have hb4:=b4.lt;have hgF:Gs (On b) w w4:=((HGA.out.trans g2).out2 g3 (by omega)).trans g4;have HGF:=Lib.hid hgF;have HTT:Hid (∀t j,R = .inl (t,j)→InT w4 (fun q=>NewS w w4 q∧q≠w.heap.size+1) (.pointer A) t):=Lib.hid fun t j hR=>InT.keep (hT t j hR) (fun q hq=>⟨⟨hq.1.1,Nat.lt_of_lt_of_le hq.1.2 g4.size⟩,hq.2⟩) fun q hq=>g4.block q hq.1.2 (by have:=hq.1.1;unfold On;omega)
   have H4:=Lib.hid h4;have B4:=Lib.hid b4;clear cB b4 hgF h4 g2 g3 g4 b3 hT;go_wp2_with fail;obtain⟨WF,hWF⟩:∃WF,w4.setCell ⟨w.heap.size+1,0,none⟩ (.pointer A)=WF:=⟨_,rfl⟩;have bF:Boxed WF (w.heap.size+1) 24 (.pointer A):=by rw[←hWF];exact B4.out.set _
   have r0:=bF.cell;have hs:WF.heap.size=w4.heap.size:=by rw[←hWF];simp[World.setCell]
   have hne:∀q,q≠w.heap.size+1→WF.heap[q]? = w4.heap[q]?:=fun q hq=>by rw[←hWF];exact Below.heap_setCell _ _ _ _ hq
   have gF:Gs (On b) w WF:=by rw[←hWF];exact HGF.out.set _ _ (.inr (by simp))
   have pF:Psr WF b v (neI (rI R) (tkB l (rI R) (rE R) kShut)) (neE (rE R) (tkB l (rI R) (rE R) kShut)):=(hne b (by omega)).trans H4.out;have hle:=HLE.out;rw[hWF];refine bodyPost_ret (v:=.pointer A) (by simp[results,Tryz.results224,go_sem,r0]) rfl ⟨_,rfl,gF,?_⟩
   cases R with
   | inr e=>
    obtain⟨p,r⟩:=e;have hr:¬r=0:=hle.2 p r rfl;simp only[rI,rE] at pF;rw[kC hr,oT hr] at pF;exact pF
   | inl e=>
    obtain⟨t,j⟩:=e;simp only[rI,rE] at pF;rw[yA] at pF;unfold parR;simp only
    cases hk:key l j kShut with
    | false=>rw[hk] at pF;exact pF
    | true=>
     rw[hk] at pF;exact⟨InT.keep (HTT.out t j rfl) (fun q hq=>⟨hq.1.1,by rw[hs];exact hq.1.2⟩) (fun q hq=>hne q hq.2),pF,trivial⟩
end
end Go.Proofs.YtbpijnalmakfaaaGreatDoor
