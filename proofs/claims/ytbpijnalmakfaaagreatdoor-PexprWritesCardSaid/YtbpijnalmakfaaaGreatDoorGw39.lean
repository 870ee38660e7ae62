/-
  The program's Open: what it tells.
-/
import Derived.Test.YtbpijnalmakfaaaGreatDoorGw30
import Derived.Test.YtbpijnalmakfaaaGreatDoorGw35
import Derived.Test.YtbpijnalmakfaaaGreatDoorGw38
set_option maxHeartbeats 40000000
set_option maxRecDepth 100000
namespace Go.Proofs.YtbpijnalmakfaaaGreatDoor
open Go.RowKit
theorem zYn:∀(l:List Tr) (i:Nat),(rowOf l).get i=l[i]?
 | [],_=>rfl
 | t::r,0=>rfl
 | t::r,i+1=>by
  show(rowOf r).get i=_
  rw[zYn r i]
  simp
def sW (cs:List Cel) (N I:Nat):Fr:=rowOf ((List.range I).map (gr cs N))
theorem zS4 (cs:List Cel) (N I:Nat):sW cs N (I+1)=(sW cs N I).app (.cons (gr cs N I).1 (gr cs N I).2 .nil):=by
 unfold sW;rw[List.range_succ,List.map_append];exact uJ _ _
theorem uV {cs:List Cel} {N I m:Nat} (h:m<I):(sW cs N I).get m=some (gr cs N m):=by
 unfold sW;rw[zYn]
 simp[h]
theorem zWy {w:World} {S:Nat→Prop}:∀{vs:List Value} {f:Fr} {m:Nat} {t:Tr},PtF w S vs f→f.get m=some t→∃v,vs[m]? = some v∧InT w S v t
 | [],.nil,_,_,_,h=>by cases h
 | [],.cons _ _ _,_,_,h,_=>h.elim
 | _::_,.nil,_,_,h,_=>h.elim
 | v::_,.cons _ _ _,0,_,h,hg=>by injection hg with hg;subst hg;exact⟨v,rfl,h.1⟩
 | _::vs,.cons _ _ rs,m+1,_,h,hg=>zWy (vs:=vs) (f:=rs) (m:=m) h.2 hg
theorem zKg {wa w4:World} {H:Nat} {vo v' u:Value} {f:Fr} {t:Tr} {ps:List Value} {ob:Obj} (hp:PtF wa (So H wa vo) ps f) (hu:InT wa (So H wa vo) u t)
  (hg:(wa.alloc ob).grownBy w4 vo.ownBlock) (hat:v'.ownBlock=vo.ownBlock∨v'.ownBlock=some (wa.heap.size+1)):PtF w4 (So H w4 v') (ps++[u]) (f.app (.cons t.1 t.2 .nil)):=by
 have hasz:(wa.alloc ob).heap.size=wa.heap.size+1:=by simp
 have hs4:=hg.size;have hk:∀b,So H wa vo b→w4.heap[b]? = wa.heap[b]?:=by
  rintro b ⟨h1,h2,h3⟩;rw[hg.block b (by omega) (fun e=>h3 e.symm)];exact((Below.refl wa.heap.size wa).alloc (Nat.le_refl _) ob).block b h2
 have hS:∀q,So H wa vo q→So H w4 v' q:=by
  rintro q ⟨h1,h2,h3⟩;refine⟨h1,by omega,?_⟩
  rcases hat with h | h
  ·rw[h];exact h3
  ·rw[h];intro e;injection e with e;omega
 exact PtF.snoc (hu.keep hS hk) (hp.keep hS hk)
theorem zQo (w:World) (o1 o2:Obj):((w.alloc o1).alloc o2).heap[w.heap.size+1]? = some o2∧Below w.heap.size w ((w.alloc o1).alloc o2)∧((w.alloc o1).alloc o2).heap.size=w.heap.size+2:=by
 have s1:(w.alloc o1).heap.size=w.heap.size+1:=by simp
 refine⟨?_,((Below.refl _ _).alloc (Nat.le_refl _) _).alloc (by simp) _,by simp⟩;rw[←s1];exact heap_alloc_new _ o2
theorem zKh {w w':World} {ob:Obj} {r:Option Nat} {n:Nat} (h:((w.drewN n).alloc ob).grownBy w' r):(w.alloc ob).grownBy w' r:=⟨h.os,h.tape,h.output,h.size,h.block⟩
theorem zQp {WN w2 w4:World} {H g4 cap4 k:Nat} {e:TypeId} {S:Nat→Prop} {vk u:Value} {new:Fr} {x:Nod} {T:Tr} {ps:List Value} {ob:Obj} (hS:Bel S H) (hbw:Below H WN w2) (hpt:PtF w2 (Sk S H w2 vk) ps new) (hlen:new.len=k)
  (hnb2:Nb w2 H x vk) (hvH:vk.ownBlock≠some H) (hvl:∀g,vk.ownBlock=some g→H+1≤g) (hu:InT w2 (Sk S H w2 vk) u T)
  (ho4:w4.ownsRow (H+1) e 1 (.slice (some ⟨g4,0,none⟩) (k+1) cap4) (k+1) (ps++[u])) (hg4:(w2.alloc ob).grownBy w4 vk.ownBlock) (hat4:vk.ownBlock=some g4∨g4=w2.heap.size+1) :
  ∃ps',(w4.setCell ⟨H,4,none⟩ (.slice (some ⟨g4,0,none⟩) (k+1) cap4)).ownsRow (H+1) e 1 (.slice (some ⟨g4,0,none⟩) (k+1) cap4) (k+1) ps'∧
   PtF (w4.setCell ⟨H,4,none⟩ (.slice (some ⟨g4,0,none⟩) (k+1) cap4)) (Sk S H (w4.setCell ⟨H,4,none⟩ (.slice (some ⟨g4,0,none⟩) (k+1) cap4)) (.slice (some ⟨g4,0,none⟩) (k+1) cap4)) ps' (new.app (.cons T.1 T.2 .nil))∧
   Nb (w4.setCell ⟨H,4,none⟩ (.slice (some ⟨g4,0,none⟩) (k+1) cap4)) H x (.slice (some ⟨g4,0,none⟩) (k+1) cap4)∧Below H WN (w4.setCell ⟨H,4,none⟩ (.slice (some ⟨g4,0,none⟩) (k+1) cap4))∧
   (Value.slice (some ⟨g4,0,none⟩) (k+1) cap4).ownBlock≠some H∧(∀g,(Value.slice (some ⟨g4,0,none⟩) (k+1) cap4).ownBlock=some g→H+1≤g):=by
 have hm:=zTn (w:=WN) (t:=T) hS hbw hnb2 hpt hvH hu (by rw[hlen];exact ho4) hg4 (by
  rcases hat4 with h | h
  ·exact .inl h.symm
  ·exact .inr (by rw[←h];rfl)) hvl
 obtain⟨⟨ps',ho',hp'⟩,hn',hb',hv1,hv2'⟩:=hm;rw[Fr.len_app,hlen] at ho';exact⟨ps',ho',hp',hn',hb',hv1,hv2'⟩
theorem yVx (cs:List Cel) (w:World) (cv:Value) (hcl:Cls w w.heap.size cv cs) (hkl:∀(j:Nat) (c:Cel),cs[j]? = some c→c.ks.length≤1000000) (hlen:cs.length≤1000000000) :
  Calls Tryz.prog 19 #[.agg #[cv]] w (sU No (opR cs).1 (opR cs).2 w):=by
 have HCL:=Lib.hid hcl;have HKL:=Lib.hid hkl;obtain⟨A,c,rfl,hc,hcell⟩:=hcl;have HCELL:=Lib.hid hcell;obtain⟨N,hN⟩:∃N,cs.length=N:=⟨_,rfl⟩;have hN0:=zQm (cs:=cs);have hN1:=zNe (cs:=cs);have hbad:=zQn (cs:=cs);have hgood:=zWv (cs:=cs);obtain⟨R,hR⟩:∃R,opR cs=R:=⟨_,rfl⟩;rw[hR] at hN0 hN1 hbad hgood ⊢;rw[hN] at hN0 hN1 hbad hgood hc hlen ⊢;have HNN:=Lib.hid hN;have HBAD:=Lib.hid hbad;have HGOOD:=Lib.hid hgood;clear hcell hkl hR hbad hgood;have hb:=(Below.refl w.heap.size w).alloc (Nat.le_refl _) (.cells #[.slice A N c] 38)
 by_cases h0:N=0
 ·have HU:=Lib.hid (hN0 h0)
  have hz:((N:Int)==0)=true:=by rw[beq_iff_eq];omega
  clear hN0 hN1 h0 hN
  go_enter Tryz.func19,Tryz.ntmps19
  go_wp2_with fail
  go_ret2
  exact fQ HU.out rfl hb
 ·have hz:((N:Int)==0)=false:=by rw[beq_eq_false_iff_ne];omega
  by_cases h1:8192<N
  ·have HU:=Lib.hid (hN1 h1)
   have hz1:(8192:Int)<(N:Int):=by omega
   clear hN0 hN1 hN
   go_enter Tryz.func19,Tryz.ntmps19
   go_wp2_with fail
   go_ret2
   exact fQ HU.out rfl hb
  ·have hz1:¬(8192:Int)<(N:Int):=by omega
   have hbr:=zOy (okK cs∧okC cs);obtain⟨b,hbb⟩:=hbr;have hs0:(w.alloc (.cells #[.slice A N c] 38)).heap.size=w.heap.size+1:=by simp
   have cG:=zKf cs (w.alloc (.cells #[.slice A N c] 38)) (.slice A N c) (by rw[←hN];rw[←hN] at hb;exact HCL.out.keep (by simp) fun p hp=>((Below.refl w.heap.size w).alloc (Nat.le_refl _) _).cell hp) HKL.out (by omega) (by omega) b hbb;have HB:=Lib.hid hb;have HS0:=Lib.hid hs0;have H0:=Lib.hid h0;have H1:=Lib.hid h1;have HBB:=Lib.hid hbb;have hbx:=cell_of_row _ w.heap.size 0 _ _ _ (heap_alloc_new w (.cells #[.slice A N c] 38));have HBX:=Lib.hid (show(w.alloc (.cells #[.slice A N c] 38)).cell? ⟨w.heap.size,0,none⟩=some (.slice A N c) from hbx);clear hN0 hN1 h0 hN hb hbb hbx hs0
   cases b with
   | false=>
    have HU:=Lib.hid (HBAD.out H0.out H1.out fun h=>(by have:=HBB.out.2 h;cases this))
    go_enter Tryz.func19,Tryz.ntmps19
    go_wp2_with fail;refine cG.mono ?_;rintro e w1 ⟨rfl,hb1⟩;have hb2:=HB.out.trans (hb1.mono (by rw[HS0.out];omega));have HB2:=Lib.hid hb2;clear hb1 hb2;go_wp2_with fail
    go_ret2
    exact fQ HU.out rfl HB2.out
   | true=>
    have HU:=Lib.hid (HGOOD.out H0.out H1.out (HBB.out.1 rfl));have HOK:=Lib.hid (HBB.out.1 rfl).1;obtain⟨i0,hi0,hz0,hz1',hz2⟩:=info_parts gZ
    go_enter Tryz.func19,Tryz.ntmps19
    go_wp2_with fail;refine cG.mono ?_;rintro e w1 ⟨rfl,hb1⟩;obtain⟨H,hH⟩:∃H,w.heap.size=H:=⟨_,rfl⟩;have hbw1:=HB.out.trans (hb1.mono (by rw[HS0.out];omega));have hs1:=hb1.size;rw[HS0.out,hH] at hs1;have hbx1:=(hb1.cell (p:=⟨w.heap.size,0,none⟩) (by rw[HS0.out];simp only;omega)).trans HBX.out;obtain⟨wm,hrun,hown,hgr⟩:=run_make_own (P:=Tryz.prog) w1 H 55 24 i0 (.pointer none) 1 Tryz.underlying55 hi0 hz0 hz1' .i64 .i64 N (by rw[hz2];omega) (by unfold maxLen;omega) (by omega);have hbwm:Below H w wm:=(hH▸hbw1).grown hgr (by omega) (fun k hk=>by cases hk);have hbxm:=hgr.cell hbx1 (by simp);have HH:=Lib.hid hH;have HBWM:=Lib.hid hbwm;have HOWN:=Lib.hid hown;clear cG hb1 hbw1 hH hown hgr hbwm;go_wp2_with fail;rw[HH.out];have hown0:∃vn,vn=Value.slice (some ⟨w1.heap.size,0,none⟩) 0 N:=⟨_,rfl⟩;obtain⟨vn0,hvn0⟩:=hown0;have HVN0:=Lib.hid hvn0;clear hrun hbxm hbx1 hvn0
    go_loopw [4,6,7,9,32,49] (fun vn _ _ _ i _ wr=>∃(I:Nat) (ps:List Value),i = .int .i64 I∧I≤N∧wr.ownsRow H 24 1 vn I ps∧PtF wr (So H wr vn) ps (sW cs N I)∧Below H w wr) (fun _ _ _ _ i _ _=>N-(intOf i).toNat)
    case atStart=>exact⟨0,[],rfl,Nat.zero_le _,HOWN.out,trivial,HBWM.out⟩
    case round=>
     rename World=>wa
     obtain⟨I,ps,rfl,hI,hown,hpt,hbw⟩:=hrel;have hHa:=hbw.size;rw[HH.out] at hHa;have HOWNA:=Lib.hid hown;have HPTA:=Lib.hid hpt;have HBWA:=Lib.hid hbw;obtain⟨NA,NC,hvn⟩:=dB hown
     by_cases hlt:I<N
     ·subst hvn
      have hIz:(I:Int)<(N:Int):=by omega
      have hci:=jO (cs:=cs) (i:=I) (by rw[HNN.out];exact hlt);obtain⟨b2,o,hA,hbb,g0',g1',g2',g3',kv,g4',hkv⟩:=HCELL.out I _ hci;subst hA;rw[HH.out] at hbb;obtain⟨KA,kc,rfl,hkc,hkcl⟩:=hkv;have hml:=HKL.out I _ hci;have hokI:=HOK.out I _ hci;obtain⟨⟨x,ks⟩,hx⟩:∃u,cel cs I=u:=⟨_,rfl⟩;have hgrI:gr cs N I=(x,rowOf (ks.map fun z=>gr cs N z.toNat)):=by
       have h:=yX2 HOK.out (i:=I) (by rw[HNN.out];exact hlt);rw[HNN.out,hx] at h;exact h
      rw[hx] at g0' g1' g2' g3' g4' hkc hkcl hml hokI;simp only at g0' g1' g2' g3' g4' hkc hkcl hml hokI;obtain⟨M,hM⟩:∃M,ks.length=M:=⟨_,rfl⟩;rw[hM] at hkc g4' hml;have g0:=(hbw.cell (p:=⟨b2,o+I*5,none⟩) hbb).trans g0';have g1:=(hbw.cell (p:=⟨b2,o+I*5+1,none⟩) hbb).trans g1';have g2:=(hbw.cell (p:=⟨b2,o+I*5+2,none⟩) hbb).trans g2';have g3:=(hbw.cell (p:=⟨b2,o+I*5+3,none⟩) hbb).trans g3';have g4:=(hbw.cell (p:=⟨b2,o+I*5+4,none⟩) hbb).trans g4';have hM1:M≤1000000:=hml;obtain⟨XK,hXK⟩:∃z,x.k=z:=⟨_,rfl⟩;obtain⟨XN,hXN⟩:∃z,x.n=z:=⟨_,rfl⟩;obtain⟨XA,hXA⟩:∃z,x.a=z:=⟨_,rfl⟩;obtain⟨XM,hXM⟩:∃z,x.m=z:=⟨_,rfl⟩;rw[hXK] at g0;rw[hXN] at g1;rw[hXA] at g2;rw[hXM] at g3;have t2:=zQo wa (.cells #[.int .i64 XK,.int .i64 XN,.string XA,.string XM,.slice KA M kc] 78) (.cells #[.int .i64 XK,.int .i64 XN,.string XA,.string XM,.slice none 0 0] 57);obtain⟨WN,hWN⟩:∃WN,WN=(wa.alloc (.cells #[.int .i64 XK,.int .i64 XN,.string XA,.string XM,.slice KA M kc] 78)).alloc (.cells #[.int .i64 XK,.int .i64 XN,.string XA,.string XM,.slice none 0 0] 57):=⟨_,rfl⟩;rw[←hWN] at t2;obtain⟨tn,tb,ts⟩:=t2;have hnbN:Nb WN (wa.heap.size+1) x (.slice none 0 0):=by unfold Nb;rw[hXK,hXN,hXA,hXM];exact tn
      obtain⟨B1,hB1⟩:∃B1,wa.heap.size=B1:=⟨_,rfl⟩;rw[hB1] at tb ts hnbN;have HWN:=Lib.hid hWN;have HB1:=Lib.hid hB1;have HTB:=Lib.hid tb;have HTS:=Lib.hid ts;have HNBN:=Lib.hid hnbN;have HMM:=Lib.hid hM;have HKC:=Lib.hid hkcl;have HOKI:=Lib.hid hokI;have HGRI:=Lib.hid hgrI;clear hci hkcl hM g0' g1' g2' g3' g4' hXK hXN hXA hXM hx hokI hgrI hWN hB1 tn tb ts hnbN hown hpt hbw;go_wp2_with fail;rw[←HWN.out,HB1.out];have hinn:Hid (∃(K:Nat) (vk:Value) (qs:List Value),Value.int .i64 0 = .int .i64 K∧K≤M∧WN.ownsRow (B1+1+1) 24 1 vk K qs∧PtF WN (Sk (So H wa (.slice NA I NC)) (B1+1) WN vk) qs (rowOf ((ks.take K).map fun z=>gr cs N z.toNat))∧Nb WN (B1+1) x vk∧Below (B1+1) WN WN∧vk.ownBlock≠some (B1+1)∧(∀g,vk.ownBlock=some g→B1+1+1≤g)):=Lib.hid ⟨0,.slice none 0 0,[],rfl,Nat.zero_le _,World.ownsRow_nil _ _ _ _,trivial,HNBN.out,Below.refl _ _,by simp[Value.ownBlock],by intro g hg;simp[Value.ownBlock] at hg⟩;clear g0 g1 g2 g3 g4
      go_loopw [9,49] (fun _ k w2=>∃(K:Nat) (vk:Value) (qs:List Value),k = .int .i64 K∧K≤M∧w2.ownsRow (B1+1+1) 24 1 vk K qs∧PtF w2 (Sk (So H wa (.slice NA I NC)) (B1+1) w2 vk) qs (rowOf ((ks.take K).map fun z=>gr cs N z.toNat))∧Nb w2 (B1+1) x vk∧Below (B1+1) WN w2∧vk.ownBlock≠some (B1+1)∧(∀g,vk.ownBlock=some g→B1+1+1≤g)) (fun _ k _=>M-(intOf k).toNat)
      case atStart=>exact hinn.out
      case round=>
       obtain⟨K,vk,qs,rfl,hK,hown2,hpt2,hnb2,hbw2,hvH,hvl⟩:=hrel;have hNr:B1+1<wr.heap.size:=qC hnb2;have hba:Below B1 wa wr:=HTB.out.trans (hbw2.mono (by omega));have HOWN2:=Lib.hid hown2;have HPT2:=Lib.hid hpt2;have HNB2:=Lib.hid hnb2;have HBW2:=Lib.hid hbw2;have HVH:=Lib.hid hvH;have HVL:=Lib.hid hvl;have HBA:=Lib.hid hba;have hBelS:Bel (So H wa (.slice NA I NC)) (B1+1):=fun q h=>by have:=h.2.1;rw[HB1.out] at this;omega
       have HBELS:=Lib.hid hBelS;have hHB:H≤B1:=by rw[←HB1.out];exact hHa
       have cn:wr.cell? ⟨B1+1,4,none⟩=some vk:=hnb2.cell.1;have cf:wr.frozen? ⟨B1+1,4,none⟩=false:=hnb2.cell.2;clear hown2 hpt2 hnb2 hbw2 hvH hvl hba hBelS
       by_cases hlt2:K<M
       ·obtain⟨z,hz⟩:∃z,ks[K]? = some z:=⟨_,List.getElem?_eq_getElem (by rw[HMM.out];exact hlt2)⟩
        have HROW:=Lib.hid (zTo (fun z=>gr cs N z.toNat) hz);obtain⟨kb,ko,rfl,hkb2,hkcell0⟩:=HKC.out K z hz;rw[HH.out] at hkb2;have hxr:=(HBA.out.cell (p:=⟨kb,ko+K,none⟩) (by simp only;omega)).trans ((HBWA.out.cell (p:=⟨kb,ko+K,none⟩) hkb2).trans hkcell0);obtain⟨hz0',hz1'⟩:=HOKI.out z (List.mem_of_getElem? hz);obtain⟨m,rfl⟩:∃m:Nat,z=(m:Int):=⟨z.toNat,by omega⟩;have hmI:m<I:=by omega
        have hmz:(m:Int)<(I:Int):=by omega
        obtain⟨gn,capn,hvn,-,hgn⟩:=HOWNA.out.form (by omega);injection hvn with hvn _ hcn;subst hvn hcn;rw[HB1.out] at hgn;obtain⟨pv,hpv,hinp⟩:=zWy HPTA.out (uV (cs:=cs) (N:=N) hmI);obtain⟨q2,o2,rfl⟩:=hinp.ptr;have kg:wr.cell? ⟨gn,m,none⟩=some (.pointer (some ⟨q2,o2,none⟩)):=by
         rw[HBA.out.cell (p:=⟨gn,m,none⟩) hgn,HOWNA.out.cellAt m (by omega)];exact hpv
        have hgnr:gn<wr.heap.size:=by omega
        have hgB:gn≠B1+1:=by omega
        have HINP:Hid (InT wr (Sk (So H wa (.slice (some ⟨gn,0,none⟩) I NC)) (B1+1) wr vk) (.pointer (some ⟨q2,o2,none⟩)) (gr cs N m)):=Lib.hid (hinp.keep (fun q h=>.inl h) fun b hb=>HBA.out.block b (by have:=hb.2.1;rw[HB1.out] at this;exact this));have hkz:(K:Int)<(M:Int):=by omega
        clear hz hkcell0 hz0' hz1' hpv hinp;go_wp2_with fail
        go_region_law ((refine step_append_lies _ (by rfl) _ _ _ (by rfl) (B1+1+1) 24 i0 _ 1 8 Tryz.underlying55 hi0 hz0 hz1' hz2 rfl (by omega) vk K qs (by rfl) (by exact World.ownsRow.alloc (by exact HOWN2.out) _) ⟨wr.heap.size,0,none⟩ 1 1 [.pointer (some ⟨q2,o2,none⟩)] (by rfl) (by rfl) (by exact cell_one_new _ _ _) (fun x hx=>by simp at hx;subst hx;rfl) (by omega) (by unfold maxLen;omega) (by omega) (by simp;omega) (wr.heap.size+1) (by simp) ?_);intro g4 cap4 w4 hown4 hgrow4 hat4 hlt4;have hgrow4:=zKh hgrow4;have HOWN4:=Lib.hid hown4;have HG4:=Lib.hid hgrow4;have HAT4:=Lib.hid hat4;have hn4:=HNB2.out.far HG4.out HVH.out;have hc4:w4.cell? ⟨B1+1,4,none⟩=some vk:=hn4.cell.1;have hf4:w4.frozen? ⟨B1+1,4,none⟩=false:=hn4.cell.2;clear hown4 hgrow4 hat4 hn4)
        all_goals
         have HMORE:=Lib.hid (zQp HBELS.out HBW2.out HPT2.out (by rw[pT,List.length_map,List.length_take];have:=HMM.out;omega) HNB2.out HVH.out HVL.out HINP.out HOWN4.out HG4.out HAT4.out);go_wp2_with fail
         go_roundw
         case rel=>
          obtain⟨ps',r1,r2,r3,r4,r5,r6⟩:=HMORE.out;exact⟨K+1,_,ps',by go_num,by omega,r1,by rw[HROW.out,Int.toNat_natCast];exact r2,r3,r4,r5,r6⟩
         case measure=>simp[intOf];omega
       ·have hkz:¬(K:Int)<(M:Int):=by omega
        have hKM:K=M:=by omega
        have HFIN:Hid (ks.take K=ks):=Lib.hid (List.take_of_length_le (by rw[HMM.out];omega));have hlenr:(rowOf ((ks.take K).map fun z=>gr cs N z.toNat)).len=K:=by rw[pT,List.length_map,List.length_take];have:=HMM.out;omega
        have hownK:=HOWN2.out;rw[←hlenr] at hownK;have hHr:H≤B1:=hHB;have hvnB:∀g,(Value.slice NA I NC).ownBlock=some g→g<B1:=fun g hg=>by have:=(HOWNA.out.lt g hg).2;rw[HB1.out] at this;exact this
        have hltK:=hownK.lt;have htree:=OwnT.tree (x:=x) (b:=B1+1) ⟨qs,hownK,HPT2.out.keep (S':=So H wr (.slice NA I NC)) (by
         rintro q' (⟨a1,a2,a3⟩ | ⟨a1,a2,a3⟩)
         ·exact⟨a1,by rw[HB1.out] at a2;omega,a3⟩
         ·exact⟨by omega,a2,fun e=>by have:=hvnB q' e;omega⟩) fun _ _=>rfl⟩ HNB2.out ⟨by omega,hNr,fun e=>by have:=hvnB _ e;omega⟩ (fun g he=>⟨by have:=HVL.out g he;omega,(hltK g he).2,fun e=>by have:=hvnB _ e;have:=HVL.out g he;omega⟩)
        rw[HFIN.out,←HGRI.out] at htree;have HTREE:=Lib.hid htree;have hown3:wr.ownsRow H 24 1 (.slice NA I NC) I ps:=yC HOWNA.out (by rw[HB1.out];exact HBA.out);have HOWN3:=Lib.hid hown3;have hBr:B1≤wr.heap.size:=by omega
        clear hKM hlenr hownK hltK htree hvnB hown3
        go_wp2_with (at_builtin;(refine wpList_append_own_at _ rfl _ _ 55 rfl H 24 i0 (.pointer none) 1 8 Tryz.underlying55 hi0 hz0 hz1' hz2 rfl (by decide) (.slice NA I NC) I ps rfl (HOWN3.out.alloc _) ⟨wr.heap.size,0,none⟩ 1 1 [.pointer (some ⟨B1+1,0,none⟩)] rfl rfl (cell_one_new _ _ _) (fun x hx=>by simp at hx;subst hx;rfl) (by unfold maxLen;omega) (by omega) (by simp;omega) ?_);intro v6 w6 hown6 hgrow6 _ hat6;have HOWN6:=Lib.hid hown6;have HG6:=Lib.hid hgrow6;have HAT6:=Lib.hid hat6;clear hown6 hgrow6 hat6)
        go_roundw
        case rel=>
         have hat:=HAT6.out;have hpt3:PtF wr (So H wr (.slice NA I NC)) ps (sW cs N I):=HPTA.out.keep (by
          rintro q ⟨a1,a2,a3⟩;exact⟨a1,by rw[HB1.out] at a2;omega,a3⟩) fun b hb=>HBA.out.block b (by have:=hb.2.1;rw[HB1.out] at this;exact this)
         refine⟨I+1,ps++[.pointer (some ⟨B1+1,0,none⟩)],by go_num,by omega,HOWN6.out,?_,?_⟩
         ·rw[zS4]
          exact zKg hpt3 HTREE.out HG6.out (by simpa using hat)
         ·exact((HBWA.out.trans (HBA.out.mono hHB)).alloc (by omega) _).grown HG6.out (by simp;omega) (fun g hg=>(HOWN3.out.lt g hg).1)
        case measure=>simp[intOf];omega
     ·have hIN:I=N:=by omega
      subst hIN;have hI0:0<I:=by have:=H0.out;omega
      obtain⟨gn,capn,hvn2,-,hgn⟩:=hown.form hI0;subst hvn2;obtain⟨pv,hpv,hinp⟩:=zWy hpt (uV (cs:=cs) (N:=I) (m:=I-1) (by omega));obtain⟨q2,o2,rfl⟩:=hinp.ptr;have kg:wa.cell? ⟨gn,I-1,none⟩=some (.pointer (some ⟨q2,o2,none⟩)):=by
       rw[hown.cellAt (I-1) (by omega)];exact hpv
      have hIz:¬(I:Int)<(I:Int):=by omega
      have hI1:(0:Int)≤(I:Int)-1∧(I:Int)-1<(I:Int):=by omega
      have htn:((I:Int)-1).toNat=I-1:=by omega
      have HIN:=Lib.hid hinp;clear hown hpt hbw hpv hinp hvn;go_wp2_with fail
      go_ret2
      exact fQ HU.out (InT.keep HIN.out (fun q h=>.inr ⟨by rw[HH.out];exact h.1,h.2.1⟩) fun _ _=>rfl) (by rw[HH.out];exact HBWA.out)
theorem Cls.upp {W w:World} {v:Value} {cs:List Cel} (h:Cls W W.heap.size v cs) (u:Up W w):Cls w w.heap.size v cs:=Cls.keep h u.size fun _ hp=>Below.cell u hp
def TrP (o:Option Tr) (z:Int) (W:World) (e:Ending) (w':World):Prop:=∃v,e = .returned (.tuple #[v,.int .i64 z])∧HasT w' v o∧Up W w'
theorem sU.trp {o:Option Tr} {z:Int} {W w:World} {e:Ending} {w':World} {S:Nat→Prop} (hS:Bel S w.heap.size) (u:Up W w) (h:sU S o z w e w'):TrP o z W e w':=by
 obtain⟨v,he,hi,hb⟩:=h;exact⟨v,he,HasT.of hi (zFx hS hb.size),u.of hb⟩
theorem uOpen (cs:List Cel) {W w:World} {v:Value} (h:Cls W W.heap.size v cs) (hk:∀(j:Nat) (c:Cel),cs[j]? = some c→c.ks.length≤1000000) (hl:cs.length≤1000000) (u:Up W w) :
  Calls Tryz.prog 19 #[.agg #[v]] w (TrP (opR cs).1 (opR cs).2 W):=
 (yVx cs w v (h.upp u) hk (by omega)).mono fun _ _ k=>sU.trp (zFy _) u k
def yVy (gp:Bool) (w:World) (e:Ending) (w':World):Prop:=∃s d:Nat,e = .returned (.agg #[.int .i64 (s:Int),.int .i64 (d:Int),.bool gp])∧s≤100000∧(gp=false→8192<s)∧Below w.heap.size w w'
def zWz (z:Int) (w:World) (e:Ending) (w':World):Prop:=e = .returned (.tuple #[.agg #[.slice none 0 0],.int .i64 z])∧Up w w'
theorem zNg (gp:Bool) (v:Value) (w:World) (cM:Calls Tryz.prog 157 #[v] (w.alloc (.cells #[.slice none 0 0] 38)) (yVy gp (w.alloc (.cells #[.slice none 0 0] 38)))) :
  Calls Tryz.prog 100 #[v] w (zWz (if gp then 1 else 3) w):=by
 have hb:=(Below.refl w.heap.size w).alloc (Nat.le_refl _) (.cells #[.slice none 0 0] 38);have hs:(w.alloc (.cells #[.slice none 0 0] 38)).heap.size=w.heap.size+1:=by simp
 have hbx:(w.alloc (.cells #[.slice none 0 0] 38)).heap[w.heap.size]? = some (.cells #[.slice none 0 0] 38 (0,0)):=heap_alloc_new w _;obtain⟨H,hH⟩:∃H,w.heap.size=H:=⟨_,rfl⟩;rw[hH] at hb hs hbx;have HS:=Lib.hid hs;have HB:=Lib.hid hb;have HBX:=Lib.hid hbx;have HH:=Lib.hid hH;clear hs hb hbx hH
 cases gp
 ·go_enter Tryz.func100,Tryz.ntmps100
  go_wp2_with fail;refine cM.mono ?_;rintro e w1 ⟨S,D,rfl,hS,hg,hb1⟩;rw[HS.out] at hb1;have hbx1:=(hb1.block H (by omega)).trans HBX.out;have cz:=cell_of_row w1 H 0 _ _ _ hbx1;have fz:=frozen_of_row w1 H 0 _ _ hbx1;have HB1:=Lib.hid hb1;have HX1:=Lib.hid hbx1;have hH1:=qC hbx1;have hzz:(8192:Int)<(S:Int):=by have:=hg rfl;omega
  clear hbx1 hb1 cM hg;rw[HH.out];go_wp2_with fail;have r0:((w1.setCell ⟨H,0,none⟩ (.slice none 0 0)).alloc (.cells #[.int .i64 (S:Int),.int .i64 (D:Int),.bool false] 181)).cell? ⟨H,0,none⟩=some (.slice none 0 0):=cell_of_row _ H 0 _ _ _ (yD _ (yQ _ HX1.out));have hbF:Below H w ((w1.setCell ⟨H,0,none⟩ (.slice none 0 0)).alloc (.cells #[.int .i64 (S:Int),.int .i64 (D:Int),.bool false] 181)):=
   Below.alloc (Below.setCell (HB.out.trans (HB1.out.mono (by omega))) (Nat.le_refl _) _) (by simp[World.setCell];omega) _
  exact bodyPost_ret (v:=.tuple #[.agg #[.slice none 0 0],.int .i64 3]) (by simp[results,Tryz.results100,go_sem,r0]) rfl ⟨rfl,by show Below w.heap.size _ _;rw[HH.out];exact hbF⟩
 ·go_enter Tryz.func100,Tryz.ntmps100
  go_wp2_with fail;refine cM.mono ?_;rintro e w1 ⟨S,D,rfl,hS,hg,hb1⟩;rw[HS.out] at hb1;have hbx1:=(hb1.block H (by omega)).trans HBX.out;have cz:=cell_of_row w1 H 0 _ _ _ hbx1;have fz:=frozen_of_row w1 H 0 _ _ hbx1;have HB1:=Lib.hid hb1;have HX1:=Lib.hid hbx1;have hH1:=qC hbx1;clear hbx1 hb1 cM hg;rw[HH.out];go_wp2_with fail;have r0:((w1.setCell ⟨H,0,none⟩ (.slice none 0 0)).alloc (.cells #[.int .i64 (S:Int),.int .i64 (D:Int),.bool true] 181)).cell? ⟨H,0,none⟩=some (.slice none 0 0):=cell_of_row _ H 0 _ _ _ (yD _ (yQ _ HX1.out));have hbF:Below H w ((w1.setCell ⟨H,0,none⟩ (.slice none 0 0)).alloc (.cells #[.int .i64 (S:Int),.int .i64 (D:Int),.bool true] 181)):=
   Below.alloc (Below.setCell (HB.out.trans (HB1.out.mono (by omega))) (Nat.le_refl _) _) (by simp[World.setCell];omega) _
  exact bodyPost_ret (v:=.tuple #[.agg #[.slice none 0 0],.int .i64 1]) (by simp[results,Tryz.results100,go_sem,r0]) rfl ⟨rfl,by show Below w.heap.size _ _;rw[HH.out];exact hbF⟩
theorem zEb (w:World) (v:Value) (hv:HasT w v none):Calls Tryz.prog 100 #[v] w (zWz 1 w):=
 zNg true v w ((vZ none _ (fun q=>q<(w.alloc (.cells #[.slice none 0 0] 38)).heap.size) v (fun _ h=>h) (hv.up ((Up.refl w).alloc _)) (by show(0:Nat)≤65536;omega)).mono fun e w' h=>⟨0,0,h.1,by omega,(fun h=>by cases h),h.2⟩)
theorem zEc (t:Tr) (w:World) (v:Value) (hv:HasT w v (some t)) (hz:szT t≤60000) (hb:8192<szT t):Calls Tryz.prog 100 #[v] w (zWz 3 w):=
 zNg false v w ((vZ (some t) _ (fun q=>q<(w.alloc (.cells #[.slice none 0 0] 38)).heap.size) v (fun _ h=>h) (hv.up ((Up.refl w).alloc _)) (by show szT t≤65536;omega)).mono fun e w' h=>⟨szT t,dpO (some t),h.1,by omega,fun _=>hb,h.2⟩)
theorem zS5 (k:FuncId) (z:Int) (hz:¬z=0) (v:Value) (w:World) (cP:Calls Tryz.prog 100 #[v] w (zWz z w)):Calls Tryz.prog 45 #[v,.func (.func k) #[] #[]] w (InP z w):=by
 go_enter Tryz.func45,Tryz.ntmps45
 go_wp2_with fail;refine cP.mono ?_;rintro e w1 ⟨rfl,u1⟩;go_wp2_with fail
 go_ret
 exact mH rfl (u1.alloc _)
theorem in_up {z:Int} {W w:World} {P:Program} {k:FuncId} {args:Array Value} (u:Up W w) (h:Calls P k args w (InP z w)):Calls P k args w (InP z W):=h.mono fun _ _ h=>⟨h.1,u.trans h.2⟩
theorem zYo (k:FuncId) (ek:Ent k) (c:Int) (cT:∀t,szT t≤60000→okST t→TelAt k (isT B.nck B.long t c) t) (o:Option Tr) (hz:szO o≤60000) (hs:okSO o) (W w:World) (v:Value) (hx:B.Nx W) (hv:HasT W v o) (hu:Up W w) :
  Calls Tryz.prog 45 #[v,.func (.func k) #[] #[]] w (InP (chk B.nck B.long o c) W):=by
 refine in_up hu ?_;have hv':=hv.up hu;have hx':=Nx.up hx hu
 cases o with
 | none=>exact zS5 k 1 (by omega) v w (zEb w v hv')
 | some t=>
  have hz':szT t≤60000:=hz;unfold chk;simp only
  by_cases hb:8192<szT t
  ·rw[if_pos hb]
   exact zS5 k 3 (by omega) v w (zEc t w v hv' hz' hb)
  ·rw[if_neg hb]
   exact zUy k ek t _ v w hx' hv' (by omega) (cT t hz' (hs t rfl))
theorem zEd {z:Int} {W w:World} {v:Value} (h:Calls Tryz.prog 45 #[v,.func (.func 107) #[] #[]] w (InP z W)):Calls Tryz.prog 204 #[v] w (InP z W):=by
 go_enter Tryz.func204,Tryz.ntmps204
 go_wp2_with fail;refine h.mono ?_;rintro e w1 ⟨rfl,u1⟩;go_wp2_with fail
 go_ret
 exact mH rfl u1
theorem yZ3:ShpAt 204 1:=fun o hz hs W w v hx hv hu=>zEd (zYo 107 (fun _ _=>by kernel_rfl) 1 (fun t h hs=>(zQl _ t (Nat.le_refl _) h hs).1.a1) o hz hs W w v hx hv hu)
theorem yZ4:ShpAt 22 2:=fun o hz hs W w v hx hv hu=>zUz (zYo 46 (fun _ _=>by kernel_rfl) 2 (fun t h hs=>(zQl _ t (Nat.le_refl _) h hs).1.a2) o hz hs W w v hx hv hu)
section
variable {nk lg:ByteArray→Bool}
theorem gM:∀{f:Fr} {j:Nat} {t:Tr},((infF nk lg f).all fun i=>i.is 8)=true→f.get j=some t→isT nk lg t 8=true
 | .nil,_,_,_,h=>by cases h
 | .cons x k r,0,t,ha,h=>by
  have h:(x,k)=t:=Option.some.inj h;have ha:(isT nk lg (x,k) 8&&(infF nk lg r).all fun i=>i.is 8)=true:=ha;rw[Bool.and_eq_true] at ha;rw[←h];exact ha.1
 | .cons x k r,j+1,t,ha,h=>by
  have ha:(isT nk lg (x,k) 8&&(infF nk lg r).all fun i=>i.is 8)=true:=ha;rw[Bool.and_eq_true] at ha;exact gM (f:=r) (j:=j) ha.2 h
theorem zYp {W:World} {bw:Nat} (hB:W.heap.size≤bw) (hp:Pl W):∀(n:Nat) (t:Tr),szT t≤n→n≤8192→isT nk lg t 1=true→∀r:Int,(r=0∨r=1∨r=2)→WriAt W bw t r
 | 0,t,h,_,_=>absurd h (by unfold szT;omega)
 | n+1,t,h,hn,ht=>by
  have ih:=zYp (W:=W) (bw:=bw) hB hp n;have main:(∀r:Int,(r=0∨r=1∨r=2)→¬ruT t.1.k<r→WriAt W bw t r)→∀r:Int,(r=0∨r=1∨r=2)→WriAt W bw t r:=fun hh r hr=>by
   have h0:¬ruT t.1.k<0:=by unfold ruT;split<;>(try split)<;>omega
   by_cases hc:ruT t.1.k<r
   ·exact zTv t r hB hc (hh 0 (.inl rfl) h0)
   ·exact hh r hr hc
  refine main fun r hr hc=>?_
  cases wC ht with
  | leaf k hk=>
   rcases hk with rfl | rfl | rfl
   ·exact sV 0 (by omega) r hB hp hc
   ·exact sV 1 (by omega) r hB hp hc
   ·exact sV 2 (by omega) r hB hp hc
  | name s hs=>exact zQd s r hB hc
  | two k hk a b hA hB'=>
   have hz:szT (nd k nob (fr2 a b))=1+(szT a+szT b):=by unfold szT;simp only[nd,fr2,fr1,Fr.sz];omega
   rcases hk with rfl | rfl
   ·exact zAv a b r hB hc (ih a (by omega) (by omega) hA 1 (by omega)) (ih b (by omega) (by omega) hB' 0 (by omega))
   ·exact zAw a b r hB hc (ih a (by omega) (by omega) hA 2 (by omega)) (ih b (by omega) (by omega) hB' 1 (by omega))
  | mu s hs c hc' h0=>
   have hz:szT (nd 7 s c)=1+c.sz:=rfl;have hl:=Fr.len_le c;refine zFz s c r hB hc h0 (by omega) fun j t' hj=>?_
   obtain⟨s',u,rfl,_,hu⟩:=wR (gM hc'.1 hj);have hg:=Fr.get_sz hj;have hz2:szT (nd 8 s' (fr1 u))=1+szT u:=by unfold szT;simp only[nd,fr1,Fr.sz];omega
   exact⟨s',u,rfl,ih u (by omega) (by omega) hu 0 (.inl rfl)⟩
end
def wrT (o:Option Tr):ByteArray:=match o with
 | some t=>tB (tkT t)
 | none=>nob
def WtP (o:Option Tr) (W:World) (e:Ending) (w':World):Prop:=e = .returned (.tuple #[.string (if chk B.nck B.long o 1=0 then wrT o else nob),.int .i64 (chk B.nck B.long o 1)])∧Up W w'
theorem chk_0 {o:Option Tr} (h:chk B.nck B.long o 1=0):∃t,o=some t∧szT t≤8192∧dpT t≤60∧isT B.nck B.long t 1=true:=by
 unfold chk at h
 cases o with
 | none=>cases h
 | some t=>
  simp only at h
  split at h
  ·cases h
  ·split at h
   ·cases h
   ·split at h
    ·exact⟨t,rfl,by omega,by omega,‹_›⟩
    ·cases h
theorem fS:∀s,B.nck s=true→s.size≤128:=fun s h=>by have:=(B.iL h).2;omega
theorem mM:∀s,B.long s=true→s.size≤128:=fun _ h=>(B.pD.1 h).1
theorem yVz (o:Option Tr) (hz:szO o≤60000) (hs:okSO o) (W w:World) (v:Value) (hx:B.Nx W) (hp:Pl W) (hv:HasT W v o) (hu:Up W w):Calls Tryz.prog 179 #[v] w (WtP o W):=by
 have cS:=yZ3 o hz hs W w v hx hv hu;unfold WtP
 by_cases hc:chk B.nck B.long o 1=0
 ·obtain⟨t,rfl,h1,h2,h3⟩:=chk_0 hc
  rw[hc] at cS ⊢;rw[if_pos rfl];have HS:Hid (wrT (some t)=tB (tkT t)):=Lib.hid rfl;rw[HS.out];have hfew:=(lT fS mM _ t (Nat.le_refl _) h3);have hsz:=lU fS mM h3;have HV:=Lib.hid hv;have HP:=Lib.hid hp;have H3:=Lib.hid h3;have HF:=Lib.hid hfew.1;have HSZ:=Lib.hid hsz;have hne:=bV h3;have HNE:=Lib.hid hne;clear hc hv hp h2 h3 hfew hsz hne hx hs hz
  go_enter Tryz.func179,Tryz.ntmps179
  go_wp2_with fail;refine cS.mono ?_;rintro en w1 ⟨rfl,u1⟩;have hz1:=u1.size;have uA:Up w1 (w1.alloc (.cells #[.slice none 0 0] 215)):=(Up.refl w1).alloc _;have hWr:Wr w1.heap.size (w1.alloc (.cells #[.slice none 0 0] 215)) []:=⟨_,heap_alloc_new w1 _,World.ownsRow_nil _ _ _ _⟩;have cW:=zYp (W:=w1) (bw:=w1.heap.size) (Nat.le_refl _) (HP.out.up u1) _ t (Nat.le_refl _) h1 H3.out 0 (.inl rfl) _ [] v (HV.out.up u1) uA hWr (by rw[sD];have:=HF.out;simp only[List.length_nil];omega);have U1:=Lib.hid u1;clear u1 hWr uA cS;go_wp2_with fail;refine cW.mono ?_;rintro en w2 ⟨⟨u,rfl⟩,u2,vs,r1,ho⟩;rw[sD,List.nil_append] at ho;rw[jI] at ho;have hlen:0<(tkT t).length:=List.length_pos_iff.2 HNE.out;obtain⟨g,cp,rfl,hbg,hltg⟩:=ho.form hlen;have hcp:=lF ho;have c0:w2.cell? ⟨w1.heap.size,0,none⟩=some (.slice (some ⟨g,0,none⟩) (tkT t).length cp):=cell_of_row w2 _ 0 _ _ _ r1;have hj:=nK (tkT t);have hcs:∀(j:Nat) x,(txt (tkT t))[j]? = some x→w2.cell? ⟨g,0+j,none⟩=some (.string x):=fun j x h=>by
   have h9:=ho.cells (g:=g) rfl j (.string x) (by rw[List.getElem?_map,h];rfl);have e1:(⟨g,0,none⟩:Addr).add j=⟨g,0+j,none⟩:=by unfold Addr.add;split<;>simp_all
   rwa [e1] at h9
  have hjl:(Lib.join ((txt (tkT t)).map (·.data.toList)) (ByteArray.mk #[32]).data.toList).length=(tB (tkT t)).size:=by rw[hj];show _=(jT (tkT t)).toArray.size;simp
  have cJ:=Tryz.strings_Join g 0 cp (txt (tkT t)) ⟨#[32]⟩ w2 hcs hltg (by rw[jI];have:=HF.out;omega) (by rw[jI];exact hcp) (by rw[hjl];have:=HSZ.out;omega);rw[hj,jI] at cJ;have U2:=Lib.hid (Up.trans U1.out u2);clear u2 r1 ho cW hcs hjl hj;go_wp2_with fail;refine cJ.mono ?_;rintro en w3 ⟨rfl,u3⟩;have U3:=Lib.hid u3;clear u3;go_wp2_with fail
  go_ret2
  exact⟨rfl,Up.trans U2.out U3.out⟩
 ·rw[if_neg hc]
  obtain⟨z,hzz⟩:∃z,chk B.nck B.long o 1=z:=⟨_,rfl⟩;rw[hzz] at hc cS ⊢;clear hv hp hx hs hz hzz
  go_enter Tryz.func179,Tryz.ntmps179
  go_wp2_with fail;refine cS.mono ?_;rintro en w1 ⟨rfl,u1⟩;have U1:=Lib.hid u1;clear u1;go_wp2_with fail
  go_ret2
  exact⟨rfl,U1.out⟩
theorem zQq {o:Option Tr} (h:chk B.nck B.long o 2=0):∃t,o=some t∧szT t≤8192∧dpT t≤60∧isT B.nck B.long t 2=true:=by
 unfold chk at h
 cases o with
 | none=>cases h
 | some t=>
  simp only at h
  split at h
  ·cases h
  ·split at h
   ·cases h
   ·split at h
    ·exact⟨t,rfl,by omega,by omega,‹_›⟩
    ·cases h
end Go.Proofs.YtbpijnalmakfaaaGreatDoor
namespace Go.Proofs.YtbpijnalmakfaaaGreatDoor
open Go.ChangeShapes Go.WideShapes Go.Deep Go.RowKit
theorem zS6 {w:World} {a:Addr} {v:Value} (h:w.cell? (a.add 0)=some v):∃b o,a=⟨b,o,none⟩∧b<w.heap.size:=by
 have hb:=yL h;rw[vO] at hb;obtain⟨b,o,s⟩:=a
 cases s with
 | none=>exact⟨b,o,rfl,hb⟩
 | some s=>
  exfalso
  unfold Addr.add World.cell? at h
  split at h
  ·simp at h
  ·cases h
theorem zKi {H:Type} {enc:TypeId×Value→H} {w:World} {base fuel:Nat} {spare:Nat→Bool} {held:Bool} {v:Value} {x:DataW H×List MemPlace}
  (h:DataW.trod enc Tryz.prog w base spare held fuel 76 [v]=some x):∃l:List Int,Sp w w.heap.size v l∧l.length≤maxLen:=by
 rcases open_slice1 Tryz.underlying76 (by kernel_rfl) h with ⟨h1,_⟩ | ⟨a,len,cap,m,n,V,D,Pl,h1,_,hl,hcm,hmm,_,hi⟩
 ·injection h1 with h1
  rw[h1];exact⟨[],⟨none,0,rfl,Nat.le_refl _,fun j u hu=>by simp at hu⟩,Nat.zero_le _⟩
 ·injection h1 with h1
  rw[h1];have hlm:len≤m:=by rw[hmm];split<;>omega
  have key:∀i,i<len→∃k:Int,w.cell? (a.add i)=some (.int .i64 k):=by
   intro i h;obtain⟨h2,h3⟩:=hi i (by omega);obtain⟨k,e,_⟩:=DataW.trod_int Tryz.underlying3 h3;injection e with e;exact⟨k,by rw[h2,e]⟩
  let f:Nat→Int:=fun i=>if h:i<len then Classical.choose (key i h) else 0
  have hf:∀i,i<len→w.cell? (a.add i)=some (.int .i64 (f i)):=by
   intro i h;have:=Classical.choose_spec (key i h)
   show w.cell? _=some (.int .i64 (dite _ _ _))
   rw[dif_pos h];exact this
  refine⟨(List.range len).map f,⟨some a,cap,by rw[List.length_map,List.length_range],by rw[List.length_map,List.length_range];exact hl,fun j u hu=>?_⟩,by rw[List.length_map,List.length_range];omega⟩;rw[List.getElem?_map] at hu;obtain⟨i,hi1,rfl⟩:=Option.map_eq_some_iff.1 hu;obtain⟨h2,h3⟩:=List.getElem?_eq_some_iff.1 hi1;rw[List.length_range] at h2;rw[List.getElem_range] at h3;subst h3;obtain⟨b,o,rfl,e2⟩:=zS6 (hf 0 (by omega));have e3:=hf j h2;rw[addAt] at e3;exact⟨b,o,rfl,e2,e3⟩
theorem zKj (a:Addr):(a.add 0).add 0=a.add 0:=by simp[Addr.add]
def fitC (c:Cel):Prop:=c.x.a.size≤maxLen∧c.x.m.size≤maxLen∧c.ks.length≤maxLen
theorem yZ5 {H:Type} {enc:TypeId×Value→H} {w:World} {base fuel:Nat} {spare:Nat→Bool} {held:Bool} {cs:List Value} {x:DataW H×List MemPlace}
  (h:DataW.trod enc Tryz.prog w base spare held fuel 78 cs=some x):∃(c:Cel) (kv:Value),cs=[.int .i64 c.x.k,.int .i64 c.x.n,.string c.x.a,.string c.x.m,kv]∧Sp w w.heap.size kv c.ks∧fitC c:=by
 obtain⟨ys,n,_,_,hlen,hyl,hf⟩:=DataW.trod_struct Tryz.underlying78 h;have hC:Tryz.prog.cellsOf 78=5:=by kernel_rfl
 rw[hC] at hlen;have hl5:cs.length=5:=hlen;have hy5:ys.length=5:=hyl
 match cs,hl5 with
 | [c0,c1,c2,c3,c4],_=>
  match ys,hy5 with
  | [y0,y1,y2,y3,y4],_=>
   have g0:DataW.trod enc Tryz.prog w base spare held n 3 [c0]=some y0:=hf 0 _ rfl;have g1:DataW.trod enc Tryz.prog w base spare held n 3 [c1]=some y1:=hf 1 _ rfl;have g2:DataW.trod enc Tryz.prog w base spare held n 9 [c2]=some y2:=hf 2 _ rfl;have g3:DataW.trod enc Tryz.prog w base spare held n 9 [c3]=some y3:=hf 3 _ rfl;have g4:DataW.trod enc Tryz.prog w base spare held n 76 [c4]=some y4:=hf 4 _ rfl;obtain⟨k,e0,_⟩:=DataW.trod_int Tryz.underlying3 g0;obtain⟨m,e1,_⟩:=DataW.trod_int Tryz.underlying3 g1;obtain⟨s,e2,_,hs⟩:=DataW.trod_string Tryz.underlying9 g2;obtain⟨t,e3,_,ht⟩:=DataW.trod_string Tryz.underlying9 g3;obtain⟨l,hsp,hl⟩:=zKi g4;injection e0 with e0;injection e1 with e1;injection e2 with e2;injection e3 with e3;exact⟨⟨⟨k,m,s,t⟩,l⟩,c4,by rw[e0,e1,e2,e3],hsp,hs,ht,hl⟩
theorem zYq {H:Type} {enc:TypeId×Value→H} {W:World} {base:Nat} {v:Value} {d:DataW H} {p:List MemPlace}
  (hv:Value.okWide Tryz.prog W .any base 38 v) (h:DataW.Trod enc Tryz.prog W 0 (fun _=>true) true 38 v d p) :
  ∃(cv:Value) (cs:List Cel),v = .agg #[cv]∧Cls W W.heap.size cv cs∧cs.length≤maxLen∧∀c∈cs,fitC c:=by
 obtain⟨cv0,rfl,hsz⟩:=okWide_struct Tryz.underlying38 hv;have hC1:Tryz.prog.cellsOf 38=1:=by kernel_rfl
 rw[hC1] at hsz;obtain⟨l0⟩:=cv0;have hl1:l0.length=1:=hsz
 match l0,hl1 with
 | [cv],_=>
 obtain⟨fuel,hf⟩:=h;obtain⟨ys,n,_,_,hlen,hyl,hff⟩:=DataW.trod_struct Tryz.underlying38 hf;have hy1:ys.length=1:=hyl
 match ys,hy1 with
 | [y0],_=>
 have g0:DataW.trod enc Tryz.prog W 0 (fun _=>true) true n 36 [cv]=some y0:=hff 0 _ rfl;refine⟨cv,?_⟩
 rcases open_slice Tryz.underlying36 g0 with ⟨h0,_⟩ | ⟨a,len,cap,m,n,D,Pl,hc,_,hlc,hcm,hm,_,hi⟩
 ·injection h0 with h0
  rw[h0];exact⟨[],rfl,⟨none,0,rfl,Nat.le_refl _,fun j t ht=>by simp at ht⟩,Nat.zero_le _,fun t ht=>by cases ht⟩
 ·injection hc with hc
  rw[hc];have hm2:m=cap:=by simpa using hm
  have hC:Tryz.prog.cellsOf 78=5:=by kernel_rfl
  have key:∀i,i<len→∃(c:Cel) (kv:Value),w5 W (a.add (i*5)) c kv∧Sp W W.heap.size kv c.ks∧fitC c:=by
   intro i hil;obtain⟨cs',hce,htr⟩:=hi i (by omega);obtain⟨c,kv,rfl,hsp,hfit⟩:=yZ5 htr;rw[hC] at hce;obtain⟨_,_,hat⟩:=World.cells?_some hce;exact⟨c,kv,⟨hat 0 (by omega),hat 1 (by omega),hat 2 (by omega),hat 3 (by omega),hat 4 (by omega)⟩,hsp,hfit⟩
  have key2:∀i,i<len→∃c:Cel,(∃b o,a=⟨b,o,none⟩∧b<W.heap.size∧CelAt W W.heap.size b (o+i*5) c)∧fitC c:=by
   intro i hil;obtain⟨_,_,hw0,_,_⟩:=key 0 (by omega);have h00:=hw0.1;rw[Nat.zero_mul] at h00;obtain⟨b,o,rfl,hb⟩:=zS6 (a:=a) (by rw[zKj] at h00;exact h00);obtain⟨c,kv,⟨q0,q1,q2,q3,q4⟩,hsp,hfit⟩:=key i hil;simp only[addAt] at q0 q1 q2 q3 q4;exact⟨c,⟨b,o,rfl,hb,q0,q1,q2,q3,kv,q4,hsp⟩,hfit⟩
  let f:Nat→Cel:=fun i=>if h:i<len then Classical.choose (key2 i h) else ⟨⟨0,0,⟨#[]⟩,⟨#[]⟩⟩,[]⟩
  have hfx:∀i,i<len→(∃b o,a=⟨b,o,none⟩∧b<W.heap.size∧CelAt W W.heap.size b (o+i*5) (f i))∧fitC (f i):=by
   intro i h;have:=Classical.choose_spec (key2 i h)
   show(∃b o,_∧_∧CelAt W _ _ _ (dite _ _ _))∧fitC (dite _ _ _)
   rw[dif_pos h];exact this
  refine⟨(List.range len).map f,rfl,⟨some a,cap,by rw[List.length_map,List.length_range],by rw[List.length_map,List.length_range];exact hlc,fun j t ht=>?_⟩,by rw[List.length_map,List.length_range];omega,fun t ht=>?_⟩
  ·rw[List.getElem?_map] at ht
   obtain⟨i,hi',rfl⟩:=Option.map_eq_some_iff.1 ht;obtain⟨h1,h2⟩:=List.getElem?_eq_some_iff.1 hi';rw[List.length_range] at h1;rw[List.getElem_range] at h2;subst h2;obtain⟨⟨b,o,rfl,e2,e3⟩,_⟩:=hfx j h1;exact⟨b,o,rfl,e2,e3⟩
  ·obtain⟨i,hi',rfl⟩:=List.mem_map.1 ht
   exact(hfx i (List.mem_range.1 hi')).2
end Go.Proofs.YtbpijnalmakfaaaGreatDoor
namespace Go.Proofs.YtbpijnalmakfaaaGreatDoor
open Go.RowKit
theorem yZ6 (cs:List Cel):∀c∈fewL cs,c.x.a.size≤130∧c.x.m.size≤130:=by
 intro c hc;obtain⟨d,_,rfl⟩:=List.mem_map.1 hc;exact⟨zFl _,zFl _⟩
theorem zNh:∀{l:List Tr},(∀t∈l,okST t)→okS (rowOf l)
 | [],_=>trivial
 | t::_,h=>⟨(h t (List.mem_cons_self ..)).1,(h t (List.mem_cons_self ..)).2.1,(h t (List.mem_cons_self ..)).2.2,zNh fun u hu=>h u (List.mem_cons_of_mem _ hu)⟩
theorem zV0 {L:List Cel} (h:∀c∈L,c.x.a.size≤130∧c.x.m.size≤130) (i:Nat):(cel L i).x.a.size≤1000000000∧(cel L i).x.m.size≤1000000000:=by
 by_cases hi:i<L.length
 ·have:=h _ (List.mem_of_getElem? (jO hi))
  omega
 ·have:cel L i=⟨nod0,[]⟩:=by unfold cel;rw[List.getD_eq_getElem?_getD,List.getElem?_eq_none (by omega)];rfl
  rw[this];exact⟨by decide,by decide⟩
theorem zEe {L:List Cel} (h:∀c∈L,c.x.a.size≤130∧c.x.m.size≤130):∀f i,okST (gr L f i)
 | 0,i=>⟨(zV0 h i).1,(zV0 h i).2,trivial⟩
 | f+1,i=>⟨(zV0 h i).1,(zV0 h i).2,zNh fun t ht=>by
  obtain⟨x,_,rfl⟩:=List.mem_map.1 ht;exact zEe h f x.toNat⟩
theorem zEf (cs:List Cel):∃(o:Option Tr) (z:Int),opR (fewL cs)=(o,z)∧szO o≤80∧okSO o∧((∃t,o=some t∧z=0)∨(o=none∧z≠0)):=by
 have hl:=zTp cs
 by_cases h0:(fewL cs).length=0
 ·exact⟨none,1,zQm h0,Nat.zero_le _,fun t h=>(by cases h),.inr ⟨rfl,by decide⟩⟩
 ·by_cases h:okK (fewL cs)∧okC (fewL cs)
  ·have hs:=zLx h.1 h.2 (by omega)
   refine⟨_,_,zWv h0 (by omega) h,?_,fun t ht=>?_,.inl ⟨_,rfl,rfl⟩⟩
   ·show szT _≤80
    omega
   ·injection ht with ht
    subst ht;exact zEe (yZ6 cs) _ _
  ·exact⟨none,16,zQn h0 (by omega) h,Nat.zero_le _,fun t h=>(by cases h),.inr ⟨rfl,by decide⟩⟩
theorem zS7 (cs:List Cel):∀(j:Nat) (c:Cel),(fewL cs)[j]? = some c→c.ks.length≤1000000:=fun j c h=>by have:=zAq cs c (List.mem_of_getElem? h);omega
theorem zEg (cs:List Cel):(fewL cs).length≤1000000:=by have:=zTp cs;omega
theorem yZ7 {cs:List Cel} (h:∀c∈cs,fitC c):∀c∈cs,c.x.a.size≤9223372036854775807∧c.x.m.size≤9223372036854775807∧c.ks.length≤9223372036854775807:=by
 intro c hc;obtain⟨h1,h2,h3⟩:=h c hc;unfold maxLen at h1 h2 h3;exact⟨by omega,by omega,by omega⟩
structure PxAll:Prop where
 expr:∀(l:List Te) (i:Int),l.length≤100000→(∀t∈l,t.t.s.size≤1000000000)→∀m,2*l.length+2≤m→∀(w:World) (v:Value),Vx7 w→Tke w v l→
  Calls Tryz.prog 10 #[v,.int .i64 i] w (sP (expZ B.nck B.long l m i) w)
 write:∀(o:Option Tr),szO o≤60000→okSO o→∀(W w:World) (v:Value),Vx7 w→HasT W v o→Up W w→Calls Tryz.prog 17 #[v] w (dT o W)
theorem uW (P:PxAll) {W w:World} (hx:Vx7 W) (hu:Up W w):Calls Tryz.prog 13 #[] w (BoP true W):=by
 have cL:=B.aR yVb (by decide) w (B.Lx.below hx.lx hu);rw[zOo] at cL;have HX:=Lib.hid hx;have HU:=Lib.hid hu;clear hx hu
 go_enter Tryz.func13,Tryz.ntmps13
 go_wp2_with fail;refine Calls.mono cL ?_;rintro e w1 ⟨v,rfl,ht,hb1⟩;have u1:Up W w1:=HU.out.trans hb1;have cT:=P.expr (zGt.map teq) 0 (by decide) zGu 14 (by decide) w1 v (HX.out.up u1) (uE ht);rw[zOp] at cT;have U1:=Lib.hid u1;clear ht hb1 u1 cL;go_wp2_with fail;refine cT.mono ?_;rintro e w2 ⟨v2,j2,e2,rfl,⟨hn,rfl,rfl⟩,u2⟩;have u02:Up W w2:=U1.out.trans u2;obtain⟨q,p,kb,ko,c,q6,p6,rfl,c0,c1,c4,ca,d0⟩:=zGw hn;have hnil:∀W,(binOp .eql 24 (.pointer (some ⟨q,p,none⟩)) (.pointer none)).run Tryz.prog W = .ok (.bool false) W:=fun W=>zUe W _
 have U2:=Lib.hid u02;have CA:=Lib.hid ca;have C4:=Lib.hid c4;have D0:=Lib.hid d0;clear hn u2 u02 cT ca d0;go_wp2_with fail;refine(refV ⟨#[102]⟩ w2).mono ?_;rintro e w3 ⟨rfl,hw3⟩;have n3:NewT w2 w3 (.pointer (some ⟨w2.heap.size,0,none⟩)) (vr7 ⟨#[102]⟩):=by rw[hw3];exact mP (Nat.le_refl _)
 have u3:Up w2 w3:=by rw[hw3];exact(Up.refl _).alloc _
 have N3:=Lib.hid n3;have U3:=Lib.hid u3;clear hw3 n3 u3;go_wp2_with fail;refine(refV ⟨#[103]⟩ w3).mono ?_;rintro e w4 ⟨rfl,hw4⟩;have n4:NewT w2 w4 (.pointer (some ⟨w3.heap.size,0,none⟩)) (vr7 ⟨#[103]⟩):=by rw[hw4];exact mP U3.out.size
 have u4:Up w3 w4:=by rw[hw4];exact(Up.refl _).alloc _
 have N4:=Lib.hid n4;have U4:=Lib.hid u4;clear hw4 n4 u4;go_wp2_with fail;refine(refV ⟨#[120]⟩ w4).mono ?_;rintro e w5 ⟨rfl,hw5⟩;have n5:NewT w2 w5 (.pointer (some ⟨w4.heap.size,0,none⟩)) (vr7 ⟨#[120]⟩):=by rw[hw5];exact mP (U3.out.trans U4.out).size
 have u5:Up w4 w5:=by rw[hw5];exact(Up.refl _).alloc _
 have N5:=Lib.hid n5;have U5:=Lib.hid u5;have U25:Hid (Up w2 w5):=Lib.hid ((U3.out.trans U4.out).trans u5);clear hw5 n5 u5;have happ:=oQ (k:=25) (s:=⟨#[]⟩) U25.out.size (N4.out.up U5.out) N5.out;obtain⟨W6,hW6⟩:∃W6,(w5.alloc (.cells #[.pointer (some ⟨w3.heap.size,0,none⟩),.pointer (some ⟨w4.heap.size,0,none⟩)] 24)).alloc (.cells #[.int .i64 25,.int .i64 0,.string ⟨#[]⟩,.string ⟨#[]⟩,.slice (some ⟨w5.heap.size,0,none⟩) 2 2] 57)=W6:=⟨_,rfl⟩;have u6:Up w5 W6:=by rw[←hW6];exact((Up.refl _).alloc _).alloc _
 have z6:W6.heap.size=w5.heap.size+1+1:=by rw[←hW6];simp
 rw[hW6] at happ;have hall:=oQ (k:=25) (s:=⟨#[]⟩) (U25.out.trans u6).size (N3.out.up ((U4.out.trans U5.out).trans u6)) happ;rw[z6] at hall;obtain⟨W8,hW8⟩:∃W8,(W6.alloc (.cells #[.pointer (some ⟨w2.heap.size,0,none⟩),.pointer (some ⟨w5.heap.size+1,0,none⟩)] 24)).alloc (.cells #[.int .i64 25,.int .i64 0,.string ⟨#[]⟩,.string ⟨#[]⟩,.slice (some ⟨w5.heap.size+1+1,0,none⟩) 2 2] 57)=W8:=⟨_,rfl⟩;rw[hW8] at hall;have u8:Up w2 W8:=by rw[←hW8];exact(((U25.out.trans u6).alloc _).alloc _)
 have HW8:Hid ((((w5.alloc (.cells #[.pointer (some ⟨w3.heap.size,0,none⟩),.pointer (some ⟨w4.heap.size,0,none⟩)] 24)).alloc (.cells #[.int .i64 25,.int .i64 0,.string ⟨#[]⟩,.string ⟨#[]⟩,.slice (some ⟨w5.heap.size,0,none⟩) 2 2] 57)).alloc (.cells #[.pointer (some ⟨w2.heap.size,0,none⟩),.pointer (some ⟨w5.heap.size+1,0,none⟩)] 24)).alloc (.cells #[.int .i64 25,.int .i64 0,.string ⟨#[]⟩,.string ⟨#[]⟩,.slice (some ⟨w5.heap.size+1+1,0,none⟩) 2 2] 57)=W8):=Lib.hid (by rw[hW6,hW8]);have cW:=P.write (some nM) (by decide) zGv W8 W8 (.pointer (some ⟨w5.heap.size+1+1+1,0,none⟩)) (HX.out.up (U2.out.trans u8)) hall.has (Up.refl _);unfold dT at cW;rw[zWi,if_pos rfl,eJ] at cW;have U8:=Lib.hid u8;clear happ hall hW6 hW8 u6 u8 z6;go_wp2_with fail;rw[HW8.out];refine cW.mono ?_;rintro e w9 ⟨rfl,u9⟩;have U9:=Lib.hid (U8.out.trans u9);have k4:=U9.out.cell C4.out;have ka:=U9.out.cell CA.out;have k6:=U9.out.cell D0.out;have hU1:zTb.toList=[102,32,40,32,103,32,120,32,41]:=by rw[Lib.toList_data];rfl
 clear u9 c0 c1 c4 cW;go_wp2_with fail
 go_ret
 exact qZ rfl (U2.out.trans U9.out)
theorem zNi (cs:List Cel) {W w:World} {v:Value} (h:Cls W W.heap.size v cs) (hf:∀c∈cs,fitC c) (u:Up W w) :
  Calls Tryz.prog 16 #[.agg #[v]] w fun e w'=>∃v,e = .returned (.agg #[v])∧Cls w' w'.heap.size v (fewL cs)∧Up W w':=
 (zAr cs w v (h.upp u) (yZ7 hf)).mono fun _ _ k=>by
  obtain⟨v,he,hc,hb⟩:=k;exact⟨v,he,hc,u.of hb⟩
section
variable {W:World} {bw:Nat} {X:Nat→Obj→Prop}
theorem St7.drop {Y:Nat→Obj→Prop} {n:Nat} {Ys:List ByteArray} {w:World} (h:St7 W bw Y n Ys w) (hX:∀B o,X B o→Y B o):St7 W bw X n Ys w:=by
 obtain⟨u0,ns,h1,h2,h3,v,h4,h5,h6⟩:=h;exact⟨u0,ns,h1,h2,h3,v,h4,h5,fun B o h=>h6 B o (hX B o h)⟩
theorem zQr {w:World} {n:Nat} {Ys:List ByteArray} (x y:ByteArray) (hB:W.heap.size≤bw) (h:St7 W bw X n Ys w) (hn:n≤1000000) :
  Calls Tryz.prog 70 #[.pointer (some ⟨bw,0,none⟩),.slice (some ⟨w.heap.size,0,none⟩) 2 2] (w.alloc (.cells #[.string x,.string y] 9)) (WrE W bw X (n+2) (Ys++[x,y])):=zQ6 [x,y] hB h hn (by show 2≤10;omega) (by show 0<2;omega)
theorem zEh {w:World} {n:Nat} {Ys:List ByteArray} (x y z:ByteArray) (hB:W.heap.size≤bw) (h:St7 W bw X n Ys w) (hn:n≤1000000) :
  Calls Tryz.prog 70 #[.pointer (some ⟨bw,0,none⟩),.slice (some ⟨w.heap.size,0,none⟩) 3 3] (w.alloc (.cells #[.string x,.string y,.string z] 9)) (WrE W bw X (n+3) (Ys++[x,y,z])):=zQ6 [x,y,z] hB h hn (by show 3≤10;omega) (by show 0<3;omega)
end
theorem yU0 {t:Tr} {c:Int} (h1:szT t≤8192) (h2:dpT t≤60) (h3:isT B.nck B.long t c=true):chk B.nck B.long (some t) c=0:=by
 unfold chk;simp only;rw[if_neg (by omega),if_neg (by omega),if_pos h3]
section
variable {W:World} {bw:Nat} {X:Nat→Obj→Prop}
theorem kA (x:ByteArray) (t:Tr) (r c:Nat) (hB:W.heap.size≤bw) (cT:WriC W bw t r c) (w:World) (n:Nat) (Ys:List ByteArray) (v:Value) (hv:HasT W v (some t)) (hs:St7 W bw X n Ys w) (hn:n+1+c≤1000000) :
  Calls Tryz.prog 73 #[.pointer (some ⟨bw,0,none⟩),.string x,v,.int .i64 (r:Int)] w (WrE W bw X (n+1+c) (Ys++[x,atX qE t r])):=by
 have cP:=wQ x hB hs (by omega);have HC:=Lib.hid cT;have HV:=Lib.hid hv;have HN:=Lib.hid hn;have HE:Hid (Ys++[x,atX qE t r]=(Ys++[x])++[atX qE t r]):=Lib.hid (by simp);rw[HE.out];obtain⟨Z,hZ⟩:∃Z,(Ys++[x])++[atX qE t r]=Z:=⟨_,rfl⟩;rw[hZ];obtain⟨rr,hrr⟩:∃rr:Int,(r:Int)=rr:=⟨_,rfl⟩;rw[hrr];have HR:=Lib.hid hrr;have HZ:=Lib.hid hZ;clear cT hv hs hn hZ hrr HE
 go_enter Tryz.func73,Tryz.ntmps73
 go_wp2_with fail;refine cP.mono ?_;rintro en w2 ⟨⟨u,rfl⟩,h2⟩;have cW:=HC.out _ w2 (n+1) (Ys++[x]) v HV.out h2 (by have:=HN.out;omega);rw[HZ.out,HR.out] at cW;clear h2 cP;go_wp2_with fail;refine cW.mono ?_;rintro en w3 ⟨⟨u,rfl⟩,h3⟩;have H3:=Lib.hid h3;clear h3;go_wp2_with fail;go_end0;exact⟨⟨_,rfl⟩,H3.out⟩
theorem zEi (x:ByteArray) (t:Tr) (hB:W.heap.size≤bw) (hx:B.Nx W) (hp:Pl W) (hz:szT t≤8192) (hd:dpT t≤60) (hk:okST t) (ht:isT B.nck B.long t 1=true) (w:World) (n:Nat) (Ys:List ByteArray) (v:Value) (hv:HasT W v (some t)) (hs:St7 W bw X n Ys w) (hn:n+2≤1000000) :
  Calls Tryz.prog 136 #[.pointer (some ⟨bw,0,none⟩),.string x,v] w (WrE W bw X (n+2) (Ys++[x,tB (tkT t)])):=by
 have cT:=yVz (some t) (by show szT t≤60000;omega) (fun u hu=>by have hu:=Option.some.inj hu;subst hu;exact hk) w w v (Nx.up hx hs.1) (hp.up hs.1) (hv.up hs.1) (Up.refl w);unfold WtP at cT;rw[yU0 hz hd ht,if_pos rfl] at cT;have e:wrT (some t)=tB (tkT t):=rfl;rw[e] at cT;obtain⟨s,hs'⟩:∃s,tB (tkT t)=s:=⟨_,rfl⟩;rw[hs'] at cT ⊢;have HS:=Lib.hid hs;have HN:=Lib.hid hn;clear hv hx hp hz hd hk ht hs hn e hs'
 go_enter Tryz.func136,Tryz.ntmps136
 go_wp2_with fail;refine cT.mono ?_;rintro en w2 ⟨rfl,u2⟩;have cP:=zQr x s hB (HS.out.up u2) (by have:=HN.out;omega);clear u2 cT;go_wp2_with fail;refine cP.mono ?_;rintro en w3 ⟨⟨u,rfl⟩,h3⟩;have H3:=Lib.hid h3;clear h3;go_wp2_with fail;go_end0;exact⟨⟨_,rfl⟩,H3.out⟩
end
end Go.Proofs.YtbpijnalmakfaaaGreatDoor
