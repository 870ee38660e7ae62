/-
  Layer 7, the program's atom, walked.
-/
import Derived.Test.YtgeghilbikljcaaGreatDoorGj18
set_option maxHeartbeats 40000000
set_option maxRecDepth 100000
namespace Go.Proofs.YtgeghilbikljcaaGreatDoor
open Go.RowKit Go.Shelf
attribute [local go_sem] Oper.semAt_some
section
variable {V0:World} {v:Value} {l:List Te} {b:Nat}
theorem zNd (Q:Px8 V0 v l b) (hv:Tke V0 v l) (m i:Nat) (e:Int) (hi:i<=l.length) (hm:e=0->2*(l.length-i)+1<=m) (w:World) (h:Psr w b v i e) (hu:Up V0 w)
  (cE:∀n j,n<m->e=0->i<j->j<=l.length->2*(l.length-j)+2<=n->RuAt V0 v b 191 (exprF B.nck B.long l n) j 0) :
  Calls Tryz.prog 260 #[.agg #[.pointer (some ⟨b,0,none⟩)]] w (AtP l (qV B.nck B.long l m) b v i e w):=by
 have hll:=Q.hl;have hbV:=Q.hb;have hb:b<w.heap.size:=qC h;obtain⟨W0,hW0⟩:∃W0,w.alloc (.cells #[.pointer (some ⟨b,0,none⟩)] 183)=W0:=⟨_,rfl⟩;have u0:Up w W0:=by rw[<- hW0];exact(Up.refl w).alloc _
 have b1:W0.heap[w.heap.size]? = some (.cells #[.pointer (some ⟨b,0,none⟩)] 183 (0,0)):=by rw[<- hW0];exact heap_alloc_new w _
 have k0:W0.cell? ⟨w.heap.size,0,none⟩=some (.pointer (some ⟨b,0,none⟩)):=cell_of_row W0 w.heap.size 0 _ _ _ b1;have hgU:∀w',Gs (On b) W0 w'->Up V0 w':=fun w' g=>g.up (hu.trans u0) fun q hq=>by rw[hq];exact hbV
 have cH:∀(j:Nat) (w':World),j<=l.length->Gs (On b) W0 w'->Psr w' b v j e->Calls Tryz.prog 261 #[.agg #[.pointer (some ⟨b,0,none⟩)]] w' (HaP b v (halfQ (tks l) j e) j e w'):=fun j w' hj g p=>zNa b v j e w' Q.T p (hgU w' g) (by omega) hbV
 have cW:∀(j h:Nat) (w':World),j=i+h->j<=l.length->Gs (On b) W0 w'->Psr w' b v j e->Calls Tryz.prog 262 #[.agg #[.pointer (some ⟨b,0,none⟩)]] w' (WhP l (zO B.long l (qV B.nck B.long l (m-h-1)) (exprF B.nck B.long l (m-h-1)) j) b v j e w'):=fun j h w' hj hjl g p=>
  zRo Q hv _ _ (fun j hj=>vI hj) j e hjl w' p (hgU w' g) fun j2 he h1 h2=>cE (m-h-1) j2 (by have:=hm he;omega) he (by omega) h2 (by have:=hm he;omega)
 have c0:=cH i W0 hi (Gs.refl _ _) (h.up u0);have HGU:=Lib.hid hgU;have HH:=Lib.hid cH;have HWH:=Lib.hid cW;have B1:=Lib.hid b1;have U0:=Lib.hid u0;have HW0:=Lib.hid hW0;have HM:=Lib.hid hm;have z0:W0.heap.size=w.heap.size+1:=by rw[<- hW0];simp
 obtain⟨q0,hq0⟩:∃q,halfQ (tks l) i e=q:=⟨_,rfl⟩;rw[hq0] at c0;have HQ0:=Lib.hid hq0;obtain⟨i0,hi0,hz0,hz1,hz2⟩:=info_parts zRr;clear cE cH cW hgU b1 u0 hW0 h hu hv Q hm hq0;refine(callsIn_wide (n:=3)).1 ?_;refine callsIn_of_wp_marks Tryz.func260 rfl trivial ?_ rfl;simp only[Tryz.ntmps260,List.size_toArray,List.length_cons,List.length_nil,Nat.reduceAdd,Nat.reduceSub,Array.replicate_succ,Array.replicate_zero,List.push_toArray,List.append_toArray,List.nil_append,List.cons_append]
 gi_wp2_with (refine⟨trivial,?_⟩;rw[HW0.out];gi_at_call 261;refine(callsIn_wide.2 c0).mono ?_;rintro en w1 ⟨rfl,g1,p1⟩;have G1:=Lib.hid g1;have P1:=Lib.hid p1;have hz1':=g1.size;clear g1 p1)
 have hst0:∃hs q,uT l i e hs/\(hs=[]->Value.slice none 0 0 = .slice none 0 0)/\w1.ownsRow W0.heap.size 3 1 (.slice none 0 0) hs.length (hs.map (Value.int .i64))/\Gs (On b) W0 w1/\halfQ (tks l) (i+hs.length) e=q/\Value.int .i64 (q0.getD 0) = .int .i64 (q.getD 0)/\Value.bool q0.isSome = .bool q.isSome/\Psr w1 b v (haI q (i+hs.length)) e:=
  ⟨[],q0,uT.nil hi,fun _=>rfl,World.ownsRow_nil _ _ _ _,G1.out,HQ0.out,rfl,rfl,P1.out⟩
 have HST0:=Lib.hid hst0;clear hst0
 generalize (q0.getD 0)=kv0 at HST0 ⊢
 generalize (q0.isSome)=iv0 at HST0 ⊢
 gi_loopw [4,5,6] (fun hv kv iv wr=>∃hs q,uT l i e hs/\(hs=[]->hv = .slice none 0 0)/\wr.ownsRow W0.heap.size 3 1 hv hs.length (hs.map (Value.int .i64))/\Gs (On b) W0 wr/\halfQ (tks l) (i+hs.length) e=q/\kv = .int .i64 (q.getD 0)/\iv = .bool q.isSome/\Psr wr b v (haI q (i+hs.length)) e) (fun _ _ iv wr=>boolN iv (l.length+2-posW b wr))
 case atStart=>exact HST0.out
 case round=>
  obtain⟨hs,q,hsel,hnil,hown,hg,hq,rfl,rfl,hp⟩:=hrel;have hgs:=hg.size;have r1:wr.heap[w.heap.size]? = some (.cells #[.pointer (some ⟨b,0,none⟩)] 183 (0,0)):=hg.row B1.out (by unfold On;omega);have k1:wr.cell? ⟨w.heap.size,0,none⟩=some (.pointer (some ⟨b,0,none⟩)):=cell_of_row wr w.heap.size 0 _ _ _ r1;have hb1:=qC r1;have HR1:=Lib.hid r1;have HG:=Lib.hid hg;have HP:=Lib.hid hp;have HSEL:=Lib.hid hsel;have HOWN:=Lib.hid hown;have HQ:=Lib.hid hq;have HNIL:=Lib.hid hnil;have hle:=hsel.le;obtain⟨n,hn⟩:∃n,hs.length=n:=⟨_,rfl⟩;have HN:=Lib.hid hn;rw[hn] at hle;clear r1 hg hp hsel hown hq hnil hn
  cases q with
  | some k=>
   have hlt:i+n<l.length:=by have h:=(zRq HQ.out).2;rw[HN.out] at h;exact wC (lg:=B.long) (by rw[h];rfl)
   have hpos:posW b wr=i+n+1:=by have h:=HP.out.pos;rw[HN.out] at h;exact h
   have hown:=HOWN.out;rw[HN.out] at hown;have hown2:=hown.alloc (.cells #[.int .i64 k] 3);have HO2:=Lib.hid hown2;have hz9:(wr.alloc (.cells #[.int .i64 k] 3)).heap.size=wr.heap.size+1:=by simp
   clear hown hown2
   gi_wp2_with (gi_at_builtin;refine wpListIn_append_own _ rfl _ _ 119 rfl W0.heap.size 3 i0 _ 1 8 Tryz.underlying119 hi0 hz0 hz1 hz2 rfl (by omega) u4 n _ rfl HO2.out ⟨wr.heap.size,0,none⟩ 1 1 [.int .i64 k] rfl rfl (cell_one_new _ _ _) (by intro u hu;rw[List.mem_singleton.1 hu];rfl) (by unfold maxLen;omega) (by omega) (by omega) ?_;intro v6 w6 ho6 hg6 _;have hbk:∀g',u4.ownBlock=some g'->W0.heap.size<=g':=(fun g' e=>(World.ownsRow.lt HOWN.out g' e).1);have hG6:Gs (On b) W0 w6:=(HG.out.alloc _).grown hg6 (fun g' e=>.inr (hbk g' e));have hp6:Psr w6 b v (i+n+1) e:=((hg6.block b (by omega) (fun e=>by have:=hbk b e.symm;omega)).trans (((Up.refl wr).alloc _).row (by have h:=HP.out;rw[HN.out] at h;exact h)));have c6:=HH.out (i+n+1) w6 (by omega) hG6 hp6;have k6:w6.cell? ⟨w.heap.size,0,none⟩=some (.pointer (some ⟨b,0,none⟩)):=cell_of_row w6 w.heap.size 0 _ _ _ (hG6.row B1.out (by unfold On;omega));have HO6:=Lib.hid ho6;have HG6:=Lib.hid hG6;clear ho6 hg6 hG6 hp6 hbk)
   gi_wp2_with (refine⟨trivial,?_⟩;gi_at_call 261;refine(callsIn_wide.2 c6).mono ?_;rintro en w7 ⟨rfl,g7,p7⟩;have hsn:=HSEL.out.snoc HQ.out;have hlen:(hs++[k]).length=n+1:=(by rw[List.length_append,HN.out];rfl);have HG7:=Lib.hid (HG6.out.trans g7);have ho7:=kY HO6.out g7 (fun q hq=>(by rw[hq];omega));have HO7:=Lib.hid ho7;have P7:=Lib.hid p7;have HSN:=Lib.hid hsn;have HLEN:=Lib.hid hlen;clear g7 p7 hsn ho7 hlen)
   obtain⟨q7,hq7⟩:∃q7,halfQ (tks l) (i+n+1) e=q7:=⟨_,rfl⟩;have HQ7:=Lib.hid hq7;have p7:=P7.out;rw[hq7] at p7;have P7b:=Lib.hid p7;rw[hq7];clear hq7 p7
   go_roundw
   case rel=>
    refine⟨hs++[k],q7,HSN.out,(fun h=>by have:=congrArg List.length h;rw[HLEN.out] at this;cases this),?_,HG7.out,by rw[HLEN.out];exact HQ7.out,rfl,rfl,by rw[HLEN.out];exact P7b.out⟩;rw[HLEN.out,List.map_append];exact HO7.out
   case measure=>
    refine hU (by rw[hpos];omega) fun hs7=>?_
    rw[hpos];obtain⟨k7,hk7⟩:=Option.isSome_iff_exists.1 hs7;have h:=P7b.out;rw[hk7] at h;rw[h.pos]
    show l.length+2-(i+n+1+1)<_
    omega
  | none=>
   have hform:∃A cp,u4 = .slice A n cp/\(0<n->∃g,A=some ⟨g,0,none⟩/\W0.heap.size<=g/\g<wr.heap.size/\∀j,j<n->wr.cell? ⟨g,0+j,none⟩=some (.int .i64 ((hs[j]?).getD 0))):=by
    by_cases h0:hs=[]
    ·refine⟨none,0,?_,fun hn=>absurd hn ?_⟩
     ·rw[HNIL.out h0,<- HN.out,h0];rfl
     ·rw[<- HN.out,h0];exact Nat.lt_irrefl _
    ·have hpos:0<hs.length:=List.length_pos_iff.2 h0
     obtain⟨g,cp,he,hbg,hltg⟩:=HOWN.out.form hpos;refine⟨some ⟨g,0,none⟩,cp,by rw[he,HN.out],fun _=>⟨g,rfl,hbg,hltg,fun j hj=>?_⟩⟩;obtain⟨k,hk⟩:∃k,hs[j]? = some k:=⟨_,List.getElem?_eq_getElem (by rw[HN.out];exact hj)⟩;have ho:=HOWN.out;have h9:=ho.cells (g:=g) (by rw[he];rfl) j (.int .i64 k) (by rw[List.getElem?_map,hk];rfl);have e1:(⟨g,0,none⟩:Addr).add j=⟨g,0+j,none⟩:=by unfold Addr.add;split<;>simp_all
     rw[e1] at h9;rw[h9,hk]
     rfl
   obtain⟨A,cp,rfl,hAA⟩:=hform;have HAA:=Lib.hid hAA;clear hAA;have cW:=HWH.out (i+n) n wr rfl (by omega) HG.out (by have h:=HP.out;rw[HN.out] at h;exact h)
   gi_wp2_with (refine⟨trivial,?_⟩;gi_at_call 262;refine(callsIn_wide.2 cW).mono ?_;rintro en w3 ⟨P3,d3,rfl,g3,h3⟩;have HG3:=Lib.hid (HG.out.trans g3);have HL3:=Lib.hid g3;have H3:=Lib.hid h3;have hz3:=g3.size;have r3:w3.heap[w.heap.size]? = some (.cells #[.pointer (some ⟨b,0,none⟩)] 183 (0,0)):=(g3.row HR1.out (by unfold On;omega));have k3:w3.cell? ⟨w.heap.size,0,none⟩=some (.pointer (some ⟨b,0,none⟩)):=cell_of_row w3 w.heap.size 0 _ _ _ r3;have hb3:=qC r3;have R3:=Lib.hid r3;have hu3:∀j,j<n->∀g,A=some ⟨g,0,none⟩->g<wr.heap.size->W0.heap.size<=g->wr.cell? ⟨g,0+j,none⟩=some (.int .i64 ((hs[j]?).getD 0))->w3.cell? ⟨g,0+j,none⟩=some (.int .i64 ((hs[j]?).getD 0)):=(fun j _ g _ h1 h2 h3=>g3.cell h3 (by unfold On;simp only;omega));have HU3:=Lib.hid hu3;clear g3 h3 r3 hu3;by_cases hn0:0<n;have hn0':(0:Int)<(n:Int):=(by omega);all_goals cases d3)
   ·
    have h3:=H3.out;have he:e=0:=by
     by_cases he:e=0
     ·exact he
     ·have h1:=HSEL.out.ne he
      have h2:=HN.out;rw[h1] at h2;simp only[List.length_nil] at h2;omega
    have hps:(hdE B.long l (i+n)).who=false/\Psr w3 b v (i+n) 0:=by
     rcases h3 with ⟨h1,_,_,h2⟩ | ⟨_,_,hd,_⟩
     ·rw[he] at h2
      refine⟨?_,h2⟩
      cases hw:(hdE B.long l (i+n)).who with
      | false=>rfl
      | true=>exact absurd ⟨he,hw⟩ h1
     ·cases hd
    have hA:qV B.nck B.long l m i = .inr (i+n,6):=by
     have h1:=HSEL.out.eq he (m-n);rw[HN.out] at h1;have hmn:m-n+n=m:=by have:=HM.out he;omega
     have hmn2:m-n=(m-n-1)+1:=by have:=HM.out he;omega
     rw[hmn] at h1;have hq:=HQ.out;rw[HN.out,he] at hq;have hd:=zWe hq hps.1;rw[h1,hmn2,kE];unfold zO;rw[hd]
     rfl
    have hany:(hdE B.long l i).any=true:=HSEL.out.any (by rw[HN.out];exact hn0);obtain⟨X,hX⟩:∃X:Rs Tr,X = .inr (i+n,6):=⟨_,rfl⟩;obtain⟨WA,hWA⟩:∃WA,w3.alloc (.cells #[.pointer P3] 24)=WA:=⟨_,rfl⟩;have uA:Up w3 WA:=by rw[<- hWA];exact(Up.refl w3).alloc _
    have bA:Boxed WA w3.heap.size 24 (.pointer P3):=by rw[<- hWA];exact Boxed.new w3 _ _
    have cF:=vZ b v (i+n) 0 6 WA (hps.2.up uA);rw[if_pos rfl] at cF;have BA:=Lib.hid bA;have UA:=Lib.hid uA;have zA:WA.heap.size=w3.heap.size+1:=by rw[<- hWA];simp
    rw[hWA];refine⟨trivial,?_⟩
    gi_at_call 76
    refine(callsIn_wide.2 cF).mono ?_;rintro en WB ⟨⟨uu,rfl⟩,gF,pF⟩;have zB:=gF.size;have BN:Hid (Boxed WB w3.heap.size 24 (.pointer P3)):=Lib.hid (gF.row BA.out (by unfold On;omega));have GB:Hid (Gs (On b) w WB):=Lib.hid ((((Gs.of U0.out).trans HG3.out).trans (Gs.of UA.out)).trans gF);have CB:Hid (∀(p:Addr) {u:Value},w3.cell? p=some u->p.block<w3.heap.size->p.block≠b->WB.cell? p=some u):=Lib.hid fun p u hc _ hp=>gF.cell (UA.out.cell hc) (by unfold On;exact hp)
    have PB:Hid (Psr WB b v (rI X) (rE X)):=Lib.hid (by rw[hX];exact pF);have TB:Hid (∀t j,X = .inl (t,j)->InT WB (Sc w w3.heap.size WB) (.pointer P3) t):=Lib.hid fun t j hXt=>by rw[hX] at hXt;cases hXt
    have HFIN:Hid (∀(A':Option Addr) (wF:World),Gs (On b) w wF->Psr wF b v (rI X) (rE X)->(∀t j,X = .inl (t,j)->NewT w wF (.pointer A') (wrapK hs t))->AtP l (qV B.nck B.long l m) b v i e w (.returned (.tuple #[.pointer A',.bool false])) wF):=Lib.hid fun A' wF g p hn=>by
     refine⟨A',false,rfl,g,.inr ⟨he,hany,?_,fun t j ht=>?_⟩⟩
     ·rw[hA]
      rw[hX] at p;exact p
     ·rw[hA] at ht
      cases ht
    clear h3 hX hA hps gF pF cF hWA bA uA hn0 hn0'
    gi_wp2
    have hN:=HN.out;subst hN;have hwb:=BN.out.lt;have hgz:=GB.out.size;refine⟨trivial,(mD _ _ trivial rfl _ _ _ _).mono ?_⟩;rintro e5 w5 ⟨rfl,rfl⟩
    gi_wp2
    obtain⟨WL,hWL⟩:∃WL,WB.alloc (.cells #[.slice A hs.length cp] 119)=WL:=⟨_,rfl⟩;have zL:WL.heap.size=WB.heap.size+1:=by rw[<- hWL];simp
    have uL:Up WB WL:=by rw[<- hWL];exact(Up.refl WB).alloc _
    have bL:WL.heap[WB.heap.size]? = some (.cells #[.slice A hs.length cp] 119 (0,0)):=by rw[<- hWL];exact heap_alloc_new WB _
    have cL:WL.cell? ⟨WB.heap.size,0,none⟩=some (.slice A hs.length cp):=cell_of_row WL WB.heap.size 0 _ _ _ bL;have hIL:0<hs.length->∃g off,A=some ⟨g,off,none⟩/\g≠w3.heap.size/\g<WL.heap.size/\∀j,j<hs.length->WL.cell? ⟨g,off+j,none⟩=some (.int .i64 ((hs[j]?).getD 0)):=fun h0=>by
     obtain⟨g,h1,h2,h3,h4⟩:=HAA.out h0;exact⟨g,0,h1,by omega,by omega,fun j hj=>uL.cell (CB.out _ (HU3.out j hj g h1 h3 h2 (h4 j hj)) (by simp only;omega) (by simp only;omega))⟩
    have hni:NJ w WL w3.heap.size X hs [] WL:=⟨P3,uL.row BN.out,Gs.refl _ _,fun _ _ t j hX=>by
     show InT WL _ _ (wrapK (hs.drop (hs.length-0)) t)
     rw[Nat.sub_zero,List.drop_length];exact InT.keep (TB.out t j hX) (fun q hq=>⟨⟨hq.1.1,by have:=hq.1.2;omega⟩,hq.2.1,hq.2.2.keep (uL.block q hq.1.2)⟩) fun q hq=>uL.block q hq.1.2⟩
    have HNI:=Lib.hid hni;have HIL:=Lib.hid hIL;have UL:=Lib.hid uL;rw[hWL];clear hWL uL bL hni hIL;refine wpIn_rangeFunc_ownF rfl (by decide) (gf:=267) (lb:=#[.pointer (some ⟨WB.heap.size,0,none⟩)]) rfl trivial (enters_of Tryz.func267 (by kernel_rfl) rfl)
     (xH Fence.wide 2 w3.heap.size trivial rfl (by decide) WB.heap.size WL.heap.size cp A (by omega) hs (by omega) WL (by omega) (Nat.le_refl _) cL HIL.out)
     (fun h k=>Kq.trans h k) (Kq.put (Nat.le_refl _)) (Below.refl _ _) (fun _=>rfl)
     (NJ w WL w3.heap.size X hs) (fun _ _ _=>False) (wG (by omega)) (fun _ _ _ _ _ hs _ _=>hs) HNI.out
     (fun x=>{tmps:=#[.agg #[.pointer (some ⟨b,0,none⟩)],.pointer (some ⟨w.heap.size,0,none⟩),.pointer none,.bool false,.slice A hs.length cp,.int .i64 0,.bool false,.pointer (some ⟨w3.heap.size,0,none⟩),.bool false,undef,.int .i64 x.2,.tuple #[.int .i64 kv0,.bool iv0],.agg #[.pointer (some ⟨b,0,none⟩)],.tuple #[.int .i64 kv0,.bool iv0],.int .i64 kv0,.bool iv0,.bool false,u17,u18,u19,u20,u21,u22,u23,u24,u25,.tuple #[.pointer P3,.bool false],.agg #[.pointer (some ⟨b,0,none⟩)],.tuple #[.pointer P3,.bool false],.pointer P3,.bool false,.bool false,.bool true,.bool true,.slice A hs.length cp,.int .i64 (hs.length:Int),.bool true,.bool true,.pointer (some ⟨w.heap.size,0,none⟩),.pointer (some ⟨b,0,none⟩),uu,.slice A hs.length cp,.func (.func 267) #[] #[.pointer (some ⟨WB.heap.size,0,none⟩)],.int .i64 (x.1:Int),.int .i64 x.2,undef,undef,undef,undef,undef,undef],defers:=[]}) ?assign ?body ?done ?stop
    case assign=>
     intro l x W K hK
     gi_wp2
     exact hK
    case body=>
     rintro l2 pre x W ⟨A2,bX,gX,hX⟩ _;have cX:=bX.cell;have hbl:=bX.lt;have hzW:=gX.size;have HX:=Lib.hid hX;have GX:=Lib.hid gX;have BX:=Lib.hid bX;clear hX gX bX
     gi_wp2_with (refine⟨trivial,?_⟩;gi_at_call 217;refine(callsIn_wide.2 (kL _ _ _ _ _)).mono ?_;rintro e9 w9 ⟨rfl,h9⟩;have b9:Boxed w9 w3.heap.size 24 (.pointer A2):=(by rw[h9];exact(BX.out.alloc _).alloc _);have c9:=b9.cell;have f9:=b9.frozen;have hb9:=b9.lt;have H9:=Lib.hid h9;clear h9 b9)
     have h9:=H9.out;have e9:w9.setCell ⟨w3.heap.size,0,none⟩ (.pointer (some ⟨W.heap.size+1,0,none⟩))=((W.setCell ⟨w3.heap.size,0,none⟩ (.pointer (some ⟨W.heap.size+1,0,none⟩))).alloc (.cells #[.pointer A2] 24)).alloc (.cells #[.int .i64 x.2,.int .i64 0,.string nob,.string ⟨#[]⟩,.slice (some ⟨W.heap.size,0,none⟩) 1 1] 44):=by
      rw[h9,qZ _ _ _ _ (by rw[World.size_alloc];simp only;omega),qZ _ _ _ _ (by simp only;omega)]
      rfl
     rw[e9];refine⟨((KeepsOthers.setCell _ _ _).trans (KeepsOthers.alloc _ _)).trans (KeepsOthers.alloc _ _),⟨by simp[World.setCell];omega,fun q hq hne=>?_⟩,sM (by omega) BX.out GX.out HX.out⟩;have hs9:(W.setCell ⟨w3.heap.size,0,none⟩ (.pointer (some ⟨W.heap.size+1,0,none⟩))).heap.size=W.heap.size:=by simp[World.setCell]
     exact((((Up.refl _).alloc _).alloc _).block q (by rw[hs9];omega)).trans (Below.heap_setCell _ _ _ _ hne)
    case done=>
     rintro D ys W hD rfl hI hK;have hI2:=(wG (by omega)).putObj (.deferred none) hI hD hK rfl;have HI2:=Lib.hid hI2;have HK:=Lib.hid hK;obtain⟨A2,bX,gX,hX⟩:=hI;have cX:=bX.cell;clear hX gX bX hI2
     gi_wp2
     refine⟨by simp,.inl ⟨_,_,rfl,run_takeDeferred hK,?_⟩⟩;refine⟨_,results_tmp2 rfl _ _ _,?_⟩;obtain⟨A3,b3,g3,h3⟩:=HI2.out;have hne:w3.heap.size≠D:=by omega
     have e2:A3=A2:=by
      have e:=b3.cell;rw[World.cell?_of_block (a:=⟨w3.heap.size,0,none⟩) (World.putObj_heap_other hne),cX] at e;injection e with e;injection e with e;exact e.symm
     subst e2;refine HFIN.out _ _ (xU (GB.out.trans (Gs.of UL.out)) g3 (by omega)) (g3.row (UL.out.row PB.out) (by unfold On;omega)) fun t j hX=>?_
     have h4:=h3 (by rw[yE]) (by rw[yE];exact Nat.le_refl _) t j hX;rw[yE,Nat.sub_self,List.drop_zero] at h4;exact InT.keep h4 (fun q hq=>hq.1) fun _ _=>rfl
    case stop=>
     rintro D c pre W _ _ h _;exact h.elim
   ·
    have h3:=H3.out;have he:e=0:=by
     rcases h3 with ⟨_,hd,_⟩ | ⟨h0,_⟩
     ·cases hd
     ·exact h0
    obtain⟨X,hX⟩:∃X,zO B.long l (qV B.nck B.long l (m-n-1)) (exprF B.nck B.long l (m-n-1)) (i+n)=X:=⟨_,rfl⟩;rw[hX] at h3;have hr:(hdE B.long l (i+n)).who=true/\Psr w3 b v (rI X) (rE X)/\∀t j,X = .inl (t,j)->NewT wr w3 (.pointer P3) t:=by
     rcases h3 with ⟨_,hd,_⟩ | ⟨_,h1,_,h2,h4⟩
     ·cases hd
     ·exact⟨h1,h2,h4⟩
    have hA:qV B.nck B.long l m i=selW hs X:=by
     have h1:=HSEL.out.eq he (m-n);rw[HN.out] at h1;have hmn:m-n+n=m:=by have:=HM.out he;omega
     have hmn2:m-n=(m-n-1)+1:=by have:=HM.out he;omega
     rw[hmn] at h1;rw[h1,hmn2,kE,hX]
    have hany:(hdE B.long l i).any=true:=by
     rcases Nat.eq_zero_or_pos n with h0 | h0
     ·have h1:=hr.1
      rw[h0,Nat.add_zero] at h1
      cases hd:hdE B.long l i<;>rw[hd] at h1<;>first | rfl | cases h1
     ·exact HSEL.out.any (by rw[HN.out];exact h0)
    obtain⟨WB,hWB⟩:∃WB,w3.alloc (.cells #[.pointer P3] 24)=WB:=⟨_,rfl⟩;have HWB:=Lib.hid hWB;have zB:WB.heap.size=w3.heap.size+1:=by rw[<- hWB];simp
    have uB:Up w3 WB:=by rw[<- hWB];exact(Up.refl w3).alloc _
    have BN:Hid (Boxed WB w3.heap.size 24 (.pointer P3)):=Lib.hid (by rw[<- hWB];exact Boxed.new w3 _ _);have GB:Hid (Gs (On b) w WB):=Lib.hid (((Gs.of U0.out).trans HG3.out).trans (Gs.of uB));have CB:Hid (∀(p:Addr) {u:Value},w3.cell? p=some u->p.block<w3.heap.size->p.block≠b->WB.cell? p=some u):=Lib.hid fun p u hc _ _=>uB.cell hc
    have UB:=Lib.hid uB;have HZB:=Lib.hid zB;have zB1:WB.heap.size<=w3.heap.size+1:=by omega
    have zB2:w3.heap.size+1<=WB.heap.size:=by omega
    clear hWB uB zB;have PB:Hid (Psr WB b v (rI X) (rE X)):=Lib.hid (hr.2.1.up UB.out);have TB:Hid (∀t j,X = .inl (t,j)->InT WB (Sc w w3.heap.size WB) (.pointer P3) t):=Lib.hid fun t j hXt=>InT.keep (InT.cells (hr.2.2 t j hXt)) (fun q hq=>⟨⟨by have:=hq.1.1;omega,by have:=hq.1.2;omega⟩,by have:=hq.1.2;omega,hq.2.keep (UB.out.block q hq.1.2)⟩) fun q hq=>UB.out.block q hq.1.2
    have HFIN:Hid (∀(A':Option Addr) (wF:World),Gs (On b) w wF->Psr wF b v (rI X) (rE X)->(∀t j,X = .inl (t,j)->NewT w wF (.pointer A') (wrapK hs t))->AtP l (qV B.nck B.long l m) b v i e w (.returned (.tuple #[.pointer A',.bool true])) wF):=Lib.hid fun A' wF g p hn=>by
     refine⟨A',true,rfl,g,.inr ⟨he,hany,?_,fun t j ht=>⟨rfl,?_⟩⟩⟩
     ·have hst:=zWd hs X
      rw[<- hA] at hst;have e1:=congrArg Prod.fst hst;have e2:=congrArg Prod.snd hst;simp only[stO] at e1 e2;rw[e1,e2];exact p
     ·rw[hA] at ht
      obtain⟨t',j',h5,h6⟩:=qD ht;injection h6 with h6;injection h6 with h6 h7;rw[<- h6];exact hn t' j' h5
    clear h3 hX hA hr hn0
    try clear hn0'
    have hN:=HN.out;subst hN;have hwb:=BN.out.lt;have hgz:=GB.out.size;refine⟨trivial,(mD _ _ trivial rfl _ _ _ _).mono ?_⟩;rintro e5 w5 ⟨rfl,rfl⟩;rw[HWB.out]
    gi_wp2
    obtain⟨WL,hWL⟩:∃WL,WB.alloc (.cells #[.slice A hs.length cp] 119)=WL:=⟨_,rfl⟩;have zL:WL.heap.size=WB.heap.size+1:=by rw[<- hWL];simp
    have uL:Up WB WL:=by rw[<- hWL];exact(Up.refl WB).alloc _
    have bL:WL.heap[WB.heap.size]? = some (.cells #[.slice A hs.length cp] 119 (0,0)):=by rw[<- hWL];exact heap_alloc_new WB _
    have cL:WL.cell? ⟨WB.heap.size,0,none⟩=some (.slice A hs.length cp):=cell_of_row WL WB.heap.size 0 _ _ _ bL;have hIL:0<hs.length->∃g off,A=some ⟨g,off,none⟩/\g≠w3.heap.size/\g<WL.heap.size/\∀j,j<hs.length->WL.cell? ⟨g,off+j,none⟩=some (.int .i64 ((hs[j]?).getD 0)):=fun h0=>by
     obtain⟨g,h1,h2,h3,h4⟩:=HAA.out h0;exact⟨g,0,h1,by omega,by omega,fun j hj=>uL.cell (CB.out _ (HU3.out j hj g h1 h3 h2 (h4 j hj)) (by simp only;omega) (by simp only;omega))⟩
    have hni:NJ w WL w3.heap.size X hs [] WL:=⟨P3,uL.row BN.out,Gs.refl _ _,fun _ _ t j hX=>by
     show InT WL _ _ (wrapK (hs.drop (hs.length-0)) t)
     rw[Nat.sub_zero,List.drop_length];exact InT.keep (TB.out t j hX) (fun q hq=>⟨⟨hq.1.1,by have:=hq.1.2;omega⟩,hq.2.1,hq.2.2.keep (uL.block q hq.1.2)⟩) fun q hq=>uL.block q hq.1.2⟩
    have HNI:=Lib.hid hni;have HIL:=Lib.hid hIL;have UL:=Lib.hid uL;rw[hWL];clear hWL uL bL hni hIL;refine wpIn_rangeFunc_ownF rfl (by decide) (gf:=267) (lb:=#[.pointer (some ⟨WB.heap.size,0,none⟩)]) rfl trivial (enters_of Tryz.func267 (by kernel_rfl) rfl)
     (xH Fence.wide 2 w3.heap.size trivial rfl (by decide) WB.heap.size WL.heap.size cp A (by omega) hs (by omega) WL (by omega) (Nat.le_refl _) cL HIL.out)
     (fun h k=>Kq.trans h k) (Kq.put (Nat.le_refl _)) (Below.refl _ _) (fun _=>rfl)
     (NJ w WL w3.heap.size X hs) (fun _ _ _=>False) (wG (by omega)) (fun _ _ _ _ _ hs _ _=>hs) HNI.out
     (fun x=>{tmps:=#[.agg #[.pointer (some ⟨b,0,none⟩)],.pointer (some ⟨w.heap.size,0,none⟩),.pointer none,.bool false,.slice A hs.length cp,.int .i64 0,.bool false,.pointer (some ⟨w3.heap.size,0,none⟩),.bool true,undef,.int .i64 x.2,.tuple #[.int .i64 kv0,.bool iv0],.agg #[.pointer (some ⟨b,0,none⟩)],.tuple #[.int .i64 kv0,.bool iv0],.int .i64 kv0,.bool iv0,.bool false,u17,u18,u19,u20,u21,u22,u23,u24,u25,.tuple #[.pointer P3,.bool true],.agg #[.pointer (some ⟨b,0,none⟩)],.tuple #[.pointer P3,.bool true],.pointer P3,.bool true,.bool true,.bool false,.bool false,undef,undef,undef,.bool false,undef,undef,undef,.slice A hs.length cp,.func (.func 267) #[] #[.pointer (some ⟨WB.heap.size,0,none⟩)],.int .i64 (x.1:Int),.int .i64 x.2,undef,undef,undef,undef,undef,undef],defers:=[]}) ?assign ?body ?done ?stop
    case assign=>
     intro l x W K hK
     gi_wp2
     exact hK
    case body=>
     rintro l2 pre x W ⟨A2,bX,gX,hX⟩ _;have cX:=bX.cell;have hbl:=bX.lt;have hzW:=gX.size;have HX:=Lib.hid hX;have GX:=Lib.hid gX;have BX:=Lib.hid bX;clear hX gX bX
     gi_wp2_with (refine⟨trivial,?_⟩;gi_at_call 217;refine(callsIn_wide.2 (kL _ _ _ _ _)).mono ?_;rintro e9 w9 ⟨rfl,h9⟩;have b9:Boxed w9 w3.heap.size 24 (.pointer A2):=(by rw[h9];exact(BX.out.alloc _).alloc _);have c9:=b9.cell;have f9:=b9.frozen;have hb9:=b9.lt;have H9:=Lib.hid h9;clear h9 b9)
     have h9:=H9.out;have e9:w9.setCell ⟨w3.heap.size,0,none⟩ (.pointer (some ⟨W.heap.size+1,0,none⟩))=((W.setCell ⟨w3.heap.size,0,none⟩ (.pointer (some ⟨W.heap.size+1,0,none⟩))).alloc (.cells #[.pointer A2] 24)).alloc (.cells #[.int .i64 x.2,.int .i64 0,.string nob,.string ⟨#[]⟩,.slice (some ⟨W.heap.size,0,none⟩) 1 1] 44):=by
      rw[h9,qZ _ _ _ _ (by rw[World.size_alloc];simp only;omega),qZ _ _ _ _ (by simp only;omega)]
      rfl
     rw[e9];refine⟨((KeepsOthers.setCell _ _ _).trans (KeepsOthers.alloc _ _)).trans (KeepsOthers.alloc _ _),⟨by simp[World.setCell];omega,fun q hq hne=>?_⟩,sM (by omega) BX.out GX.out HX.out⟩;have hs9:(W.setCell ⟨w3.heap.size,0,none⟩ (.pointer (some ⟨W.heap.size+1,0,none⟩))).heap.size=W.heap.size:=by simp[World.setCell]
     exact((((Up.refl _).alloc _).alloc _).block q (by rw[hs9];omega)).trans (Below.heap_setCell _ _ _ _ hne)
    case done=>
     rintro D ys W hD rfl hI hK;have hI2:=(wG (by omega)).putObj (.deferred none) hI hD hK rfl;have HI2:=Lib.hid hI2;have HK:=Lib.hid hK;obtain⟨A2,bX,gX,hX⟩:=hI;have cX:=bX.cell;clear hX gX bX hI2
     gi_wp2
     refine⟨by simp,.inl ⟨_,_,rfl,run_takeDeferred hK,?_⟩⟩;refine⟨_,results_tmp2 rfl _ _ _,?_⟩;obtain⟨A3,b3,g3,h3⟩:=HI2.out;have hne:w3.heap.size≠D:=by omega
     have e2:A3=A2:=by
      have e:=b3.cell;rw[World.cell?_of_block (a:=⟨w3.heap.size,0,none⟩) (World.putObj_heap_other hne),cX] at e;injection e with e;injection e with e;exact e.symm
     subst e2;refine HFIN.out _ _ (xU (GB.out.trans (Gs.of UL.out)) g3 (by omega)) (g3.row (UL.out.row PB.out) (by unfold On;omega)) fun t j hX=>?_
     have h4:=h3 (by rw[yE]) (by rw[yE];exact Nat.le_refl _) t j hX;rw[yE,Nat.sub_self,List.drop_zero] at h4;exact InT.keep h4 (fun q hq=>hq.1) fun _ _=>rfl
    case stop=>
     rintro D c pre W _ _ h _;exact h.elim
   ·
    have h3:=H3.out;have hps:¬(e=0/\(hdE B.long l (i+n)).who=true)/\Psr w3 b v (i+n) e:=by
     rcases h3 with ⟨h1,_,_,h2⟩ | ⟨_,_,hd,_⟩
     ·exact⟨h1,h2⟩
     ·cases hd
    have hn00:n=0:=by omega
    have hno:¬(e=0/\(hdE B.long l i).any=true):=by
     rintro⟨he,ha⟩;have h1:=hps.1;have hq:=HQ.out;rw[HN.out] at hq;rw[hn00,Nat.add_zero] at h1 hq;subst he;have h2:(hdE B.long l i).who=false:=by
      cases hw:(hdE B.long l i).who with
      | false=>rfl
      | true=>exact absurd ⟨rfl,hw⟩ h1
     rw[zWe hq h2] at ha
     cases ha
    obtain⟨X,hX⟩:∃X:Rs Tr,X = .inr (i,e):=⟨_,rfl⟩;obtain⟨WB,hWB⟩:∃WB,w3.alloc (.cells #[.pointer P3] 24)=WB:=⟨_,rfl⟩;have HWB:=Lib.hid hWB;have zB:WB.heap.size=w3.heap.size+1:=by rw[<- hWB];simp
    have uB:Up w3 WB:=by rw[<- hWB];exact(Up.refl w3).alloc _
    have BN:Hid (Boxed WB w3.heap.size 24 (.pointer P3)):=Lib.hid (by rw[<- hWB];exact Boxed.new w3 _ _);have GB:Hid (Gs (On b) w WB):=Lib.hid (((Gs.of U0.out).trans HG3.out).trans (Gs.of uB));have CB:Hid (∀(p:Addr) {u:Value},w3.cell? p=some u->p.block<w3.heap.size->p.block≠b->WB.cell? p=some u):=Lib.hid fun p u hc _ _=>uB.cell hc
    have UB:=Lib.hid uB;have HZB:=Lib.hid zB;have zB1:WB.heap.size<=w3.heap.size+1:=by omega
    have zB2:w3.heap.size+1<=WB.heap.size:=by omega
    clear hWB uB zB;have PB:Hid (Psr WB b v (rI X) (rE X)):=Lib.hid (by rw[hX];have h:=hps.2.up UB.out;rw[hn00,Nat.add_zero] at h;exact h);have TB:Hid (∀t j,X = .inl (t,j)->InT WB (Sc w w3.heap.size WB) (.pointer P3) t):=Lib.hid fun t j hXt=>by rw[hX] at hXt;cases hXt
    have HFIN:Hid (∀(A':Option Addr) (wF:World),Gs (On b) w wF->Psr wF b v (rI X) (rE X)->(∀t j,X = .inl (t,j)->NewT w wF (.pointer A') (wrapK hs t))->AtP l (qV B.nck B.long l m) b v i e w (.returned (.tuple #[.pointer A',.bool false])) wF):=Lib.hid fun A' wF g p hn=>by
     rw[hX] at p;exact⟨A',false,rfl,g,.inl ⟨hno,rfl,p⟩⟩
    clear h3 hX hps hno hn0 hn00;have hN:=HN.out;subst hN;have hwb:=BN.out.lt;have hgz:=GB.out.size;refine⟨trivial,(mD _ _ trivial rfl _ _ _ _).mono ?_⟩;rintro e5 w5 ⟨rfl,rfl⟩;rw[HWB.out]
    gi_wp2
    obtain⟨WL,hWL⟩:∃WL,WB.alloc (.cells #[.slice A hs.length cp] 119)=WL:=⟨_,rfl⟩;have zL:WL.heap.size=WB.heap.size+1:=by rw[<- hWL];simp
    have uL:Up WB WL:=by rw[<- hWL];exact(Up.refl WB).alloc _
    have bL:WL.heap[WB.heap.size]? = some (.cells #[.slice A hs.length cp] 119 (0,0)):=by rw[<- hWL];exact heap_alloc_new WB _
    have cL:WL.cell? ⟨WB.heap.size,0,none⟩=some (.slice A hs.length cp):=cell_of_row WL WB.heap.size 0 _ _ _ bL;have hIL:0<hs.length->∃g off,A=some ⟨g,off,none⟩/\g≠w3.heap.size/\g<WL.heap.size/\∀j,j<hs.length->WL.cell? ⟨g,off+j,none⟩=some (.int .i64 ((hs[j]?).getD 0)):=fun h0=>by
     obtain⟨g,h1,h2,h3,h4⟩:=HAA.out h0;exact⟨g,0,h1,by omega,by omega,fun j hj=>uL.cell (CB.out _ (HU3.out j hj g h1 h3 h2 (h4 j hj)) (by simp only;omega) (by simp only;omega))⟩
    have hni:NJ w WL w3.heap.size X hs [] WL:=⟨P3,uL.row BN.out,Gs.refl _ _,fun _ _ t j hX=>by
     show InT WL _ _ (wrapK (hs.drop (hs.length-0)) t)
     rw[Nat.sub_zero,List.drop_length];exact InT.keep (TB.out t j hX) (fun q hq=>⟨⟨hq.1.1,by have:=hq.1.2;omega⟩,hq.2.1,hq.2.2.keep (uL.block q hq.1.2)⟩) fun q hq=>uL.block q hq.1.2⟩
    have HNI:=Lib.hid hni;have HIL:=Lib.hid hIL;have UL:=Lib.hid uL;rw[hWL];clear hWL uL bL hni hIL;refine wpIn_rangeFunc_ownF rfl (by decide) (gf:=267) (lb:=#[.pointer (some ⟨WB.heap.size,0,none⟩)]) rfl trivial (enters_of Tryz.func267 (by kernel_rfl) rfl)
     (xH Fence.wide 2 w3.heap.size trivial rfl (by decide) WB.heap.size WL.heap.size cp A (by omega) hs (by omega) WL (by omega) (Nat.le_refl _) cL HIL.out)
     (fun h k=>Kq.trans h k) (Kq.put (Nat.le_refl _)) (Below.refl _ _) (fun _=>rfl)
     (NJ w WL w3.heap.size X hs) (fun _ _ _=>False) (wG (by omega)) (fun _ _ _ _ _ hs _ _=>hs) HNI.out
     (fun x=>{tmps:=#[.agg #[.pointer (some ⟨b,0,none⟩)],.pointer (some ⟨w.heap.size,0,none⟩),.pointer none,.bool false,.slice A hs.length cp,.int .i64 0,.bool false,.pointer (some ⟨w3.heap.size,0,none⟩),.bool false,undef,.int .i64 x.2,.tuple #[.int .i64 kv0,.bool iv0],.agg #[.pointer (some ⟨b,0,none⟩)],.tuple #[.int .i64 kv0,.bool iv0],.int .i64 kv0,.bool iv0,.bool false,u17,u18,u19,u20,u21,u22,u23,u24,u25,.tuple #[.pointer P3,.bool false],.agg #[.pointer (some ⟨b,0,none⟩)],.tuple #[.pointer P3,.bool false],.pointer P3,.bool false,.bool false,.bool true,.bool true,.slice A hs.length cp,.int .i64 (hs.length:Int),.bool false,.bool false,undef,undef,undef,.slice A hs.length cp,.func (.func 267) #[] #[.pointer (some ⟨WB.heap.size,0,none⟩)],.int .i64 (x.1:Int),.int .i64 x.2,undef,undef,undef,undef,undef,undef],defers:=[]}) ?assign ?body ?done ?stop
    case assign=>
     intro l x W K hK
     gi_wp2
     exact hK
    case body=>
     rintro l2 pre x W ⟨A2,bX,gX,hX⟩ _;have cX:=bX.cell;have hbl:=bX.lt;have hzW:=gX.size;have HX:=Lib.hid hX;have GX:=Lib.hid gX;have BX:=Lib.hid bX;clear hX gX bX
     gi_wp2_with (refine⟨trivial,?_⟩;gi_at_call 217;refine(callsIn_wide.2 (kL _ _ _ _ _)).mono ?_;rintro e9 w9 ⟨rfl,h9⟩;have b9:Boxed w9 w3.heap.size 24 (.pointer A2):=(by rw[h9];exact(BX.out.alloc _).alloc _);have c9:=b9.cell;have f9:=b9.frozen;have hb9:=b9.lt;have H9:=Lib.hid h9;clear h9 b9)
     have h9:=H9.out;have e9:w9.setCell ⟨w3.heap.size,0,none⟩ (.pointer (some ⟨W.heap.size+1,0,none⟩))=((W.setCell ⟨w3.heap.size,0,none⟩ (.pointer (some ⟨W.heap.size+1,0,none⟩))).alloc (.cells #[.pointer A2] 24)).alloc (.cells #[.int .i64 x.2,.int .i64 0,.string nob,.string ⟨#[]⟩,.slice (some ⟨W.heap.size,0,none⟩) 1 1] 44):=by
      rw[h9,qZ _ _ _ _ (by rw[World.size_alloc];simp only;omega),qZ _ _ _ _ (by simp only;omega)]
      rfl
     rw[e9];refine⟨((KeepsOthers.setCell _ _ _).trans (KeepsOthers.alloc _ _)).trans (KeepsOthers.alloc _ _),⟨by simp[World.setCell];omega,fun q hq hne=>?_⟩,sM (by omega) BX.out GX.out HX.out⟩;have hs9:(W.setCell ⟨w3.heap.size,0,none⟩ (.pointer (some ⟨W.heap.size+1,0,none⟩))).heap.size=W.heap.size:=by simp[World.setCell]
     exact((((Up.refl _).alloc _).alloc _).block q (by rw[hs9];omega)).trans (Below.heap_setCell _ _ _ _ hne)
    case done=>
     rintro D ys W hD rfl hI hK;have hI2:=(wG (by omega)).putObj (.deferred none) hI hD hK rfl;have HI2:=Lib.hid hI2;have HK:=Lib.hid hK;obtain⟨A2,bX,gX,hX⟩:=hI;have cX:=bX.cell;clear hX gX bX hI2
     gi_wp2
     refine⟨by simp,.inl ⟨_,_,rfl,run_takeDeferred hK,?_⟩⟩;refine⟨_,results_tmp2 rfl _ _ _,?_⟩;obtain⟨A3,b3,g3,h3⟩:=HI2.out;have hne:w3.heap.size≠D:=by omega
     have e2:A3=A2:=by
      have e:=b3.cell;rw[World.cell?_of_block (a:=⟨w3.heap.size,0,none⟩) (World.putObj_heap_other hne),cX] at e;injection e with e;injection e with e;exact e.symm
     subst e2;refine HFIN.out _ _ (xU (GB.out.trans (Gs.of UL.out)) g3 (by omega)) (g3.row (UL.out.row PB.out) (by unfold On;omega)) fun t j hX=>?_
     have h4:=h3 (by rw[yE]) (by rw[yE];exact Nat.le_refl _) t j hX;rw[yE,Nat.sub_self,List.drop_zero] at h4;exact InT.keep h4 (fun q hq=>hq.1) fun _ _=>rfl
    case stop=>
     rintro D c pre W _ _ h _;exact h.elim
   ·
    have h3:=H3.out;have he:e=0:=by
     rcases h3 with ⟨_,hd,_⟩ | ⟨h0,_⟩
     ·cases hd
     ·exact h0
    obtain⟨X,hX⟩:∃X,zO B.long l (qV B.nck B.long l (m-n-1)) (exprF B.nck B.long l (m-n-1)) (i+n)=X:=⟨_,rfl⟩;rw[hX] at h3;have hr:(hdE B.long l (i+n)).who=true/\Psr w3 b v (rI X) (rE X)/\∀t j,X = .inl (t,j)->NewT wr w3 (.pointer P3) t:=by
     rcases h3 with ⟨_,hd,_⟩ | ⟨_,h1,_,h2,h4⟩
     ·cases hd
     ·exact⟨h1,h2,h4⟩
    have hA:qV B.nck B.long l m i=selW hs X:=by
     have h1:=HSEL.out.eq he (m-n);rw[HN.out] at h1;have hmn:m-n+n=m:=by have:=HM.out he;omega
     have hmn2:m-n=(m-n-1)+1:=by have:=HM.out he;omega
     rw[hmn] at h1;rw[h1,hmn2,kE,hX]
    have hany:(hdE B.long l i).any=true:=by
     rcases Nat.eq_zero_or_pos n with h0 | h0
     ·have h1:=hr.1
      rw[h0,Nat.add_zero] at h1
      cases hd:hdE B.long l i<;>rw[hd] at h1<;>first | rfl | cases h1
     ·exact HSEL.out.any (by rw[HN.out];exact h0)
    obtain⟨WB,hWB⟩:∃WB,w3.alloc (.cells #[.pointer P3] 24)=WB:=⟨_,rfl⟩;have HWB:=Lib.hid hWB;have zB:WB.heap.size=w3.heap.size+1:=by rw[<- hWB];simp
    have uB:Up w3 WB:=by rw[<- hWB];exact(Up.refl w3).alloc _
    have BN:Hid (Boxed WB w3.heap.size 24 (.pointer P3)):=Lib.hid (by rw[<- hWB];exact Boxed.new w3 _ _);have GB:Hid (Gs (On b) w WB):=Lib.hid (((Gs.of U0.out).trans HG3.out).trans (Gs.of uB));have CB:Hid (∀(p:Addr) {u:Value},w3.cell? p=some u->p.block<w3.heap.size->p.block≠b->WB.cell? p=some u):=Lib.hid fun p u hc _ _=>uB.cell hc
    have UB:=Lib.hid uB;have HZB:=Lib.hid zB;have zB1:WB.heap.size<=w3.heap.size+1:=by omega
    have zB2:w3.heap.size+1<=WB.heap.size:=by omega
    clear hWB uB zB;have PB:Hid (Psr WB b v (rI X) (rE X)):=Lib.hid (hr.2.1.up UB.out);have TB:Hid (∀t j,X = .inl (t,j)->InT WB (Sc w w3.heap.size WB) (.pointer P3) t):=Lib.hid fun t j hXt=>InT.keep (InT.cells (hr.2.2 t j hXt)) (fun q hq=>⟨⟨by have:=hq.1.1;omega,by have:=hq.1.2;omega⟩,by have:=hq.1.2;omega,hq.2.keep (UB.out.block q hq.1.2)⟩) fun q hq=>UB.out.block q hq.1.2
    have HFIN:Hid (∀(A':Option Addr) (wF:World),Gs (On b) w wF->Psr wF b v (rI X) (rE X)->(∀t j,X = .inl (t,j)->NewT w wF (.pointer A') (wrapK hs t))->AtP l (qV B.nck B.long l m) b v i e w (.returned (.tuple #[.pointer A',.bool true])) wF):=Lib.hid fun A' wF g p hn=>by
     refine⟨A',true,rfl,g,.inr ⟨he,hany,?_,fun t j ht=>⟨rfl,?_⟩⟩⟩
     ·have hst:=zWd hs X
      rw[<- hA] at hst;have e1:=congrArg Prod.fst hst;have e2:=congrArg Prod.snd hst;simp only[stO] at e1 e2;rw[e1,e2];exact p
     ·rw[hA] at ht
      obtain⟨t',j',h5,h6⟩:=qD ht;injection h6 with h6;injection h6 with h6 h7;rw[<- h6];exact hn t' j' h5
    clear h3 hX hA hr hn0
    try clear hn0'
    have hN:=HN.out;subst hN;have hwb:=BN.out.lt;have hgz:=GB.out.size;refine⟨trivial,(mD _ _ trivial rfl _ _ _ _).mono ?_⟩;rintro e5 w5 ⟨rfl,rfl⟩;rw[HWB.out]
    gi_wp2
    obtain⟨WL,hWL⟩:∃WL,WB.alloc (.cells #[.slice A hs.length cp] 119)=WL:=⟨_,rfl⟩;have zL:WL.heap.size=WB.heap.size+1:=by rw[<- hWL];simp
    have uL:Up WB WL:=by rw[<- hWL];exact(Up.refl WB).alloc _
    have bL:WL.heap[WB.heap.size]? = some (.cells #[.slice A hs.length cp] 119 (0,0)):=by rw[<- hWL];exact heap_alloc_new WB _
    have cL:WL.cell? ⟨WB.heap.size,0,none⟩=some (.slice A hs.length cp):=cell_of_row WL WB.heap.size 0 _ _ _ bL;have hIL:0<hs.length->∃g off,A=some ⟨g,off,none⟩/\g≠w3.heap.size/\g<WL.heap.size/\∀j,j<hs.length->WL.cell? ⟨g,off+j,none⟩=some (.int .i64 ((hs[j]?).getD 0)):=fun h0=>by
     obtain⟨g,h1,h2,h3,h4⟩:=HAA.out h0;exact⟨g,0,h1,by omega,by omega,fun j hj=>uL.cell (CB.out _ (HU3.out j hj g h1 h3 h2 (h4 j hj)) (by simp only;omega) (by simp only;omega))⟩
    have hni:NJ w WL w3.heap.size X hs [] WL:=⟨P3,uL.row BN.out,Gs.refl _ _,fun _ _ t j hX=>by
     show InT WL _ _ (wrapK (hs.drop (hs.length-0)) t)
     rw[Nat.sub_zero,List.drop_length];exact InT.keep (TB.out t j hX) (fun q hq=>⟨⟨hq.1.1,by have:=hq.1.2;omega⟩,hq.2.1,hq.2.2.keep (uL.block q hq.1.2)⟩) fun q hq=>uL.block q hq.1.2⟩
    have HNI:=Lib.hid hni;have HIL:=Lib.hid hIL;have UL:=Lib.hid uL;rw[hWL];clear hWL uL bL hni hIL;refine wpIn_rangeFunc_ownF rfl (by decide) (gf:=267) (lb:=#[.pointer (some ⟨WB.heap.size,0,none⟩)]) rfl trivial (enters_of Tryz.func267 (by kernel_rfl) rfl)
     (xH Fence.wide 2 w3.heap.size trivial rfl (by decide) WB.heap.size WL.heap.size cp A (by omega) hs (by omega) WL (by omega) (Nat.le_refl _) cL HIL.out)
     (fun h k=>Kq.trans h k) (Kq.put (Nat.le_refl _)) (Below.refl _ _) (fun _=>rfl)
     (NJ w WL w3.heap.size X hs) (fun _ _ _=>False) (wG (by omega)) (fun _ _ _ _ _ hs _ _=>hs) HNI.out
     (fun x=>{tmps:=#[.agg #[.pointer (some ⟨b,0,none⟩)],.pointer (some ⟨w.heap.size,0,none⟩),.pointer none,.bool false,.slice A hs.length cp,.int .i64 0,.bool false,.pointer (some ⟨w3.heap.size,0,none⟩),.bool true,undef,.int .i64 x.2,.tuple #[.int .i64 kv0,.bool iv0],.agg #[.pointer (some ⟨b,0,none⟩)],.tuple #[.int .i64 kv0,.bool iv0],.int .i64 kv0,.bool iv0,.bool false,u17,u18,u19,u20,u21,u22,u23,u24,u25,.tuple #[.pointer P3,.bool true],.agg #[.pointer (some ⟨b,0,none⟩)],.tuple #[.pointer P3,.bool true],.pointer P3,.bool true,.bool true,.bool false,.bool false,undef,undef,undef,.bool false,undef,undef,undef,.slice A hs.length cp,.func (.func 267) #[] #[.pointer (some ⟨WB.heap.size,0,none⟩)],.int .i64 (x.1:Int),.int .i64 x.2,undef,undef,undef,undef,undef,undef],defers:=[]}) ?assign ?body ?done ?stop
    case assign=>
     intro l x W K hK
     gi_wp2
     exact hK
    case body=>
     rintro l2 pre x W ⟨A2,bX,gX,hX⟩ _;have cX:=bX.cell;have hbl:=bX.lt;have hzW:=gX.size;have HX:=Lib.hid hX;have GX:=Lib.hid gX;have BX:=Lib.hid bX;clear hX gX bX
     gi_wp2_with (refine⟨trivial,?_⟩;gi_at_call 217;refine(callsIn_wide.2 (kL _ _ _ _ _)).mono ?_;rintro e9 w9 ⟨rfl,h9⟩;have b9:Boxed w9 w3.heap.size 24 (.pointer A2):=(by rw[h9];exact(BX.out.alloc _).alloc _);have c9:=b9.cell;have f9:=b9.frozen;have hb9:=b9.lt;have H9:=Lib.hid h9;clear h9 b9)
     have h9:=H9.out;have e9:w9.setCell ⟨w3.heap.size,0,none⟩ (.pointer (some ⟨W.heap.size+1,0,none⟩))=((W.setCell ⟨w3.heap.size,0,none⟩ (.pointer (some ⟨W.heap.size+1,0,none⟩))).alloc (.cells #[.pointer A2] 24)).alloc (.cells #[.int .i64 x.2,.int .i64 0,.string nob,.string ⟨#[]⟩,.slice (some ⟨W.heap.size,0,none⟩) 1 1] 44):=by
      rw[h9,qZ _ _ _ _ (by rw[World.size_alloc];simp only;omega),qZ _ _ _ _ (by simp only;omega)]
      rfl
     rw[e9];refine⟨((KeepsOthers.setCell _ _ _).trans (KeepsOthers.alloc _ _)).trans (KeepsOthers.alloc _ _),⟨by simp[World.setCell];omega,fun q hq hne=>?_⟩,sM (by omega) BX.out GX.out HX.out⟩;have hs9:(W.setCell ⟨w3.heap.size,0,none⟩ (.pointer (some ⟨W.heap.size+1,0,none⟩))).heap.size=W.heap.size:=by simp[World.setCell]
     exact((((Up.refl _).alloc _).alloc _).block q (by rw[hs9];omega)).trans (Below.heap_setCell _ _ _ _ hne)
    case done=>
     rintro D ys W hD rfl hI hK;have hI2:=(wG (by omega)).putObj (.deferred none) hI hD hK rfl;have HI2:=Lib.hid hI2;have HK:=Lib.hid hK;obtain⟨A2,bX,gX,hX⟩:=hI;have cX:=bX.cell;clear hX gX bX hI2
     gi_wp2
     refine⟨by simp,.inl ⟨_,_,rfl,run_takeDeferred hK,?_⟩⟩;refine⟨_,results_tmp2 rfl _ _ _,?_⟩;obtain⟨A3,b3,g3,h3⟩:=HI2.out;have hne:w3.heap.size≠D:=by omega
     have e2:A3=A2:=by
      have e:=b3.cell;rw[World.cell?_of_block (a:=⟨w3.heap.size,0,none⟩) (World.putObj_heap_other hne),cX] at e;injection e with e;injection e with e;exact e.symm
     subst e2;refine HFIN.out _ _ (xU (GB.out.trans (Gs.of UL.out)) g3 (by omega)) (g3.row (UL.out.row PB.out) (by unfold On;omega)) fun t j hX=>?_
     have h4:=h3 (by rw[yE]) (by rw[yE];exact Nat.le_refl _) t j hX;rw[yE,Nat.sub_self,List.drop_zero] at h4;exact InT.keep h4 (fun q hq=>hq.1) fun _ _=>rfl
    case stop=>
     rintro D c pre W _ _ h _;exact h.elim
end
end Go.Proofs.YtgeghilbikljcaaGreatDoor
