/-
  The document's arms.
-/
import Derived.Test.YtgeghilbikljcaaGreatDoorGs30
import Derived.Test.YtgeghilbikljcaaGreatDoorGs35
import Derived.Laws.IdiomStrings
set_option maxHeartbeats 40000000
set_option maxRecDepth 100000
namespace Go.Proofs.YtgeghilbikljcaaGreatDoor
open Go.RowKit
theorem zF8 {W w:World} {vt:Value} {t:Tr} {c x:ByteArray} (hW:W.heap.size<=w.heap.size) (ht:NewT W w vt t) :
  NewT W ((w.alloc (.cells #[vt] 24)).alloc (.cells #[.int .i64 34,.int .i64 0,.string c,.string x,.slice (some ⟨w.heap.size,0,none⟩) 1 1] 44)) (.pointer (some ⟨w.heap.size+1,0,none⟩)) (⟨34,0,c,x⟩,fr1 t):=by
 have e1:(w.alloc (.cells #[vt] 24)).heap.size=w.heap.size+1:=by simp
 rw[<- e1];obtain⟨W1,hW1⟩:∃W1,w.alloc (.cells #[vt] 24)=W1:=⟨_,rfl⟩;have s1:W1.heap[w.heap.size]? = some (.cells #[vt] 24 (0,0)):=by rw[<- hW1];exact heap_alloc_new w _
 have u1:Up w W1:=by rw[<- hW1];exact(Up.refl w).alloc _
 have z1:=u1.size;rw[hW1];obtain⟨W2,hW2⟩:∃W2,W1.alloc (.cells #[.int .i64 34,.int .i64 0,.string c,.string x,.slice (some ⟨w.heap.size,0,none⟩) 1 1] 44)=W2:=⟨_,rfl⟩;have s2:W2.heap[W1.heap.size]? = some (.cells #[.int .i64 34,.int .i64 0,.string c,.string x,.slice (some ⟨w.heap.size,0,none⟩) 1 1] 44 (0,0)):=by rw[<- hW2];exact heap_alloc_new W1 _
 have u2:Up W1 W2:=by rw[<- hW2];exact(Up.refl W1).alloc _
 have s3:W2.heap[w.heap.size]? = some (.cells #[vt] 24 (0,0)):=u2.row s1;rw[hW2];exact zR (x:=⟨34,0,c,x⟩) (f:=fr1 t) s2 rfl (Nat.le_refl _) ⟨by omega,qC s2⟩ ⟨hW,qC s3⟩ ⟨⟨_,cell_of_row W2 w.heap.size 0 _ _ _ s3,ht.up (u1.trans u2)⟩,trivial⟩
def armW (w4:World) (vt:Value) (c x:ByteArray):World:=((w4.alloc (.cells #[vt] 24)).alloc (.cells #[.int .i64 34,.int .i64 0,.string c,.string x,.slice (some ⟨w4.heap.size,0,none⟩) 1 1] 44)).alloc (.cells #[.pointer (some ⟨w4.heap.size+1,0,none⟩)] 24)
theorem zTu (w4:World) (vt:Value) (c x:ByteArray):Up w4 (armW w4 vt c x):=(((Up.refl w4).alloc _).alloc _).alloc _
theorem zQd (w4:World) (vt:Value) (c x:ByteArray):(armW w4 vt c x).heap.size=w4.heap.size+3:=by unfold armW;simp
theorem zKl {wr w4:World} {vt:Value} {c x:ByteArray} {t:Tr} (h:NewT wr w4 vt t) (hw:wr.heap.size<=w4.heap.size):NewT wr (armW w4 vt c x) (.pointer (some ⟨w4.heap.size+1,0,none⟩)) (⟨34,0,c,x⟩,fr1 t):=
 (zF8 hw h).up ((Up.refl _).alloc _)
theorem zQe (w4:World) (vt:Value) (c x:ByteArray):∀j u,[Value.pointer (some ⟨w4.heap.size+1,0,none⟩)][j]? = some u->(armW w4 vt c x).cell? ((⟨w4.heap.size+2,0,none⟩:Addr).add j)=some u:=by
 intro j u hj;have e:((w4.alloc (.cells #[vt] 24)).alloc (.cells #[.int .i64 34,.int .i64 0,.string c,.string x,.slice (some ⟨w4.heap.size,0,none⟩) 1 1] 44)).heap.size=w4.heap.size+2:=by simp
 have h:=cell_one_new ((w4.alloc (.cells #[vt] 24)).alloc (.cells #[.int .i64 34,.int .i64 0,.string c,.string x,.slice (some ⟨w4.heap.size,0,none⟩) 1 1] 44)) (.pointer (some ⟨w4.heap.size+1,0,none⟩)) 24 j u hj;rw[e] at h;exact h
theorem KidsV.nil (W w:World):KidsV W w (.slice none 0 0) .nil:=⟨[],none,0,rfl,Nat.zero_le _,trivial,fun _=>⟨rfl,rfl⟩,fun h=>absurd h (Nat.lt_irrefl _)⟩
theorem CoSt.kidsV {W wr:World} {vo:Value} {acc:Fr} {ps:List Value} (h:CoSt W wr vo acc ps) (h0:0<acc.len) (hl:acc.len<=1000000):KidsV W wr vo acc:=by
 obtain⟨A,c,hv,hc,hlt,hcell⟩:=h.form;exact⟨ps,A,c,hv,hl,PtF.keep (fun _ hq=>hq.1) (fun _ _=>rfl) h.kids,fun h=>by omega,hcell⟩
theorem zF9 (l:List Te) (n0 i:Nat) (hn0:2*(l.length-i)+1<=n0) (hi:i<=l.length) (hl:l.length<=1000000) (hz:∀t∈l,t.t.s.size<=1000000000) (w:World) (v:Value) (hv:Tke w v l)
  (cE:∀(m j:Nat) (W:World),m<n0->2*(l.length-j)+2<=m->j<=l.length->Up w W->Calls Tryz.prog 161 #[v,.int .i64 (j:Int)] W (qJ (exprF B.nck B.long l m j) W)) :
  Calls Tryz.prog 187 #[v,.int .i64 (i:Int)] w (zKd (armsF B.nck B.long l n0 i .nil) w):=by
 have CE:=Lib.hid cE;have CN:Hid (∀(j:Nat) (ks:List ByteArray) (W:World) (vk:Value),Up w W->TxS W vk ks->Calls Tryz.prog 185 #[v,.int .i64 (j:Int),vk] W (NmR (nameQ B.nck (tks l) j ks) W)):=Lib.hid fun j ks W vk u h=>zKb l j hl hz ks W v vk (hv.up u) h
 have CK:Hid (∀(j:Nat) (x:ByteArray) (W:World),Up w W->Calls Tryz.prog 41 #[v,.int .i64 (j:Int),.string x] W (BoU (key (tks l) j x) W)):=Lib.hid fun j x W u=>by rw[<- yN];exact kZ (tks l) j x W v (hv.up u).tkm
 have CKS:Hid (∀(j:Nat) (ks:List ByteArray) (W:World) (vk:Value),j<=l.length->Up w W->TxS W vk ks->Calls Tryz.prog 69 #[v,.int .i64 (j:Int),vk] W (KeP (keysL (tks l) j ks) W)):=Lib.hid fun j ks W vk hj u h=>fH l j hj hl ks W v vk (hv.up u) h
 obtain⟨R,hR⟩:∃R,armsF B.nck B.long l n0 i .nil=R:=⟨_,rfl⟩;have HR:=Lib.hid hR;have HN0:=Lib.hid hn0;rw[hR];clear cE hR hz hv hn0
 go_enter Tryz.func187,Tryz.ntmps187
 go_wp2_with fail
 go_loopw [1,7,8,9,10,11,12] (fun iv vo _ _ _ _ _ wr=>∃(k f:Nat) (acc:Fr) (ps:List Value),iv = .int .i64 (k:Int)/\i<=k/\k<=l.length/\f<=n0/\2*(l.length-k)+1<=f/\R=armsF B.nck B.long l f k acc/\acc.len<=k/\CoSt w wr vo acc ps/\Up w wr) (fun iv _ _ _ _ _ _ _=>l.length-(intOf iv).toNat)
 case atStart=>exact⟨i,n0,.nil,[],rfl,Nat.le_refl _,hi,Nat.le_refl _,HN0.out,HR.out.symm,Nat.zero_le _,CoSt.start _ _,Up.refl _⟩
 case round=>
  obtain⟨k,f,acc,ps,rfl,hik,hkl,hfn,hfk,hE,hak,hst,hu⟩:=hrel;obtain⟨f,rfl⟩:∃g,f=g+1:=⟨f-1,by omega⟩;rw[lO] at hE;obtain⟨A,c,rfl,hc,hlt,hcell⟩:=hst.form;have HST:=Lib.hid hst;have HE:=Lib.hid hE;have HC:=Lib.hid hcell;have HLT:=Lib.hid hlt;obtain⟨n,hn⟩:∃n,acc.len=n:=⟨_,rfl⟩;rw[hn] at hc hak ⊢;have HN:=Lib.hid hn;have cN1:=CN.out k [];have aN1:=zD (p:=B.nck) (ks:=[]) hkl;obtain⟨R1,hR1⟩:∃R1,nameQ B.nck (tks l) k []=R1:=⟨_,rfl⟩;rw[hR1] at cN1 aN1;have HR1:=Lib.hid hR1;clear hst hE hcell hlt hn hR1;go_wp2_with fail;refine(cN1 _ _ hu (TxS.nil _)).mono ?_;rintro e w1 ⟨s1,j1,e1,rfl,hV,u1⟩;have U1:Up w w1:=Up.trans hu u1
  cases R1 with
  | inr r=>
   obtain⟨p,er⟩:=r;obtain⟨rfl,rfl⟩:=hV;have hne:=aN1.ne rfl;go_wp2_with fail
   go_ret3
   rw[show R = .inr (p,e1) from by rw[HE.out];unfold armsS;rw[HR1.out];rfl];exact⟨_,.nil,_,_,rfl,KidsV.nil _ _,⟨rfl,rfl⟩,U1⟩
  | inl r=>
   obtain⟨c1,q1⟩:=r;obtain⟨rfl,rfl,rfl⟩:=hV;have hq1:k<q1/\q1<=l.length:=aN1;have cN2:=CN.out q1 [kFat];have aN2:=zD (p:=B.nck) (ks:=[kFat]) hq1.2;obtain⟨R2,hR2⟩:∃R2,nameQ B.nck (tks l) q1 [kFat]=R2:=⟨_,rfl⟩;rw[hR2] at cN2 aN2;have HR2:=Lib.hid hR2;clear hR2 cN1 aN1;go_wp2_with fail;refine(cN2 _ _ (U1.alloc _) (TxS.row1 w1 kFat _)).mono ?_;rintro e w2 ⟨s2,j2,e2,rfl,hV,u2⟩;have U2:Up w w2:=(U1.alloc _).trans u2
   cases R2 with
   | inr r=>
    obtain⟨p,er⟩:=r;obtain⟨rfl,rfl⟩:=hV;have hne:=aN2.ne rfl;go_wp2_with fail
    go_ret3
    rw[show R = .inr (p,e2) from by rw[HE.out];unfold armsS;rw[HR1.out];show thn (nameQ B.nck (tks l) q1 [kFat]) _=_;rw[HR2.out];rfl];exact⟨_,.nil,_,_,rfl,KidsV.nil _ _,⟨rfl,rfl⟩,U2⟩
   | inl r=>
    obtain⟨x1,q2⟩:=r;obtain⟨rfl,rfl,rfl⟩:=hV;have hq2:q1<q2/\q2<=l.length:=aN2;have cE3:=fun W u=>CE.out f q2 W (by omega) (by omega) hq2.2 u
    have aE3:=jX (nk:=B.nck) (lg:=B.long) (l:=l) (n:=f) hq2.2;obtain⟨R3,hR3⟩:∃R3,exprF B.nck B.long l f q2=R3:=⟨_,rfl⟩;rw[hR3] at cE3 aE3;have HR3:=Lib.hid hR3;clear hR3 cN2 aN2;go_wp2_with fail;refine(cE3 _ U2).mono ?_;rintro e w3 ⟨vb,j3,e3,rfl,hV,u3⟩;have U3:Up w w3:=U2.trans u3
    cases R3 with
    | inr r=>
     obtain⟨p,er⟩:=r;obtain⟨rfl,rfl,A1,rfl⟩:=hV;have hne:=aE3.ne rfl;go_wp2_with fail
     go_ret3
     rw[show R = .inr (p,e3) from by rw[HE.out];unfold armsS;rw[HR1.out];show thn (nameQ B.nck (tks l) q1 [kFat]) _=_;rw[HR2.out];show thn (exprF B.nck B.long l f q2) _=_;rw[HR3.out];rfl];exact⟨_,.nil,_,_,rfl,KidsV.nil _ _,⟨rfl,rfl⟩,U3⟩
    | inl r=>
     obtain⟨b,q3⟩:=r;obtain⟨h3,rfl,rfl⟩:=hV;obtain⟨o1,p1,rfl⟩:=InT.ptr h3;have hq3:q2<q3/\q3<=l.length:=aE3;have HS:Hid (R=if key (tks l) q3 kBar then armsF B.nck B.long l f (q3+1) (acc.app (fr1 (⟨34,0,s1,s2⟩,fr1 b))) else thn (keysL (tks l) q3 [kEnd]) fun _ m=>.inl (acc.app (fr1 (⟨34,0,s1,s2⟩,fr1 b)),m)):=Lib.hid (by rw[HE.out];unfold armsS;rw[HR1.out];show thn (nameQ B.nck (tks l) q1 [kFat]) _=_;rw[HR2.out];show thn (exprF B.nck B.long l f q2) _=_;rw[HR3.out];rfl);have kb:=CK.out q3 kBar;obtain⟨i0,hi0,hz0,hz1,hz2⟩:=info_parts nI;have hst5:=HST.out.up ((((Up.refl _).trans u1).trans (((Up.refl _).alloc _).trans u2)).trans (u3.trans (zTu w3 (.pointer (some ⟨o1,p1,none⟩)) s1 s2)));have ho5:=hst5.own;rw[HN.out] at ho5;have hc5:=zQe w3 (.pointer (some ⟨o1,p1,none⟩)) s1 s2;have hz5:=zQd w3 (.pointer (some ⟨o1,p1,none⟩)) s1 s2;have HO5:=Lib.hid ho5;have HC5:=Lib.hid hc5;have HW5:Hid (w.heap.size<=(armW w3 (.pointer (some ⟨o1,p1,none⟩)) s1 s2).heap.size):=Lib.hid (by have h1:=U3.size;omega);clear ho5 hc5 hst5 cE3 aE3
     go_wp2_with (at_builtin;refine wpList_append_lies _ rfl _ _ 33 rfl w.heap.size 24 i0 _ 1 8 Tryz.underlying33 hi0 hz0 hz1 hz2 rfl (by omega) (.slice A n c) n ps rfl HO5.out ⟨w3.heap.size+2,0,none⟩ 1 1 [.pointer (some ⟨w3.heap.size+1,0,none⟩)] rfl rfl HC5.out (by intro u hu;rw[List.mem_singleton.1 hu];rfl) (by omega) (by unfold maxLen;omega) (by omega) HW5.out (w3.heap.size+3) hz5 ?_;intro g6 cap6 w6 ho6 hg6 hat6 hlt6)
     have hst2:=HST.out;rw[HN.out] at hst2;have hlt2:∀g,(Value.slice A n c).ownBlock=some g->w.heap.size<=g/\g<wr.heap.size:=World.ownsRow.lt hst2.own;have hu3:Up wr w3:=(Up.trans u1 (((Up.refl _).alloc _).trans u2)).trans u3;have hu5:Up wr (armW w3 (.pointer (some ⟨o1,p1,none⟩)) s1 s2):=hu3.trans (zTu w3 (.pointer (some ⟨o1,p1,none⟩)) s1 s2);have hWr:w.heap.size<=wr.heap.size:=(Up.trans hu (Up.refl _)).size;have hst6:=hst2.more hu5 HN.out hlt2 hWr (zKl (h3.base (Up.trans u1 (((Up.refl _).alloc _).trans u2)).size) hu3.size) rfl ho6 hg6 (by rw[hz5];exact hat6);have U6:Up w w6:=(Up.trans hu hu5).grown hg6 HW5.out fun g hg=>(hlt2 g hg).1
     have hln:(acc.app (fr1 (⟨34,0,s1,s2⟩,fr1 b))).len=n+1:=by rw[Fr.len_app,HN.out];rfl
     have HST6:=Lib.hid hst6;have HLN:=Lib.hid hln;have kb6:=kb w6 U6;clear hst2 hlt2 hst6 hln ho6 hg6 hat6 kb
     cases hB:key (tks l) q3 kBar with
     | false=>
      rw[hB] at kb6;have cE7:=fun W vk u h=>CKS.out q3 [kEnd] W vk hq3.2 u h
      obtain⟨R7,hR7⟩:∃R7,keysL (tks l) q3 [kEnd]=R7:=⟨_,rfl⟩;rw[hR7] at cE7;have HRR:Hid (R=thn R7 fun _ m=>.inl (acc.app (fr1 (⟨34,0,s1,s2⟩,fr1 b)),m)):=Lib.hid (by rw[HS.out,hB,<- hR7];rfl);clear hB hR7;go_wp2_with fail;refine kb6.mono ?_;rintro e w7 ⟨rfl,u7⟩;have U7:=U6.trans u7;go_wp2_with fail;refine(cE7 _ _ (U7.alloc _) (TxS.row1 w7 kEnd _)).mono ?_;rintro e w8 ⟨q,er,rfl,hV,u8⟩;have U8:Up w w8:=(U7.alloc _).trans u8;have HVV:=Lib.hid hV;clear hV;go_wp2_with fail
      go_ret3
      rw[HRR.out];have hks:=(HST6.out.up (u7.trans (((Up.refl _).alloc _).trans u8))).kidsV (by rw[HLN.out];omega) (by rw[HLN.out];omega);have hV:=HVV.out;refine⟨_,_,_,_,rfl,hks,?_,U8⟩
      cases R7 with
      | inr r=>exact hV
      | inl r=>exact⟨rfl,hV.1,hV.2⟩
     | true=>
      rw[hB] at kb6;have hq4:q3+1<=l.length:=qG hB;have hw4:=qR q3 1 (by omega) (by omega);have HRR:Hid (R=armsF B.nck B.long l f (q3+1) (acc.app (fr1 (⟨34,0,s1,s2⟩,fr1 b)))):=Lib.hid (by rw[HS.out,hB];rfl);clear hB;go_wp2_with fail;refine kb6.mono ?_;rintro e w7 ⟨rfl,u7⟩;go_wp2_with fail;exact⟨⟨q3+1,f,_,_,yS (by omega),by omega,by omega,by omega,by omega,HRR.out,by rw[HLN.out];omega,HST6.out.up u7,U6.trans u7⟩,by simp[intOf];omega⟩
theorem zQf {l:List Te} {N:Nat} {A E:Nat->Rs Tr} {M:Nat->Fr->Rs Fr} {i:Nat} {w:World} {v:Value} (H:uQ l E i w v) (cM:ArmsC l M i w v) (hk:key (tks l) i kCase=true) :
  Calls Tryz.prog 161 #[v,.int .i64 (i:Int)] w (qJ (exprS B.nck B.long l N A E M i) w):=by
 have hil:=H.hi;have hll:=H.hl;have k0:=H.key i kFn;have k1:=H.key i kLet;have k2:=H.key i kIf;have k3:=H.key i kCase;rw[zX hk (by decide)] at k0;rw[zX hk (by decide)] at k1;rw[zX hk (by decide)] at k2;rw[hk] at k3;have hR:exprS B.nck B.long l N A E M i=caseS l E M (i+1):=by unfold exprS;rw[if_neg (by rw[zX hk (by decide)];decide),if_neg (by rw[zX hk (by decide)];decide),if_neg (by rw[zX hk (by decide)];decide),if_pos hk]
 rw[hR];have hw1:=qR i 1 (by omega) (by omega);obtain⟨R,hRe⟩:∃R,caseS l E M (i+1)=R:=⟨_,rfl⟩;rw[hRe];have HR:=Lib.hid hRe;clear hR hk hRe
 go_enter Tryz.func161,Tryz.ntmps161
 go_wp2_with fail;refine(k0 w (Up.refl w)).mono ?_;rintro e x0 ⟨rfl,u0⟩;have V0:=u0;go_wp2_with fail;refine(k1 x0 V0).mono ?_;rintro e x1 ⟨rfl,u1⟩;have V1:=V0.trans u1;go_wp2_with fail;refine(k2 x1 V1).mono ?_;rintro e x2 ⟨rfl,u2⟩;have V2:=V1.trans u2;go_wp2_with fail;refine(k3 x2 V2).mono ?_;rintro e x3 ⟨rfl,u3⟩;have V3:=V2.trans u3;have c0:=fun W vk u h=>H.sub (i+1) [kOf] W vk (Nat.lt_succ_self i) hil u h
 have a0:=qP (ks:=[kOf]) (H.inE (i+1) hil);obtain⟨R0,hR0⟩:∃R0,thenK (tks l) (E (i+1)) [kOf]=R0:=⟨_,rfl⟩;rw[hR0] at c0 a0;have HR0:=Lib.hid hR0;clear hR0;go_wp2_with fail;refine(c0 _ _ (V3.alloc _) (TxS.row1 x3 kOf _)).mono ?_;rintro e w1 ⟨v0,j0,e0,rfl,hV,z0⟩;have U1:Up w w1:=(V3.alloc _).trans z0
 cases R0 with
 | inr r=>
  obtain⟨p,er⟩:=r;obtain⟨rfl,rfl,A1,rfl⟩:=hV;have hne:=a0.ne rfl;go_wp2_with fail
  go_ret3
  rw[show R = .inr (p,e0) from by rw[<- HR.out];unfold caseS;rw[HR0.out];rfl];exact⟨_,_,_,rfl,⟨rfl,rfl,none,rfl⟩,U1⟩
 | inl r=>
  obtain⟨t0,q0⟩:=r;obtain⟨h0,rfl,rfl⟩:=hV;obtain⟨o0,p0,rfl⟩:=InT.ptr h0;have hq0:i+1<q0/\q0<=l.length:=a0;clear c0 a0;have c1:=fun W u=>cM q0 W (by omega) hq0.2 u
  obtain⟨R1,hR1⟩:∃R1,M q0 .nil=R1:=⟨_,rfl⟩;rw[hR1] at c1;have HR1:=Lib.hid hR1;clear hR1;go_wp2_with fail;refine(c1 _ U1).mono ?_;rintro e w2 ⟨v1,f1,j1,e1,rfl,hK,hV,z1⟩;have U2:Up w w2:=U1.trans z1;obtain⟨v9,w9,g9,c9,r9,rfl,hc9,hg9,hf9,y9⟩:=zYt #[.pointer (some ⟨o0,p0,none⟩)] (n:=1) rfl (by decide) (W:=w) (w:=w2) (f0:=fr1 t0) U2.size (⟨h0.from (V3.alloc _) (((Up.refl _).trans z1)),trivial⟩) (KidsV.from hK U1);have HF9:=Lib.hid hf9;clear hf9
  go_wp2_with (at_builtin;refine tS _ _ _ rfl rfl rfl rfl r9 ?_)
  refine(zC 32 nob _ _ _ _).mono ?_;rintro e w8 ⟨rfl,rfl⟩;go_wp2_with fail
  go_ret3
  have hRR:R=thn R1 fun k m=>.inl (nd 32 nob (.cons t0.1 t0.2 k),m):=by rw[<- HR.out];unfold caseS;rw[HR0.out];show thn (M q0 .nil) _=_;rw[HR1.out]
  rw[hRR];refine⟨_,_,_,rfl,?_,(U2.trans y9).alloc _⟩
  cases R1 with
  | inr r=>exact⟨hV.1,hV.2,_,rfl⟩
  | inl r=>
   obtain⟨rfl,h2,h3⟩:=hV;exact⟨eZ (by simp only[Fr.len];omega) hc9 hg9 HF9.out (U2.trans y9).size,h2,h3⟩
theorem zQg {l:List Te} {N:Nat} {A E:Nat->Rs Tr} {M:Nat->Fr->Rs Fr} {i:Nat} {w:World} {v:Value} (H:uQ l E i w v) (cM:ArmsC l M i w v) (hk:key (tks l) i kFold=true) :
  Calls Tryz.prog 161 #[v,.int .i64 (i:Int)] w (qJ (exprS B.nck B.long l N A E M i) w):=by
 have hil:=H.hi;have hll:=H.hl;have k0:=H.key i kFn;have k1:=H.key i kLet;have k2:=H.key i kIf;have k3:=H.key i kCase;have k4:=H.key i kFold;rw[zX hk (by decide)] at k0;rw[zX hk (by decide)] at k1;rw[zX hk (by decide)] at k2;rw[zX hk (by decide)] at k3;rw[hk] at k4;have hR:exprS B.nck B.long l N A E M i=foldS B.nck B.long l E M (i+1):=by unfold exprS;rw[if_neg (by rw[zX hk (by decide)];decide),if_neg (by rw[zX hk (by decide)];decide),if_neg (by rw[zX hk (by decide)];decide),if_neg (by rw[zX hk (by decide)];decide),if_pos hk]
 rw[hR];have hw1:=qR i 1 (by omega) (by omega);obtain⟨R,hRe⟩:∃R,foldS B.nck B.long l E M (i+1)=R:=⟨_,rfl⟩;rw[hRe];have HR:=Lib.hid hRe;clear hR hk hRe
 go_enter Tryz.func161,Tryz.ntmps161
 go_wp2_with fail;refine(k0 w (Up.refl w)).mono ?_;rintro e x0 ⟨rfl,u0⟩;have V0:=u0;go_wp2_with fail;refine(k1 x0 V0).mono ?_;rintro e x1 ⟨rfl,u1⟩;have V1:=V0.trans u1;go_wp2_with fail;refine(k2 x1 V1).mono ?_;rintro e x2 ⟨rfl,u2⟩;have V2:=V1.trans u2;go_wp2_with fail;refine(k3 x2 V2).mono ?_;rintro e x3 ⟨rfl,u3⟩;have V3:=V2.trans u3;go_wp2_with fail;refine(k4 x3 V3).mono ?_;rintro e x4 ⟨rfl,u4⟩;have V4:=V3.trans u4;have c0:=fun W vk u h=>H.sub (i+1) [kTo] W vk (Nat.lt_succ_self i) hil u h
 have a0:=qP (ks:=[kTo]) (H.inE (i+1) hil);obtain⟨R0,hR0⟩:∃R0,thenK (tks l) (E (i+1)) [kTo]=R0:=⟨_,rfl⟩;rw[hR0] at c0 a0;have HR0:=Lib.hid hR0;clear hR0;go_wp2_with fail;refine(c0 _ _ (V4.alloc _) (TxS.row1 x4 kTo _)).mono ?_;rintro e w1 ⟨v0,j0,e0,rfl,hV,z0⟩;have U1:Up w w1:=(V4.alloc _).trans z0
 cases R0 with
 | inr r=>
  obtain⟨p,er⟩:=r;obtain⟨rfl,rfl,A1,rfl⟩:=hV;have hne:=a0.ne rfl;go_wp2_with fail
  go_ret3
  rw[show R = .inr (p,e0) from by rw[<- HR.out];unfold foldS;rw[HR0.out];rfl];exact⟨_,_,_,rfl,⟨rfl,rfl,none,rfl⟩,U1⟩
 | inl r=>
  obtain⟨t0,q0⟩:=r;obtain⟨h0,rfl,rfl⟩:=hV;obtain⟨o0,p0,rfl⟩:=InT.ptr h0;have hq0:i+1<q0/\q0<=l.length:=a0;clear c0 a0;have c1:=fun W vk u h=>H.typ q0 [kOf] W vk hq0.2 u h
  have a1:=qP (ks:=[kOf]) (jC (nk:=B.nck) (lg:=B.long) hq0.2);obtain⟨R1,hR1⟩:∃R1,thenK (tks l) (typL B.nck B.long (tks l) q0) [kOf]=R1:=⟨_,rfl⟩;rw[hR1] at c1 a1;have HR1:=Lib.hid hR1;clear hR1;go_wp2_with fail;refine(c1 _ _ (U1.alloc _) (TxS.row1 w1 kOf _)).mono ?_;rintro e w2 ⟨v1,j1,e1,rfl,hV,z1⟩;have U2:Up w w2:=(U1.alloc _).trans z1
  cases R1 with
  | inr r=>
   obtain⟨p,er⟩:=r;obtain⟨rfl,rfl,A1,rfl⟩:=hV;have hne:=a1.ne rfl;go_wp2_with fail
   go_ret3
   rw[show R = .inr (p,e1) from by rw[<- HR.out];unfold foldS;rw[HR0.out];show thn (thenK (tks l) (typL B.nck B.long (tks l) q0) [kOf]) _=_;rw[HR1.out];rfl];exact⟨_,_,_,rfl,⟨rfl,rfl,none,rfl⟩,U2⟩
  | inl r=>
   obtain⟨t1,q1⟩:=r;obtain⟨h1,rfl,rfl⟩:=hV;obtain⟨o1,p1,rfl⟩:=InT.ptr h1;have hq1:q0<q1/\q1<=l.length:=a1;clear c1 a1;have c2:=fun W u=>cM q1 W (by omega) hq1.2 u
   obtain⟨R2,hR2⟩:∃R2,M q1 .nil=R2:=⟨_,rfl⟩;rw[hR2] at c2;have HR2:=Lib.hid hR2;clear hR2;go_wp2_with fail;refine(c2 _ U2).mono ?_;rintro e w3 ⟨v2,f2,j2,e2,rfl,hK,hV,z2⟩;have U3:Up w w3:=U2.trans z2;obtain⟨v9,w9,g9,c9,r9,rfl,hc9,hg9,hf9,y9⟩:=zYt #[.pointer (some ⟨o0,p0,none⟩),.pointer (some ⟨o1,p1,none⟩)] (n:=2) rfl (by decide) (W:=w) (w:=w3) (f0:=fr2 t0 t1) U3.size (⟨h0.from (V4.alloc _) (((((Up.refl _).alloc _).trans z1).trans z2)),h1.from (U1.alloc _) (((Up.refl _).trans z2)),trivial⟩) (KidsV.from hK U2);have HF9:=Lib.hid hf9;clear hf9
   go_wp2_with (at_builtin;refine tS _ _ _ rfl rfl rfl rfl r9 ?_)
   refine(zC 33 nob _ _ _ _).mono ?_;rintro e w8 ⟨rfl,rfl⟩;go_wp2_with fail
   go_ret3
   have hRR:R=thn R2 fun k m=>.inl (nd 33 nob (.cons t0.1 t0.2 (.cons t1.1 t1.2 k)),m):=by rw[<- HR.out];unfold foldS;rw[HR0.out];show thn (thenK (tks l) (typL B.nck B.long (tks l) q0) [kOf]) _=_;rw[HR1.out];show thn (M q1 .nil) _=_;rw[HR2.out]
   rw[hRR];refine⟨_,_,_,rfl,?_,(U3.trans y9).alloc _⟩
   cases R2 with
   | inr r=>exact⟨hV.1,hV.2,_,rfl⟩
   | inl r=>
    obtain⟨rfl,h2,h3⟩:=hV;exact⟨eZ (by simp only[Fr.len];omega) hc9 hg9 HF9.out (U3.trans y9).size,h2,h3⟩
theorem zFa {l:List Te} {N:Nat} {A E:Nat->Rs Tr} {M:Nat->Fr->Rs Fr} {i:Nat} {w:World} {v:Value} (H:uQ l E i w v) (hk:key (tks l) i kFn=true)
  (cL:∀W,Up w W->Calls Tryz.prog 184 #[v,.int .i64 ((i+1:Nat):Int)] W (qJ (lamS B.nck B.long l E (i+1)) W)) :
  Calls Tryz.prog 161 #[v,.int .i64 (i:Int)] w (qJ (exprS B.nck B.long l N A E M i) w):=by
 have hil:=H.hi;have hll:=H.hl;have k0:=H.key i kFn;rw[hk] at k0;have hR:exprS B.nck B.long l N A E M i=lamS B.nck B.long l E (i+1):=by unfold exprS;rw[if_pos hk]
 rw[hR];have hw1:=qR i 1 (by omega) (by omega);obtain⟨R,hRe⟩:∃R,lamS B.nck B.long l E (i+1)=R:=⟨_,rfl⟩;rw[hRe] at cL ⊢;clear hR hk hRe
 go_enter Tryz.func161,Tryz.ntmps161
 go_wp2_with fail;refine(k0 w (Up.refl w)).mono ?_;rintro e w1 ⟨rfl,u1⟩;go_wp2_with fail;refine(cL w1 u1).mono ?_;rintro e w2 ⟨va,q,er,rfl,hV,u2⟩;go_wp2_with fail
 go_ret3
 refine⟨_,_,_,rfl,?_,u1.trans u2⟩
 cases R with
 | inr r=>exact hV
 | inl r=>exact⟨hV.1.base u1.size,hV.2⟩
theorem zKm {l:List Te} {N:Nat} {A E:Nat->Rs Tr} {M:Nat->Fr->Rs Fr} {i:Nat} {w:World} {v:Value} (hv:Tke w v l) (h0:key (tks l) i kFn=false) (h1:key (tks l) i kLet=false) (h2:key (tks l) i kIf=false) (h3:key (tks l) i kCase=false) (h4:key (tks l) i kFold=false)
  (cC:∀W,Up w W->Calls Tryz.prog 189 #[v,.int .i64 (i:Int)] W (qJ (cmpS B.long l N A i) W)) :
  Calls Tryz.prog 161 #[v,.int .i64 (i:Int)] w (qJ (exprS B.nck B.long l N A E M i) w):=by
 have cK:∀(j:Nat) (x:ByteArray) (W:World),Up w W->Calls Tryz.prog 41 #[v,.int .i64 (j:Int),.string x] W (BoU (key (tks l) j x) W):=fun j x W u=>by rw[<- yN];exact kZ (tks l) j x W v (hv.up u).tkm
 have k0:=cK i kFn;have k1:=cK i kLet;have k2:=cK i kIf;have k3:=cK i kCase;have k4:=cK i kFold;have hR:exprS B.nck B.long l N A E M i=cmpS B.long l N A i:=by unfold exprS;rw[h0,h1,h2,h3,h4];rfl
 rw[hR];rw[h0] at k0;rw[h1] at k1;rw[h2] at k2;rw[h3] at k3;rw[h4] at k4;obtain⟨R,hRe⟩:∃R,cmpS B.long l N A i=R:=⟨_,rfl⟩;rw[hRe] at cC ⊢;clear hR hRe cK h0 h1 h2 h3 h4 hv
 go_enter Tryz.func161,Tryz.ntmps161
 go_wp2_with fail;refine(k0 w (Up.refl w)).mono ?_;rintro e w1 ⟨rfl,u1⟩;go_wp2_with fail;refine(k1 w1 u1).mono ?_;rintro e w2 ⟨rfl,u2⟩;have U2:=u1.trans u2;go_wp2_with fail;refine(k2 w2 U2).mono ?_;rintro e w3 ⟨rfl,u3⟩;have U3:=U2.trans u3;go_wp2_with fail;refine(k3 w3 U3).mono ?_;rintro e w4 ⟨rfl,u4⟩;have U4:=U3.trans u4;go_wp2_with fail;refine(k4 w4 U4).mono ?_;rintro e w5 ⟨rfl,u5⟩;have U5:=U4.trans u5;go_wp2_with fail;refine(cC w5 U5).mono ?_;rintro e w6 ⟨va,q,er,rfl,hV,u6⟩;go_wp2_with fail
 go_ret3
 refine⟨_,_,_,rfl,?_,U5.trans u6⟩
 cases R with
 | inr r=>exact hV
 | inl r=>exact⟨hV.1.base U5.size,hV.2⟩
theorem zVf {l:List Te} {n i:Nat} (hi:i<l.length) (hl:l.length<=1000000) (hz:∀t∈l,t.t.s.size<=1000000000) {w:World} {v:Value} (hv:Tke w v l) (cE:∀j,i<j->j<=l.length->ExAt l (exprF B.nck B.long l n) 161 j):uQ l (exprF B.nck B.long l n) i w v where
 hi:=hi
 hl:=hl
 inE:=fun j hj=>jX hj
 key:=fun j x W u=>by rw[<- yN];exact kZ (tks l) j x W v (hv.up u).tkm
 name:=fun j ks W vk u h=>zKb l j hl hz ks W v vk (hv.up u) h
 keys:=fun j ks W vk hj u h=>fH l j hj hl ks W v vk (hv.up u) h
 typ:=fun j ks W vk hj u h=>zCz l j hj hl hz ks W v vk (hv.up u) h
 sub:=fun j ks W vk hij hj u h=>zCy l _ (fun j hj=>jX hj) j hj hl (cE j hij hj) ks W v vk (hv.up u) h
 expr:=fun j W hij hj u=>cE j hij hj W v (hv.up u)
theorem zYv (l:List Te) (hl:l.length<=1000000) (hz:∀t∈l,t.t.s.size<=1000000000):∀(n m:Nat),m<=n->
  (∀i,i<=l.length->2*(l.length-i)+2<=m->ExAt l (exprF B.nck B.long l m) 161 i)/\(∀i,i<=l.length->2*(l.length-i)+1<=m->ExAt l (qW B.nck B.long l m) 255 i)
 | _,0,_=>⟨fun i _ h=>by omega,fun i _ h=>by omega⟩
 | 0,m+1,h=>by omega
 | n+1,m+1,hm=>by
  have ih:=zYv l hl hz n;obtain⟨hE,hA⟩:=ih m (by omega);have inA:∀j,j<=l.length->In l.length j (qW B.nck B.long l m j):=(dT m).2.1;refine⟨fun i hi hn w v hv=>?_,fun i hi hn w v hv=>?_⟩
  ·rw[lN]
   have cE:i<l.length->∀j,i<j->j<=l.length->ExAt l (exprF B.nck B.long l m) 161 j:=fun hlt j hij hj=>hE j hj (by omega)
   have cM:i<l.length->ArmsC l (armsF B.nck B.long l m) i w v:=fun hlt j W hij hj u=>zF9 l m j (by omega) hj hl hz W v (hv.up u) fun m' j' W' hm' hb hj' u'=>(ih m' (by omega)).1 j' hj' hb W' v ((hv.up u).up u')
   cases h0:key (tks l) i kFn with
   | true=>
    have hlt:=qG h0;have H:=zVf (n:=m) hlt hl hz hv (cE hlt);exact zFa H h0 fun W u=>zB0 (zVf (n:=m) hlt hl hz (hv.up u) (cE hlt))
   | false=>
    cases h1:key (tks l) i kLet with
    | true=>exact zKc (zVf (n:=m) (qG h1) hl hz hv (cE (qG h1))) h1
    | false=>
     cases h2:key (tks l) i kIf with
     | true=>exact zF0 (zVf (n:=m) (qG h2) hl hz hv (cE (qG h2))) h2
     | false=>
      cases h3:key (tks l) i kCase with
      | true=>exact zQf (zVf (n:=m) (qG h3) hl hz hv (cE (qG h3))) (cM (qG h3)) h3
      | false=>
       cases h4:key (tks l) i kFold with
       | true=>exact zQg (zVf (n:=m) (qG h4) hl hz hv (cE (qG h4))) (cM (qG h4)) h4
       | false=>
        refine zKm hv h0 h1 h2 h3 h4 fun W u=>?_
        refine zB5 l _ (m+1) i hi hl (fun j hj=>lQ inA hj) W v (hv.up u) fun j W1 hij hj u1=>?_
        refine zB4 l _ (m+1) j hj hl (by omega) (fun j hj=>oV inA hj) W1 v ((hv.up u).up u1) fun j2 W2 hij2 hj2 u2=>?_
        refine zF2 l _ (m+1) j2 hj2 hl (by omega) (fun j hj=>oU inA hj) W2 v (((hv.up u).up u1).up u2) fun j3 W3 hij3 hj3 u3=>?_
        refine zB3 l _ (m+1) j3 hj3 (by omega) hz inA W3 v ((((hv.up u).up u1).up u2).up u3) fun j4 W4 hij4 hj4 u4=>?_
        exact hA j4 hj4 (by omega) W4 v (((((hv.up u).up u1).up u2).up u3).up u4)
  ·rw[jV]
   cases h:hdE B.long l i with
   | no=>exact zF7 l _ _ i hz w v hv h
   | num x=>exact zKe l _ _ i hl hz w v hv x h
   | var x=>exact zKf l _ _ i hl hz w v hv x h
   | boo x=>
    have hx:=zM9 h;have:x=0\/x=1:=by omega
    rcases this with rfl | rfl
    ·exact zKh l _ _ i hl hz w v hv h
    ·exact zKg l _ _ i hl hz w v hv h
   | sel k=>
    have hlt:i<l.length:=jW (lg:=B.long) (by rw[h];rfl)
    rcases zMa h with rfl | rfl
    ·exact zKi l _ _ i hl hz w v hv (fun j W hij hj u=>hA j hj (by omega) W v (hv.up u)) h
    ·exact zKj l _ _ i hl hz w v hv (fun j W hij hj u=>hA j hj (by omega) W v (hv.up u)) h
   | opn=>
    have hlt:i<l.length:=jW (lg:=B.long) (by rw[h];rfl);have H:=zVf (n:=m) hlt hl hz hv fun j hij hj=>hE j hj (by omega)
    cases hk:key (tks l) (i+1) kShut with
    | true=>exact zQc l _ _ i hl hz w v hv H h hk
    | false=>exact zKk l _ _ i hl hz w v hv H h hk
theorem zFb (l:List Te) (i:Int) (hl:l.length<=1000000) (hz:∀t∈l,t.t.s.size<=1000000000) (m:Nat) (hm:2*l.length+2<=m) (w:World) (v:Value) (hv:Tke w v l) :
  Calls Tryz.prog 127 #[v,.int .i64 i] w (yO (expZ B.nck B.long l m i) w):=by
 have HV:=Lib.hid hv;have HZ:=Lib.hid hz;obtain⟨G,c,rfl,-⟩:=hv;obtain⟨n,hn⟩:∃n,l.length=n:=⟨_,rfl⟩;have HN:=Lib.hid hn
 by_cases h0:i<0
 ·have HR:Hid (expZ B.nck B.long l m i = .inr (0,2)):=Lib.hid (by unfold expZ;rw[if_pos (.inl h0)])
  rw[HR.out]
  go_enter Tryz.func127,Tryz.ntmps127
  go_wp2_with fail
  go_ret3
  exact⟨_,_,_,rfl,⟨rfl,rfl,rfl⟩,Up.refl _⟩
 ·by_cases h1:(n:Int)<i
  ·have HR:Hid (expZ B.nck B.long l m i = .inr (0,2)):=Lib.hid (by unfold expZ;rw[if_pos (.inr (by rw[hn];exact h1))])
   rw[HR.out];rw[hn]
   go_enter Tryz.func127,Tryz.ntmps127
   go_wp2_with fail
   go_ret3
   exact⟨_,_,_,rfl,⟨rfl,rfl,rfl⟩,Up.refl _⟩
  ·obtain⟨k,rfl⟩:=Int.eq_ofNat_of_zero_le (by omega:0<=i)
   have hkn:k<=l.length:=by omega
   have HR:Hid (expZ B.nck B.long l m (k:Int)=exprF B.nck B.long l m k):=Lib.hid (by unfold expZ;rw[if_neg (by rw[hn];omega),Int.toNat_natCast]);rw[HR.out];have cT:=(zYv l hl HZ.out m m (Nat.le_refl _)).1 k hkn (by omega) w _ HV.out;have hin:=jX (nk:=B.nck) (lg:=B.long) (l:=l) (n:=m) hkn;obtain⟨R,hRe⟩:∃R,exprF B.nck B.long l m k=R:=⟨_,rfl⟩;rw[hRe] at cT hin ⊢;rw[hn] at cT ⊢;clear hz hn hRe
   cases R with
   | inr e=>
    obtain⟨p,er⟩:=e;have hne:¬er=0:=hin.ne rfl;clear hin
    go_enter Tryz.func127,Tryz.ntmps127
    go_wp2_with fail;refine cT.mono ?_;rintro e w1 ⟨va,ja,ea,rfl,⟨rfl,rfl,A1,rfl⟩,u1⟩;go_wp2_with fail
    go_ret3
    exact⟨_,_,_,rfl,⟨rfl,rfl,rfl⟩,u1⟩
   | inl r=>
    obtain⟨t,q⟩:=r;clear hin
    go_enter Tryz.func127,Tryz.ntmps127
    go_wp2_with fail;refine cT.mono ?_;rintro e w1 ⟨va,ja,ea,rfl,⟨h1,rfl,rfl⟩,u1⟩;go_wp2_with fail
    go_ret3
    exact⟨_,_,_,rfl,⟨h1,rfl,rfl⟩,u1⟩
section
variable {W w w' w5 w6:World} {B:Nat} {x:Nod} {vo v6:Value} {ps:List Value} {f:Fr} {S:Nat->Prop}
theorem NdM.name (h:NdM W w B x vo ps) (s:ByteArray):NdM W (w.setCell ⟨B,2,none⟩ (.string s)) B {x with a:=s} vo ps:=
 ⟨(by have h1:=h.node;unfold Nb at h1 ⊢;simp[World.setCell,Array.getElem?_modify,h1]),yF h.own _ _ (fun g hg=>fun e=>h.ne (by rw[hg];exact congrArg some e)),h.ptr,h.ne,h.hB⟩
theorem KdM.set (h:KdM W w B vo ps f) (k:Nat) (u:Value):KdM W (w.setCell ⟨B,k,none⟩ u) B vo ps f:=
 PtF.keep (fun q hq=>⟨⟨hq.1.1,by have:=hq.1.2;simpa [World.setCell] using this⟩,hq.2⟩) (fun q hq=>Below.heap_setCell _ _ _ _ hq.2.1) h
theorem zQh {w:World} {K B0:Nat} {A:Option Addr} (h:w.heap[K]? = some (.cells #[.pointer A] 24 (0,0))) (hB:B0<=K):w.ownsRow B0 24 1 (.slice (some ⟨K,0,none⟩) 1 1) 1 [.pointer A]:=
 ⟨rfl,.inr ⟨K,1,#[.pointer A],rfl,hB,h,Nat.le_refl _,by unfold maxLen;omega,rfl,rfl⟩⟩
theorem InF.vals8 {S:Nat->Prop}:∀{f:Fr} {g o:Nat},InF w S f g o->∃vs,PtF w S vs f/\∀(j:Nat) u,vs[j]? = some u->w.cell? ⟨g,o+j,none⟩=some u
 | .nil,g,o,_=>⟨[],trivial,fun j u hu=>by cases hu⟩
 | .cons x k r,g,o,h=>by
  obtain⟨⟨v,hc,hv⟩,hr⟩:=h;obtain⟨vs,h1,h2⟩:=InF.vals8 hr;refine⟨v::vs,⟨hv,h1⟩,fun j u hu=>?_⟩
  cases j with
  | zero=>injection hu with hu;subst hu;exact hc
  | succ j=>rw[show o+(j+1)=o+1+j from by omega];exact h2 j u hu
theorem PtF.ptrs {S:Nat->Prop}:∀{vs:List Value} {f:Fr},PtF w S vs f->Ptrs vs
 | [],.nil,_,u,hu=>by cases hu
 | [],.cons _ _ _,h,_,_=>h.elim
 | _::_,.nil,h,_,_=>h.elim
 | v::vs,.cons x ks rs,h,u,hu=>by
  rcases List.mem_cons.1 hu with rfl | hu
  ·obtain⟨o,p,rfl⟩:=InT.ptr h.1
   exact⟨_,rfl⟩
  ·exact PtF.ptrs (vs:=vs) (f:=rs) h.2 u hu
end
def rc4 (t:B.RTok):List Value:=[.int .i64 t.k,.string t.s,.int .i64 t.n,.int .i64 t.a]
def Tkr (w:World) (v:Value) (l:List B.RTok):Prop:=∃A c,v = .slice A l.length c/\∀(j:Nat) t,l[j]? = some t->∃b o,A=some ⟨b,o,none⟩/\b<w.heap.size/\w.cell? ⟨b,o+j*4,none⟩=some (.int .i64 t.k)/\w.cell? ⟨b,o+j*4+1,none⟩=some (.string t.s)/\w.cell? ⟨b,o+j*4+2,none⟩=some (.int .i64 t.n)/\w.cell? ⟨b,o+j*4+3,none⟩=some (.int .i64 t.a)
theorem zQi {w:World} {a:Addr} {v:Value} (h:w.cell? a=some v):a.spot=none:=by
 unfold World.cell? at h
 cases hs:a.spot with
 | none=>rfl
 | some z=>
  rw[hs] at h
  cases hh:w.heap[a.block]? with
  | none=>rw[hh] at h;cases h
  | some ob=>rw[hh] at h;cases ob<;>simp at h
theorem zKn {w:World} {v:Value} {l:List B.RTok} (h:B.RTks w w.heap.size v l):Tkr w v l:=by
 obtain⟨A,c,hv,hc⟩:=h;refine⟨A,c,hv,fun j t ht=>?_⟩;obtain⟨ad,hA,hlt,h0,h1,h2,h3⟩:=hc j t ht;have hj:j<l.length:=(List.getElem?_eq_some_iff.1 ht).1;obtain⟨x0,hx0⟩:∃x0,l[0]? = some x0:=⟨_,List.getElem?_eq_getElem (by omega)⟩;obtain⟨ad0,hA0,_,k0,-⟩:=hc 0 x0 hx0;have e0:ad0=ad:=by rw[hA] at hA0;exact(Option.some.inj hA0).symm
 subst e0;have hsp:ad0.spot=none:=by
  have e:ad0.add (0*4)=ad0:=by simp[Addr.add]
  rw[e] at k0;exact zQi k0
 have ha:ad0.add (j*4)=⟨ad0.block,ad0.off+j*4,none⟩:=by
  unfold Addr.add
  split
  ·rename_i hi
   rw[hi,<- hsp]
   rfl
  ·rfl
 rw[ha] at h0 h1 h2 h3;exact⟨ad0.block,ad0.off,by rw[hA,<- hsp],hlt,h0,h1,h2,h3⟩
theorem Tkr.up {W w:World} {v:Value} {l:List B.RTok} (h:Tkr W v l) (u:Up W w):Tkr w v l:=by
 obtain⟨A,c,hv,hc⟩:=h;refine⟨A,c,hv,fun j t ht=>?_⟩;obtain⟨b,o,h1,h2,h3,h4,h5,h6⟩:=hc j t ht;exact⟨b,o,h1,Nat.lt_of_lt_of_le h2 u.size,u.cell h3,u.cell h4,u.cell h5,u.cell h6⟩
def bY (s:ByteArray):ByteArray:=s.extract 0 (min s.size 140)
theorem zQj (s:ByteArray):(bY s).size<=140:=by
 unfold bY;rw[Lib.size_eq,Lib.extract_data,List.length_take];omega
def cutR (t:B.RTok):B.RTok:=⟨t.k,bY t.s,t.n,t.a⟩
def fewR (l:List B.RTok):List B.RTok:=(l.take 80).map cutR
theorem zKo (l:List B.RTok):(fewR l).length<=80:=by unfold fewR;rw[List.length_map,List.length_take];omega
def fl4 (l:List B.RTok):List Value:=l.flatMap rc4
theorem zFc (a b:List B.RTok):fl4 (a++b)=fl4 a++fl4 b:=List.flatMap_append
theorem zKp:∀{l:List B.RTok} {j:Nat} {t:B.RTok},l[j]? = some t->∀i u,(rc4 t)[i]? = some u->(fl4 l)[j*4+i]? = some u
 | [],_,_,h,_,_,_=>by cases h
 | x::r,0,t,h,i,u,hu=>by
  have h:x=t:=Option.some.inj h;subst h
  show(rc4 x++fl4 r)[0*4+i]? = some u
  rw[Nat.zero_mul,Nat.zero_add,List.getElem?_append_left (List.getElem?_eq_some_iff.1 hu).1];exact hu
 | x::r,j+1,t,h,i,u,hu=>by
  show(rc4 x++fl4 r)[(j+1)*4+i]? = some u
  have e:(j+1)*4+i=(rc4 x).length+(j*4+i):=by show _=4+_;omega
  rw[e,List.getElem?_append_right (by omega),Nat.add_sub_cancel_left];exact zKp (l:=r) (j:=j) h i u hu
theorem zTv {w:World} {B0:Nat} {v:Value} {n:Nat} {l:List B.RTok} (h:w.ownsRow B0 47 4 v n (fl4 l)) (hn:l.length=n):Tkr w v l:=by
 subst hn
 rcases h.2 with ⟨hv,h0⟩ | ⟨g,cap,cur,hv,hbg,hh,hc,_⟩
 ·exact⟨none,0,by rw[hv,h0],fun j t ht=>by have:=(List.getElem?_eq_some_iff.1 ht).1;omega⟩
 ·refine⟨some ⟨g,0,none⟩,cap,hv,fun j t ht=>?_⟩
  have hlt:=(World.ownsRow.lt h g (by rw[hv];rfl)).2;have hcl:∀i u,(rc4 t)[i]? = some u->w.cell? ⟨g,0+j*4+i,none⟩=some u:=fun i u hu=>by
   have h9:=h.cells (g:=g) (by rw[hv];rfl) _ _ (zKp ht i u hu);have e1:(⟨g,0,none⟩:Addr).add (j*4+i)=⟨g,0+j*4+i,none⟩:=by unfold Addr.add;split<;>(try simp_all)<;>omega
   rwa [e1] at h9
  exact⟨g,0,rfl,hlt,hcl 0 _ rfl,hcl 1 _ rfl,hcl 2 _ rfl,hcl 3 _ rfl⟩
def FwP (l:List B.RTok) (W:World) (e:Ending) (w':World):Prop:=∃v,e = .returned v/\Tkr w' v (fewR l)/\Up W w'
theorem zKq (l:List B.RTok) (hz:∀t∈l,t.s.size<=9223372036854775807) (W w:World) (v:Value) (hv:Tkr W v l) (hu:Up W w) (_hl:l.length<=9223372036854775807):Calls Tryz.prog 7 #[v] w (FwP l W):=by
 obtain⟨A,c,rfl,hc⟩:=hv.up hu;have HC:=Lib.hid hc;have HZ:=Lib.hid hz;have HU:=Lib.hid hu;obtain⟨N,hN⟩:∃N,l.length=N:=⟨_,rfl⟩;have HN:=Lib.hid hN;rw[hN] at _hl ⊢;obtain⟨i0,hi0,hz0,hz1,hz2⟩:=info_parts iZ;clear hc hz hu hv hN
 go_enter Tryz.func7,Tryz.ntmps7
 go_wp2_with fail
 go_loopw [3,4] (fun vo x wr=>∃k:Nat,x = .int .i64 (k:Int)/\k<=N/\k<=80/\wr.ownsRow w.heap.size 47 4 vo k (fl4 ((l.take k).map cutR))/\Up w wr) (fun _ x _=>81-(intOf x).toNat)
 case atStart=>exact⟨0,rfl,Nat.zero_le _,Nat.zero_le _,World.ownsRow_nil _ _ _ _,Up.refl _⟩
 case round=>
  obtain⟨k,rfl,hk,hk80,ho,hur⟩:=hrel;have HO:=Lib.hid ho;have HUR:=Lib.hid hur;have hzr:=hur.size;clear ho
  by_cases hlt:k<N
  ·have hkz:(k:Int)<(N:Int):=by omega
   by_cases h80:k<80
   ·have hk8:(k:Int)<80:=by omega
    obtain⟨t,ht⟩:∃t,l[k]? = some t:=⟨_,List.getElem?_eq_getElem (by rw[HN.out];exact hlt)⟩;obtain⟨b,o,rfl,hb,m0,m1,m2,m3⟩:=HC.out k t ht;have hts:=HZ.out t (List.mem_of_getElem? ht);have a0:=hur.cell m0;have a1:=hur.cell m1;have a2:=hur.cell m2;have a3:=hur.cell m3;have hw1:IntKind.i64.wrap ((k:Int)+1)=((k+1:Nat):Int):=by rw[IntKind.wrap_i64];omega
    obtain⟨XK,XS,XN,XA⟩:=t;simp only at a0 a1 a2 a3 hts;have hbr:b<wr.heap.size:=by omega
    obtain⟨M,hM⟩:∃M:Nat,min XS.size 140=M:=⟨_,rfl⟩;have hm1:(if (140:Int)<(XS.size:Int) then (140:Int) else (XS.size:Int))=(M:Int):=by split<;>omega
    have hm2:min (XS.size:Int) 140=(M:Int):=by omega
    have hm3:(M:Int)<=(XS.size:Int):=by omega
    have HT:Hid (XS.extract 0 M=bY XS):=Lib.hid (by unfold bY;rw[hM]);have HTK:=Lib.hid ht;have HB1:=Lib.hid (HO.out.alloc (.cells #[.int .i64 XK,.string (XS.extract 0 M),.int .i64 XN,.int .i64 XA] 47) |>.alloc (.cells #[.int .i64 XK,.string (XS.extract 0 M),.int .i64 XN,.int .i64 XA] 47));have HWZ:Hid (((wr.alloc (.cells #[.int .i64 XK,.string (XS.extract 0 M),.int .i64 XN,.int .i64 XA] 47)).alloc (.cells #[.int .i64 XK,.string (XS.extract 0 M),.int .i64 XN,.int .i64 XA] 47)).heap.size=wr.heap.size+2):=Lib.hid (by simp);have HWB:Hid (w.heap.size<=((wr.alloc (.cells #[.int .i64 XK,.string (XS.extract 0 M),.int .i64 XN,.int .i64 XA] 47)).alloc (.cells #[.int .i64 XK,.string (XS.extract 0 M),.int .i64 XN,.int .i64 XA] 47)).heap.size):=Lib.hid (by rw[HWZ.out];omega);have HU2:Hid (Up w ((wr.alloc (.cells #[.int .i64 XK,.string (XS.extract 0 M),.int .i64 XN,.int .i64 XA] 47)).alloc (.cells #[.int .i64 XK,.string (XS.extract 0 M),.int .i64 XN,.int .i64 XA] 47))):=Lib.hid ((HUR.out.alloc _).alloc _)
    have HNB:Hid (((wr.alloc (.cells #[.int .i64 XK,.string (XS.extract 0 M),.int .i64 XN,.int .i64 XA] 47)).alloc (.cells #[.int .i64 XK,.string (XS.extract 0 M),.int .i64 XN,.int .i64 XA] 47)).heap[wr.heap.size+1]? = some (.cells #[.int .i64 XK,.string (XS.extract 0 M),.int .i64 XN,.int .i64 XA] 47)):=Lib.hid (by rw[show wr.heap.size+1=(wr.alloc (.cells #[.int .i64 XK,.string (XS.extract 0 M),.int .i64 XN,.int .i64 XA] 47)).heap.size from by simp];exact Array.getElem?_push_size);have HCL:Hid (rc4 (cutR ⟨XK,XS,XN,XA⟩)=[.int .i64 XK,.string (XS.extract 0 M),.int .i64 XN,.int .i64 XA]):=Lib.hid (by unfold rc4 cutR;rw[<- HT.out]);clear m0 m1 m2 m3 ht hur hM
    go_wp2_with (at_builtin;refine wpList_append_lies _ rfl _ _ 22 rfl w.heap.size 47 i0 _ 4 40 Tryz.underlying22 hi0 hz0 hz1 hz2 rfl (by omega) u3 k (fl4 ((l.take k).map cutR)) rfl HB1.out ⟨wr.heap.size+1,0,none⟩ 1 1 [.int .i64 XK,.string (XS.extract 0 M),.int .i64 XN,.int .i64 XA] rfl rfl (World.news_of_block HNB.out) (by intro u hu;simp only[List.mem_cons,List.not_mem_nil,or_false] at hu;rcases hu with rfl | rfl | rfl | rfl<;>rfl) (by omega) (by unfold maxLen;omega) (by omega) HWB.out (wr.heap.size+2) HWZ.out ?_;intro g6 cap6 w6 ho6 hg6 hat6 hlt6)
    have e9:fl4 ((l.take k).map cutR)++[.int .i64 XK,.string (XS.extract 0 M),.int .i64 XN,.int .i64 XA]=fl4 ((l.take (k+1)).map cutR):=by
     rw[<- HCL.out,List.take_add_one,HTK.out,List.map_append,zFc]
     show _=_++(rc4 _++[])
     rw[List.append_nil]
    rw[e9] at ho6;refine⟨⟨k+1,by rw[Int.natCast_add];rfl,by omega,by omega,ho6,HU2.out.grown hg6 HWB.out fun g hg=>(World.ownsRow.lt HO.out g hg).1⟩,?_⟩
    show 81-((k:Int)+1).toNat<81-(k:Int).toNat
    omega
   ·have hk8:¬(k:Int)<80:=by omega
    have hke:k=80:=by omega
    have HKE:=Lib.hid hke;clear hke;go_wp2_with fail
    go_ret
    refine⟨_,rfl,?_,HU.out.trans HUR.out⟩;have h9:=HO.out;have h8:((l.take k).map cutR).length=k:=by rw[List.length_map,List.length_take,HN.out];omega
    have h7:=zTv h9 h8
    rwa [HKE.out] at h7
  ·have hkz:¬(k:Int)<(N:Int):=by omega
   have hke:k=N:=by omega
   have HKE:=Lib.hid hke;clear hke;go_wp2_with fail
   go_ret
   refine⟨_,rfl,?_,HU.out.trans HUR.out⟩;have h9:=HO.out;have h8:((l.take k).map cutR).length=k:=by rw[List.length_map,List.length_take,HN.out];omega
   have h7:=zTv h9 h8;have e:fewR l=(l.take k).map cutR:=by
    unfold fewR;rw[List.take_of_length_le (by rw[HN.out];omega),List.take_of_length_le (by rw[HN.out,HKE.out];omega)]
   rw[e];exact h7
def teR8 (t:B.RTok):Te:=⟨⟨t.k,t.s⟩,t.n⟩
def yY (l:List B.RTok):List Te:=(fewR l).map teR8
theorem iB (l:List B.RTok):(yY l).length<=80:=by unfold yY;rw[List.length_map];exact zKo l
theorem zYw (l:List B.RTok):∀t∈yY l,t.t.s.size<=140:=by
 intro t ht;obtain⟨x,hx,rfl⟩:=List.mem_map.1 ht;obtain⟨y,_,rfl⟩:=List.mem_map.1 hx;exact zQj _
theorem zKr {w:World} {v:Value} {l:List B.RTok} (h:Tkr w v l):Tke w v (l.map teR8):=by
 obtain⟨A,c,hv,hc⟩:=h;refine⟨A,c,by rw[hv,List.length_map],fun j t ht=>?_⟩;rw[List.getElem?_map] at ht;obtain⟨x,hx,rfl⟩:=Option.map_eq_some_iff.1 ht;obtain⟨b,o,h1,h2,h3,h4,h5,h6⟩:=hc j x hx;exact⟨b,o,h1,h2,h3,h4,h5,x.a,h6⟩
def StrP (s:ByteArray) (w:World) (e:Ending) (w':World):Prop:=e = .returned (.string s)/\Up w w'
theorem zFd (c:UInt8) (w:World):Calls Tryz.prog 83 #[.int .u8 (c.toNat:Int)] w (StrP (eN c) w):=by
 by_cases hc:c=84
 ·subst hc
  go_enter Tryz.func83,Tryz.ntmps83
  go_wp2_with fail
  go_ret
  exact⟨rfl,Up.refl _⟩
 ·have HS:=Lib.hid (show eN c=⟨#[c]⟩ from if_neg hc)
  have hne:((c.toNat:Int)==84)=false:=u8_ne (d:=84) hc;have hconv:=run_convert_bytes_back (P:=Tryz.prog) (w.alloc (.cells #[.int .u8 (c.toNat:Int)] 5)) 130 9 5 ⟨w.heap.size,0,none⟩ 1 [c] Tryz.underlying130 Tryz.underlying5 Tryz.underlying9 (fun j hj=>by
   obtain rfl:j=0:=by simp at hj;omega
   exact cell_of_row _ w.heap.size 0 _ _ _ (heap_alloc_new w _))
  simp only[List.length_cons,List.length_nil,Nat.zero_add] at hconv;rw[HS.out];clear hc
  go_enter Tryz.func83,Tryz.ntmps83
  go_wp2_with fail
  go_ret
  exact⟨rfl,(Up.refl _).alloc _⟩
def RowsM (w:World) (v:Value) (t:List Rw8):Prop:=∃A c,v = .slice A t.length c/\∀(j:Nat) (r:Rw8),t[j]? = some r->∃b o g p,A=some ⟨b,o,none⟩/\w.cell? ⟨b,o+j*3,none⟩=some (.slice (some ⟨g,p,none⟩) 1 1)/\w.cell? ⟨b,o+j*3+1,none⟩=some (.int .i64 r.k)/\w.cell? ⟨b,o+j*3+2,none⟩=some (.string ⟨r.sh.toArray⟩)/\w.cell? ⟨g,p,none⟩=some (.string r.w)
theorem RowsM.up {W w:World} {v:Value} {t:List Rw8} (h:RowsM W v t) (u:Up W w):RowsM w v t:=by
 obtain⟨A,c,hv,hc⟩:=h;refine⟨A,c,hv,fun j r hr=>?_⟩;obtain⟨b,o,g,p,h1,h2,h3,h4,h5⟩:=hc j r hr;exact⟨b,o,g,p,h1,u.cell h2,u.cell h3,u.cell h4,u.cell h5⟩
def fitOf (k:Int) (sh:List UInt8):Option ByteArray:=if sh=[110,61,116]/\k=61 then some kEq else if sh=[110,58,116,61,101] then some qH else none
def zFe:List UInt8:=[110,78,108,76,99,116,101,109,115,61,58,40,41,84]
structure zKs (r:Rw8):Prop where
 fit:r.fit=fitOf r.k r.sh
 let8:∀c∈r.sh,c∈zFe
 len:r.sh.length<=10
 lo:0<=r.k
 hi:r.k<=100
theorem zFf:∀r∈specR,zKs r:=by
 intro r hr;simp only[specR,List.mem_cons,List.mem_nil_iff,or_false] at hr
 rcases hr with rfl | rfl | rfl | rfl | rfl | rfl | rfl<;>exact⟨by decide,by decide,by decide,by decide,by decide⟩
theorem zTw:∀r∈declR,zKs r:=by
 intro r hr;simp only[declR,List.mem_cons,List.mem_nil_iff,or_false] at hr
 rcases hr with rfl | rfl | rfl | rfl | rfl | rfl | rfl | rfl | rfl<;>exact⟨by decide,by decide,by decide,by decide,by decide⟩
theorem zFg (l:List Te) (i:Nat) (r:Rw8) (hr:zKs r) (g:Option Addr) (hl:l.length<=1000000) (hi:i<=l.length) (w:World) (v:Value) (hv:Tke w v l) :
  Calls Tryz.prog 88 #[v,.int .i64 (i:Int),.agg #[.slice g 1 1,.int .i64 r.k,.string ⟨r.sh.toArray⟩]] w (BoU (fitS l r i) w):=by
 have hw1:IntKind.i64.wrap ((i:Int)+1)=((i+1:Nat):Int):=by rw[IntKind.wrap_i64]<;>omega
 have cK:=fun(x:ByteArray) (W:World) (u:Up w W)=>kZ (tks l) ((i+1:Nat):Int) x W v (hv.up u).tkm
 have hz:∀x,keyZ (tks l) ((i+1:Nat):Int) x=key (tks l) (i+1) x:=fun x=>yN _ _ _
 have CK:=Lib.hid cK;have HF:=hr.fit;have s3:∀s:List UInt8,(r.sh==s)=decide (r.sh=s):=fun s=>by by_cases h:r.sh=s<;>simp[h]
 have u0:=(Up.refl w).alloc (.cells #[.slice g 1 1,.int .i64 r.k,.string ⟨r.sh.toArray⟩] 82);have c1:=CK.out kEq _ u0;have c2:=CK.out qH _ u0;rw[hz] at c1 c2;have U0:=Lib.hid u0;clear cK hv hr u0;have nx:¬([110,61,116]:List UInt8)=[110,58,116,61,101]:=by decide
 have HE:fitS l r i=match fitOf r.k r.sh with
  | none=>true
  | some x=>key (tks l) (i+1) x:=by unfold fitS;rw[HF];cases fitOf r.k r.sh<;>rfl
 have t1:=s3 [110,61,116];have t3:=s3 [110,58,116,61,101];clear HF s3
 by_cases h1:r.sh=[110,61,116]
 ·rw[decide_eq_true h1] at t1
  rw[show decide (r.sh=[110,58,116,61,101])=false from decide_eq_false fun e=>nx (h1.symm.trans e)] at t3
  by_cases hk:r.k=61
  ·rw[show fitOf r.k r.sh=some kEq from if_pos ⟨h1,hk⟩] at HE
   have t2:(r.k==61)=true:=by rw[hk];rfl
   clear hk h1 c2
   go_enter Tryz.func88,Tryz.ntmps88
   go_wp2_with fail;refine c1.mono ?_;rintro en w1 ⟨rfl,u1⟩;go_wp2_with fail
   go_ret
   exact⟨by rw[HE];rfl,U0.out.trans u1⟩
  ·rw[show fitOf r.k r.sh=none from by unfold fitOf;rw[if_neg fun h=>hk h.2,if_neg fun e=>nx (h1.symm.trans e)]] at HE
   have t2:(r.k==61)=false:=by simpa using hk
   clear hk h1 c1 c2
   go_enter Tryz.func88,Tryz.ntmps88
   go_wp2_with fail
   go_ret
   exact⟨rfl,U0.out⟩
 ·rw[decide_eq_false h1] at t1
  by_cases h2:r.sh=[110,58,116,61,101]
  ·rw[show fitOf r.k r.sh=some qH from by unfold fitOf;rw[if_neg fun h=>h1 h.1,if_pos h2]] at HE
   rw[decide_eq_true h2] at t3;clear h1 h2 c1
   go_enter Tryz.func88,Tryz.ntmps88
   go_wp2_with fail;refine c2.mono ?_;rintro en w1 ⟨rfl,u1⟩;go_wp2_with fail
   go_ret
   exact⟨by rw[HE];rfl,U0.out.trans u1⟩
  ·rw[show fitOf r.k r.sh=none from by unfold fitOf;rw[if_neg fun h=>h1 h.1,if_neg h2]] at HE
   rw[decide_eq_false h2] at t3;clear h1 h2 c1 c2
   go_enter Tryz.func88,Tryz.ntmps88
   go_wp2_with fail
   go_ret
   exact⟨rfl,U0.out⟩
def wds (w:World):List Rw8->World
 | []=>w
 | r::t=>wds (w.alloc (.cells #[.string r.w] 9)) t
def cls (g:Nat):List Rw8->List Value
 | []=>[]
 | r::t=>.slice (some ⟨g,0,none⟩) 1 1 :: .int .i64 r.k :: .string ⟨r.sh.toArray⟩::cls (g+1) t
theorem uS:∀(t:List Rw8) (w:World),Up w (wds w t)
 | [],w=>Up.refl w
 | _::t,w=>((Up.refl w).alloc _).trans (uS t _)
theorem zYx:∀(t:List Rw8) (w:World),(wds w t).heap.size=w.heap.size+t.length
 | [],w=>rfl
 | _::t,w=>by
  show(wds (w.alloc _) t).heap.size=w.heap.size+(t.length+1)
  rw[zYx t]
  simp
  omega
theorem zKt:∀(t:List Rw8) (w:World) (j:Nat) (r:Rw8),t[j]? = some r->(wds w t).heap[w.heap.size+j]? = some (.cells #[.string r.w] 9 (0,0))
 | [],_,_,_,h=>by cases h
 | q::t,w,0,r,h=>by
  injection h with h;subst h;exact(uS t _).row (heap_alloc_new w _)
 | q::t,w,j+1,r,h=>by
  have h1:=zKt t (w.alloc (.cells #[.string q.w] 9)) j r h;have e:(w.alloc (.cells #[.string q.w] 9)).heap.size=w.heap.size+1:=by simp
  rw[e] at h1;rw[show w.heap.size+(j+1)=w.heap.size+1+j from by omega];exact h1
theorem zKu:∀(t:List Rw8) (g j:Nat) (r:Rw8),t[j]? = some r->(cls g t)[j*3]? = some (.slice (some ⟨g+j,0,none⟩) 1 1)/\(cls g t)[j*3+1]? = some (.int .i64 r.k)/\(cls g t)[j*3+2]? = some (.string ⟨r.sh.toArray⟩)
 | [],_,_,_,h=>by cases h
 | q::t,g,0,r,h=>by
  injection h with h;subst h;exact⟨rfl,rfl,rfl⟩
 | q::t,g,j+1,r,h=>by
  have h1:=zKu t (g+1) j r h;rw[show g+(j+1)=g+1+j from by omega,show(j+1)*3=j*3+1+1+1 from by omega];exact h1
theorem zYy (t:List Rw8) (w:World):RowsM ((wds w t).alloc (.cells (cls w.heap.size t).toArray 82)) (.slice (some ⟨w.heap.size+t.length,0,none⟩) t.length t.length) t:=by
 refine⟨_,_,rfl,fun j r hr=>?_⟩;obtain⟨h1,h2,h3⟩:=zKu t w.heap.size j r hr;have hn:=heap_alloc_new (wds w t) (.cells (cls w.heap.size t).toArray 82);rw[zYx] at hn;have c:∀k,((wds w t).alloc (.cells (cls w.heap.size t).toArray 82)).cell? ⟨w.heap.size+t.length,k,none⟩=(cls w.heap.size t)[k]?:=fun k=>by rw[cell_of_row _ _ k _ _ _ hn];simp
 refine⟨_,_,w.heap.size+j,0,rfl,?_,?_,?_,?_⟩
 ·rw[c,Nat.zero_add];exact h1
 ·rw[c,Nat.zero_add];exact h2
 ·rw[c,Nat.zero_add];exact h3
 ·exact cell_of_row _ _ 0 _ _ _ (((Up.refl _).alloc _:Up (wds w t) _).row (zKt t w j r hr))
theorem uT (w:World):Calls Tryz.prog 80 #[] w fun e w'=>∃v,e = .returned v/\RowsM w' v specR/\Up w w':=by
 go_enter Tryz.func80,Tryz.ntmps80
 go_wp2_with fail
 go_ret
 exact⟨_,rfl,zYy specR w,(uS specR w).alloc _⟩
theorem pP (w:World):Calls Tryz.prog 30 #[] w fun e w'=>∃v,e = .returned v/\RowsM w' v declR/\Up w w':=by
 go_enter Tryz.func30,Tryz.ntmps30
 go_wp2_with fail
 go_ret
 exact⟨_,rfl,zYy declR w,(uS declR w).alloc _⟩
end Go.Proofs.YtgeghilbikljcaaGreatDoor
