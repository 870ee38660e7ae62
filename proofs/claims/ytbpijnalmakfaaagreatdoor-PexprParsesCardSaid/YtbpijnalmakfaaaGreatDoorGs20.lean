/-
  The document's Is and Check: what they tell of trees.
-/
import Derived.Test.YtbpijnalmakfaaaGreatDoorGs19
set_option maxHeartbeats 40000000
set_option maxRecDepth 100000
namespace Go.Proofs.YtbpijnalmakfaaaGreatDoor
open Go.RowKit
theorem yYn:∀(L:List Rw) (i:Nat) (R:Rw) (j:Nat),L[i]? = some R→j<7→(L.flatMap rcl)[i*7+j]? = (rcl R)[j]?
 | [],_,_,_,h,_=>by simp at h
 | x::L,0,R,j,h,hj=>by
  have:x=R:=by simpa using h
  subst this;rw[List.flatMap_cons,List.getElem?_append_left (by show 0*7+j<7;omega)]
  simp
 | x::L,i+1,R,j,h,hj=>by
  rw[List.flatMap_cons,List.getElem?_append_right (by show 7≤(i+1)*7+j;omega)];have:=yYn L i R j (by simpa using h) hj;rw[←this]
  congr 1
  show(i+1)*7+j-7=_
  omega
theorem Tbl.cell {w:World} {g I:Nat} {R:Rw} (h:Tbl w g) (hR:RWS[I]? = some R) (j:Nat) (hj:j<7):w.cell? ⟨g,I*7+j,none⟩=(rcl R)[j]?:=by
 rw[←yYn RWS I R j hR hj];rw[cell_of_row w g (I*7+j) _ _ _ h]
 simp[RWC]
theorem zMr (w:World) (vs:List Value) (e:TypeId) (j:Nat) (v:Value) (hj:vs[j]? = some v):(w.alloc (.cells vs.toArray e)).cell? ⟨w.heap.size,j,none⟩=some v:=by
 rw[cell_of_row _ w.heap.size j _ _ _ (heap_alloc_new w _)]
 simpa using hj
theorem zBp (n:Nat) (hn:n≤1000000) (ih:IsAt B.nck B.long n):IsAt B.nck B.long (n+1):=by
 rintro⟨x,ks⟩ hsz ⟨ha,hm,hs⟩ c W w v hv hu;have hsz2:szT (x,ks)=1+ks.sz:=rfl;have cK:=fun(W':World) (l:List UInt8) (hl:goodW l=true) (v':Value) (w':World) (h1:HasK W' v' ks) (h2:Up W' w')=>zU9 ih hn W' l hl ks v' w' (by omega) hs h1 h2
 obtain⟨q,p,A,cp,rfl,hq,c0,c1,c2,c3,c4,hc,hkid⟩:=InT.open (x:=x) (ks:=ks) hv;have hk:HasK W (.slice A ks.len cp) ks:=⟨A,cp,rfl,hc,fun h0=>by
  obtain⟨kb,ko,hA,h1,h2⟩:=hkid h0;exact⟨kb,ko,hA,h1,h2⟩⟩
 have CK:=Lib.hid cK;have HA:=Lib.hid ha;have HM:=Lib.hid hm;have HU:=Lib.hid hu;have HK:=Lib.hid hk;obtain⟨N,hN⟩:∃N,ks.len=N:=⟨_,rfl⟩;rw[hN] at c4 hk;have HK:=Lib.hid hk;have C0:=Lib.hid c0;have C1:=Lib.hid c1;have C2:=Lib.hid c2;have C3:=Lib.hid c3;have C4:=Lib.hid c4;clear cK ha hm hu hk hv hsz hsz2 hkid hc hs hq ih c0 c1 c2 c3 c4 hN
 go_enter Tryz.func81,Tryz.ntmps81
 go_wp2_with fail;refine(zHr _).mono ?_;rintro e w1 ⟨g,rfl,hg,htb,hb1⟩;have HU1:=Lib.hid (HU.out.of hb1);have HT:=Lib.hid htb;clear hb1 htb hg;go_wp2_with fail
 go_loopw [6,7] (fun i _ wr=>∃I:Nat,i = .int .i64 I∧I≤47∧(∀(j:Nat) R,j<I→RWS[j]? = some R→fitR B.nck B.long x (infF B.nck B.long ks) c R=false)∧Up w1 wr) (fun i _ _=>47-(intOf i).toNat)
 case atStart=>exact⟨0,rfl,by omega,fun j x hj=>absurd hj (Nat.not_lt_zero _),Up.refl _⟩
 case round=>
  obtain⟨I,rfl,hI,hall,hur⟩:=hrel;have HALL:=Lib.hid hall;have HUR:=Lib.hid hur;clear hall hur
  by_cases hlt:I<47
  ·have hiz:(I:Int)<47:=by omega
   obtain⟨R,hR⟩:∃R,RWS[I]? = some R:=⟨_,List.getElem?_eq_getElem (by rw[zU4];exact hlt)⟩;obtain⟨hgw,hkl,hnm,hmr⟩:=zMj R (List.mem_of_getElem? hR);have tb:=HUR.out.row HT.out;have r0:=Tbl.cell tb hR 0 (by omega);have r1:=Tbl.cell tb hR 1 (by omega);have r2:=Tbl.cell tb hR 2 (by omega);have r3:=Tbl.cell tb hR 3 (by omega);have r4:=Tbl.cell tb hR 4 (by omega);have r5:=Tbl.cell tb hR 5 (by omega);have r6:=Tbl.cell tb hR 6 (by omega);have HRI:=Lib.hid hR;clear hR tb;obtain⟨rc,rk,rn,rm,rf,rt,rs⟩:=R;simp only[rcl,List.getElem?_cons_zero,List.getElem?_cons_succ,Nat.add_zero] at r0 r1 r2 r3 r4 r5 r6;have HNX:Hid (fitR B.nck B.long x (infF B.nck B.long ks) c ⟨rc,rk,rn,rm,rf,rt,rs⟩=false→∀(j:Nat) R,j<I+1→RWS[j]? = some R→fitR B.nck B.long x (infF B.nck B.long ks) c R=false):=Lib.hid fun h j R hj hR=>by
    by_cases e:j=I
    ·subst e
     rw[HRI.out] at hR;injection hR with hR;rw[←hR];exact h
    ·exact HALL.out j R (by omega) hR
   have hw1:=fun W'=>fY x.a rn hnm W' HA.out
   have hw2:=fun W'=>fY x.m rm hmr W' HM.out
   have hfit:fitR B.nck B.long x (infF B.nck B.long ks) c ⟨rc,rk,rn,rm,rf,rt,rs⟩=(decide (rc=c)&&decide (rk=x.k)&&wordR B.nck B.long x.a rn&&wordR B.nck B.long x.m rm&&decide (rf≤x.n)&&decide (x.n≤rt)&&seqOk (infF B.nck B.long ks) rs):=rfl;obtain⟨F,hF⟩:∃F,fitR B.nck B.long x (infF B.nck B.long ks) c ⟨rc,rk,rn,rm,rf,rt,rs⟩=F:=⟨_,rfl⟩;have UW2:Hid (Up w1 (wr.alloc (.cells [Value.int .i64 rc,.int .i64 rk,.string (byt rn),.string (byt rm),.int .i64 rf,.int .i64 rt,.string (byt rs)].toArray 172))):=Lib.hid (HUR.out.alloc _);have rcell:=zMr wr [Value.int .i64 rc,.int .i64 rk,.string (byt rn),.string (byt rm),.int .i64 rf,.int .i64 rt,.string (byt rs)] 172;obtain⟨W2,hW2⟩:∃W2,wr.alloc (.cells [Value.int .i64 rc,.int .i64 rk,.string (byt rn),.string (byt rm),.int .i64 rf,.int .i64 rt,.string (byt rs)].toArray 172)=W2:=⟨_,rfl⟩;rw[hW2] at UW2 rcell;have HKK:=Lib.hid fun w' (h:Up W2 w')=>CK.out W2 rs hgw _ w' (HK.out.up (HU1.out.trans UW2.out)) h
   rw[hF] at hfit;obtain⟨b1,hb1⟩:∃b,wordR B.nck B.long x.a rn=b:=⟨_,rfl⟩;obtain⟨b2,hb2⟩:∃b,wordR B.nck B.long x.m rm=b:=⟨_,rfl⟩;obtain⟨b3,hb3⟩:∃b,seqOk (infF B.nck B.long ks) rs=b:=⟨_,rfl⟩;rw[hb1] at hw1 hfit;rw[hb2] at hw2 hfit;rw[hb3] at HKK hfit;have HW1:=Lib.hid hw1;have HW2:=Lib.hid hw2;obtain⟨Q,hQ⟩:∃Q,wr.heap.size=Q:=⟨_,rfl⟩;rw[hQ] at rcell;have s0:∀u:Upw W2,u.w.cell? ⟨Q,0,none⟩=some (.int .i64 rc):=fun u=>u.cell (rcell 0 _ rfl)
   have s1:∀u:Upw W2,u.w.cell? ⟨Q,1,none⟩=some (.int .i64 rk):=fun u=>u.cell (rcell 1 _ rfl)
   have s2:∀u:Upw W2,u.w.cell? ⟨Q,2,none⟩=some (.string (byt rn)):=fun u=>u.cell (rcell 2 _ rfl)
   have s3:∀u:Upw W2,u.w.cell? ⟨Q,3,none⟩=some (.string (byt rm)):=fun u=>u.cell (rcell 3 _ rfl)
   have s4:∀u:Upw W2,u.w.cell? ⟨Q,4,none⟩=some (.int .i64 rf):=fun u=>u.cell (rcell 4 _ rfl)
   have s5:∀u:Upw W2,u.w.cell? ⟨Q,5,none⟩=some (.int .i64 rt):=fun u=>u.cell (rcell 5 _ rfl)
   have s6:∀u:Upw W2,u.w.cell? ⟨Q,6,none⟩=some (.string (byt rs)):=fun u=>u.cell (rcell 6 _ rfl)
   have UU:=Lib.hid (HU1.out.trans UW2.out);have n0:∀u:Upw W2,u.w.cell? ⟨q,p,none⟩=some (.int .i64 x.k):=fun u=>u.cell (UU.out.cell C0.out)
   have n1:∀u:Upw W2,u.w.cell? ⟨q,p+1,none⟩=some (.int .i64 x.n):=fun u=>u.cell (UU.out.cell C1.out)
   have n2:∀u:Upw W2,u.w.cell? ⟨q,p+2,none⟩=some (.string x.a):=fun u=>u.cell (UU.out.cell C2.out)
   have n3:∀u:Upw W2,u.w.cell? ⟨q,p+3,none⟩=some (.string x.m):=fun u=>u.cell (UU.out.cell C3.out)
   have n4:∀u:Upw W2,u.w.cell? ⟨q,p+4,none⟩=some (.slice A N cp):=fun u=>u.cell (UU.out.cell C4.out)
   have hcase:((rc==c)=false∧F=false)∨((rc==c)=true∧(rk==x.k)=false∧F=false)∨((rc==c)=true∧(rk==x.k)=true∧b1=false∧F=false)∨((rc==c)=true∧(rk==x.k)=true∧b1=true∧b2=false∧F=false)∨
     ((rc==c)=true∧(rk==x.k)=true∧b1=true∧b2=true∧decide (rf≤x.n)=false∧F=false)∨((rc==c)=true∧(rk==x.k)=true∧b1=true∧b2=true∧decide (rf≤x.n)=true∧decide (x.n≤rt)=false∧F=false)∨
     ((rc==c)=true∧(rk==x.k)=true∧b1=true∧b2=true∧decide (rf≤x.n)=true∧decide (x.n≤rt)=true∧b3=F):=by
    have e1:(rc==c)=decide (rc=c):=rfl;have e2:(rk==x.k)=decide (rk=x.k):=rfl;rw[e1,e2,hfit]
    cases decide (rc=c)<;>cases decide (rk=x.k)<;>cases b1<;>cases b2<;>cases decide (rf≤x.n)<;>cases decide (x.n≤rt)<;>simp
   have HB:=Lib.hid (⟨hb1,hb2,hb3⟩:_∧_∧_);clear rcell hb1 hb2 hb3 hfit hw1 hw2 hnm hmr hgw
   rcases hcase with ⟨d1,rfl⟩ | ⟨d1,d2,rfl⟩ | ⟨d1,d2,rfl,rfl⟩ | ⟨d1,d2,rfl,rfl,rfl⟩ | ⟨d1,d2,rfl,rfl,d3,rfl⟩ | ⟨d1,d2,rfl,rfl,d3,d4,rfl⟩ | ⟨d1,d2,rfl,rfl,d3,d4,rfl⟩
   ·have HFF:=Lib.hid hF
    clear hF;go_wp2_with fail;refine qE (W:=W2) (Up.refl _) (by kernel_rfl) (by kernel_rfl) ?_
    repeat (go_big_quiet_step (first
      | (go_at_call_of 144 (Value.string x.a);exact Calls.upw ((HW1.out _).mono fun _ _ h=>⟨h.1,(by assumption:Upw W2).h.of h.2⟩))
      | (go_at_call_of 144 (Value.string x.m);exact Calls.upw ((HW2.out _).mono fun _ _ h=>⟨h.1,(by assumption:Upw W2).h.of h.2⟩))
      | (go_at_call 145;exact Calls.upw (HKK.out _ (by assumption:Upw W2).h))))
    refine wpQuiet_nil ?_;rintro _ ⟨⟨w9,u9⟩,rfl⟩;go_wp2_with fail
    go_roundw
    case rel=>exact⟨I+1,by go_num,by omega,HNX.out HFF.out,UW2.out.trans u9⟩
    case measure=>simp[intOf];omega
   ·have HFF:=Lib.hid hF
    clear hF;go_wp2_with fail;refine qE (W:=W2) (Up.refl _) (by kernel_rfl) (by kernel_rfl) ?_
    repeat (go_big_quiet_step (first
      | (go_at_call_of 144 (Value.string x.a);exact Calls.upw ((HW1.out _).mono fun _ _ h=>⟨h.1,(by assumption:Upw W2).h.of h.2⟩))
      | (go_at_call_of 144 (Value.string x.m);exact Calls.upw ((HW2.out _).mono fun _ _ h=>⟨h.1,(by assumption:Upw W2).h.of h.2⟩))
      | (go_at_call 145;exact Calls.upw (HKK.out _ (by assumption:Upw W2).h))))
    refine wpQuiet_nil ?_;rintro _ ⟨⟨w9,u9⟩,rfl⟩;go_wp2_with fail
    go_roundw
    case rel=>exact⟨I+1,by go_num,by omega,HNX.out HFF.out,UW2.out.trans u9⟩
    case measure=>simp[intOf];omega
   ·have HFF:=Lib.hid hF
    clear hF;go_wp2_with fail;refine qE (W:=W2) (Up.refl _) (by kernel_rfl) (by kernel_rfl) ?_
    repeat (go_big_quiet_step (first
      | (go_at_call_of 144 (Value.string x.a);exact Calls.upw ((HW1.out _).mono fun _ _ h=>⟨h.1,(by assumption:Upw W2).h.of h.2⟩))
      | (go_at_call_of 144 (Value.string x.m);exact Calls.upw ((HW2.out _).mono fun _ _ h=>⟨h.1,(by assumption:Upw W2).h.of h.2⟩))
      | (go_at_call 145;exact Calls.upw (HKK.out _ (by assumption:Upw W2).h))))
    refine wpQuiet_nil ?_;rintro _ ⟨⟨w9,u9⟩,rfl⟩;go_wp2_with fail
    go_roundw
    case rel=>exact⟨I+1,by go_num,by omega,HNX.out HFF.out,UW2.out.trans u9⟩
    case measure=>simp[intOf];omega
   ·have HFF:=Lib.hid hF
    clear hF;go_wp2_with fail;refine qE (W:=W2) (Up.refl _) (by kernel_rfl) (by kernel_rfl) ?_
    repeat (go_big_quiet_step (first
      | (go_at_call_of 144 (Value.string x.a);exact Calls.upw ((HW1.out _).mono fun _ _ h=>⟨h.1,(by assumption:Upw W2).h.of h.2⟩))
      | (go_at_call_of 144 (Value.string x.m);exact Calls.upw ((HW2.out _).mono fun _ _ h=>⟨h.1,(by assumption:Upw W2).h.of h.2⟩))
      | (go_at_call 145;exact Calls.upw (HKK.out _ (by assumption:Upw W2).h))))
    refine wpQuiet_nil ?_;rintro _ ⟨⟨w9,u9⟩,rfl⟩;go_wp2_with fail
    go_roundw
    case rel=>exact⟨I+1,by go_num,by omega,HNX.out HFF.out,UW2.out.trans u9⟩
    case measure=>simp[intOf];omega
   ·have HFF:=Lib.hid hF
    clear hF;go_wp2_with fail;refine qE (W:=W2) (Up.refl _) (by kernel_rfl) (by kernel_rfl) ?_
    repeat (go_big_quiet_step (first
      | (go_at_call_of 144 (Value.string x.a);exact Calls.upw ((HW1.out _).mono fun _ _ h=>⟨h.1,(by assumption:Upw W2).h.of h.2⟩))
      | (go_at_call_of 144 (Value.string x.m);exact Calls.upw ((HW2.out _).mono fun _ _ h=>⟨h.1,(by assumption:Upw W2).h.of h.2⟩))
      | (go_at_call 145;exact Calls.upw (HKK.out _ (by assumption:Upw W2).h))))
    refine wpQuiet_nil ?_;rintro _ ⟨⟨w9,u9⟩,rfl⟩;go_wp2_with fail
    go_roundw
    case rel=>exact⟨I+1,by go_num,by omega,HNX.out HFF.out,UW2.out.trans u9⟩
    case measure=>simp[intOf];omega
   ·have HFF:=Lib.hid hF
    clear hF;go_wp2_with fail;refine qE (W:=W2) (Up.refl _) (by kernel_rfl) (by kernel_rfl) ?_
    repeat (go_big_quiet_step (first
      | (go_at_call_of 144 (Value.string x.a);exact Calls.upw ((HW1.out _).mono fun _ _ h=>⟨h.1,(by assumption:Upw W2).h.of h.2⟩))
      | (go_at_call_of 144 (Value.string x.m);exact Calls.upw ((HW2.out _).mono fun _ _ h=>⟨h.1,(by assumption:Upw W2).h.of h.2⟩))
      | (go_at_call 145;exact Calls.upw (HKK.out _ (by assumption:Upw W2).h))))
    refine wpQuiet_nil ?_;rintro _ ⟨⟨w9,u9⟩,rfl⟩;go_wp2_with fail
    go_roundw
    case rel=>exact⟨I+1,by go_num,by omega,HNX.out HFF.out,UW2.out.trans u9⟩
    case measure=>simp[intOf];omega
   ·cases b3 with
    | false=>
     have HFF:=Lib.hid hF;clear hF;go_wp2_with fail;refine qE (W:=W2) (Up.refl _) (by kernel_rfl) (by kernel_rfl) ?_
     repeat (go_big_quiet_step (first
       | (go_at_call_of 144 (Value.string x.a);exact Calls.upw ((HW1.out _).mono fun _ _ h=>⟨h.1,(by assumption:Upw W2).h.of h.2⟩))
       | (go_at_call_of 144 (Value.string x.m);exact Calls.upw ((HW2.out _).mono fun _ _ h=>⟨h.1,(by assumption:Upw W2).h.of h.2⟩))
       | (go_at_call 145;exact Calls.upw (HKK.out _ (by assumption:Upw W2).h))))
     refine wpQuiet_nil ?_;rintro _ ⟨⟨w9,u9⟩,rfl⟩;go_wp2_with fail
     go_roundw
     case rel=>exact⟨I+1,by go_num,by omega,HNX.out HFF.out,UW2.out.trans u9⟩
     case measure=>simp[intOf];omega
    | true=>
     have HE:Hid (isT B.nck B.long (x,ks) c=true):=Lib.hid (zC.2 ⟨_,List.mem_of_getElem? HRI.out,hF⟩);clear hF;go_wp2_with fail;refine qE (W:=W2) (Up.refl _) (by kernel_rfl) (by kernel_rfl) ?_
     repeat (go_big_quiet_step (first
       | (go_at_call_of 144 (Value.string x.a);exact Calls.upw ((HW1.out _).mono fun _ _ h=>⟨h.1,(by assumption:Upw W2).h.of h.2⟩))
       | (go_at_call_of 144 (Value.string x.m);exact Calls.upw ((HW2.out _).mono fun _ _ h=>⟨h.1,(by assumption:Upw W2).h.of h.2⟩))
       | (go_at_call 145;exact Calls.upw (HKK.out _ (by assumption:Upw W2).h))))
     refine wpQuiet_nil ?_;rintro _ ⟨⟨w9,u9⟩,rfl⟩;go_wp2_with fail
     go_ret
     exact qU HE.out (UU.out.trans u9)
  ·have hI47:I=47:=by omega
   have hiz:¬(I:Int)<47:=by omega
   have HE:Hid (isT B.nck B.long (x,ks) c=false):=Lib.hid (by
    cases h:isT B.nck B.long (x,ks) c with
    | false=>rfl
    | true=>
     obtain⟨R,hR,hf⟩:=zC.1 h;obtain⟨j,hj⟩:=List.getElem?_of_mem hR;have:=(List.getElem?_eq_some_iff.1 hj).1;rw[zU4] at this;rw[HALL.out j R (by omega) hj] at hf
     cases hf)
   go_wp2_with fail
   go_ret
   exact qU HE.out (HU1.out.trans HUR.out)
theorem Sp.slice {w:World} {B:Nat} {v:Value} {l:List Int} (h:Sp w B v l):∃A c,v = .slice A l.length c:=by
 obtain⟨A,c,hv,_⟩:=h;exact⟨A,c,hv⟩
def So (H:Nat) (w:World) (v:Value) (q:Nat):Prop:=H≤q∧q<w.heap.size∧v.ownBlock≠some q
theorem infoI:(Tryz.prog.info? 3).map (fun i=>(i.zero,i.size,i.bytes))=some (some (.int .i64 0),1,8):=by kernel_rfl
def ints (l:List Int):List Value:=l.map fun u=>.int .i64 u
def SpS (w:World) (S:Nat→Prop) (v:Value) (l:List Int):Prop:=
 ∃A c,v = .slice A l.length c∧l.length≤c∧∀(j:Nat) (u:Int),l[j]? = some u→∃b o,A=some ⟨b,o,none⟩∧S b∧w.cell? ⟨b,o+j,none⟩=some (.int .i64 u)
theorem SpS.keep {w w':World} {S S':Nat→Prop} {v:Value} {l:List Int} (h:SpS w S v l) (hS:∀q,S q→S' q) (hk:∀b,S b→w'.heap[b]? = w.heap[b]?):SpS w' S' v l:=by
 obtain⟨A,c,hv,hc,hl⟩:=h;refine⟨A,c,hv,hc,fun j u hu=>?_⟩;obtain⟨b,o,hA,hb,hcell⟩:=hl j u hu;exact⟨b,o,hA,hS b hb,(World.cell?_of_block (w:=w) (hk b hb)).trans hcell⟩
theorem SpS.sp {w:World} {S:Nat→Prop} {B:Nat} {v:Value} {l:List Int} (h:SpS w S v l) (hB:Bel S B):Sp w B v l:=by
 obtain⟨A,c,hv,hc,hl⟩:=h;refine⟨A,c,hv,hc,fun j u hu=>?_⟩;obtain⟨b,o,hA,hb,hcell⟩:=hl j u hu;exact⟨b,o,hA,hB b hb,hcell⟩
theorem SpS.one {w:World} {S:Nat→Prop} {v:Value} {l:List Int} (h:SpS w S v l):v.oneCell'=true:=by
 obtain⟨A,c,rfl,_⟩:=h
 rfl
theorem zBq {l:List Int} {j:Nat} {u:Int} (h:l[j]? = some u):(ints l)[j]? = some (.int .i64 u):=by
 unfold ints;rw[List.getElem?_map,h]
 rfl
theorem SpS.own {w:World} {S:Nat→Prop} {B:Nat} {v:Value} {l:List Int} {e:TypeId} (h:w.ownsRow B e 1 v l.length (ints l)) (hS:∀g,v.ownBlock=some g→S g):SpS w S v l:=by
 rcases h.2 with ⟨rfl,h0⟩ | ⟨g,cap,cur,rfl,_,_,hc,_⟩
 ·have:l=[]:=List.length_eq_zero_iff.1 h0
  subst this;exact⟨none,0,rfl,Nat.le_refl _,fun j u hu=>by simp at hu⟩
 ·refine⟨_,cap,rfl,hc,fun j u hu=>⟨g,0,rfl,hS g rfl,?_⟩⟩
  have h1:=h.cells (g:=g) rfl j _ (zBq hu);have e1:(⟨g,0,none⟩:Addr).add j=⟨g,0+j,none⟩:=by unfold Addr.add;split<;>simp_all
  rwa [e1] at h1
def flat:List Cel→List Value→List Value
 | [],_=>[]
 | _::_,[]=>[]
 | c::cs,kv::vs=>.int .i64 c.x.k :: .int .i64 c.x.n :: .string c.x.a :: .string c.x.m::kv::flat cs vs
def CsF (w:World) (S:Nat→Prop):List Value→List Cel→Prop
 | [],[]=>True
 | kv::vs,c::cs=>SpS w S kv c.ks∧CsF w S vs cs
 | _,_=>False
theorem CsF.len {w:World} {S:Nat→Prop}:∀{vs:List Value} {cs:List Cel},CsF w S vs cs→vs.length=cs.length
 | [],[],_=>rfl
 | [],_::_,h=>h.elim
 | _::_,[],h=>h.elim
 | _::vs,_::cs,h=>by simp only[List.length_cons,CsF.len (vs:=vs) (cs:=cs) h.2]
theorem CsF.keep {w w':World} {S S':Nat→Prop} (hS:∀q,S q→S' q) (hk:∀b,S b→w'.heap[b]? = w.heap[b]?):∀{vs:List Value} {cs:List Cel},CsF w S vs cs→CsF w' S' vs cs
 | [],[],_=>trivial
 | [],_::_,h=>h.elim
 | _::_,[],h=>h.elim
 | _::vs,_::cs,h=>⟨h.1.keep hS hk,CsF.keep hS hk (vs:=vs) (cs:=cs) h.2⟩
theorem CsF.app {w:World} {S:Nat→Prop}:∀{vs us:List Value} {cs ds:List Cel},CsF w S vs cs→CsF w S us ds→CsF w S (vs++us) (cs++ds)
 | [],_,[],_,_,h=>h
 | [],_,_::_,_,h,_=>h.elim
 | _::_,_,[],_,h,_=>h.elim
 | _::vs,_,_::cs,_,h,h'=>⟨h.1,CsF.app (vs:=vs) (cs:=cs) h.2 h'⟩
theorem nK:∀{cs:List Cel} {vs:List Value} (ds:List Cel) (us:List Value),vs.length=cs.length→flat (cs++ds) (vs++us)=flat cs vs++flat ds us
 | [],[],_,_,_=>rfl
 | [],_::_,_,_,h=>by simp at h
 | _::_,[],_,_,h=>by simp at h
 | c::cs,v::vs,ds,us,h=>by
  simp only[List.cons_append,flat,nK (cs:=cs) (vs:=vs) ds us (by simpa using h)]
theorem zUa:∀{cs:List Cel} {vs:List Value},vs.length=cs.length→(flat cs vs).length=cs.length*5
 | [],_,_=>rfl
 | _::_,[],h=>by simp at h
 | c::cs,v::vs,h=>by simp only[flat,List.length_cons,zUa (cs:=cs) (vs:=vs) (by simpa using h)];omega
theorem CsF.one {w:World} {S:Nat→Prop}:∀{vs:List Value} {cs:List Cel},CsF w S vs cs→∀u∈flat cs vs,u.oneCell'=true
 | [],[],_,u,hu=>by cases hu
 | [],_::_,h,_,_=>h.elim
 | _::_,[],h,_,_=>h.elim
 | v::vs,c::cs,h,u,hu=>by
  unfold flat at hu;simp only[List.mem_cons] at hu
  rcases hu with rfl | rfl | rfl | rfl | rfl | hu
  ·rfl
  ·rfl
  ·rfl
  ·rfl
  ·exact h.1.one
  ·exact CsF.one (vs:=vs) (cs:=cs) h.2 u hu
theorem CsF.at {w:World} {S:Nat→Prop}:∀{vs:List Value} {cs:List Cel} {j:Nat} {c:Cel},CsF w S vs cs→cs[j]? = some c→∃kv,SpS w S kv c.ks∧(flat cs vs)[j*5]? = some (.int .i64 c.x.k)∧(flat cs vs)[j*5+1]? = some (.int .i64 c.x.n)∧(flat cs vs)[j*5+2]? = some (.string c.x.a)∧
  (flat cs vs)[j*5+3]? = some (.string c.x.m)∧(flat cs vs)[j*5+4]? = some kv
 | [],[],_,_,_,h=>by simp at h
 | [],_::_,_,_,h,_=>h.elim
 | _::_,[],_,_,h,_=>h.elim
 | v::vs,c'::cs,0,c,h,hc=>by
  simp at hc
  subst hc;exact⟨v,h.1,rfl,rfl,rfl,rfl,rfl⟩
 | v::vs,c'::cs,j+1,c,h,hc=>by
  obtain⟨kv,h0,h1,h2,h3,h4,h5⟩:=CsF.at (vs:=vs) (cs:=cs) (j:=j) (c:=c) h.2 (by simpa using hc);have e:∀i,(flat (c'::cs) (v::vs))[(j+1)*5+i]? = (flat cs vs)[j*5+i]?:=by
   intro i;rw[show(j+1)*5+i=(j*5+i)+1+1+1+1+1 by omega];simp only[flat,List.getElem?_cons_succ]
  exact⟨kv,h0,(e 0).trans h1,(e 1).trans h2,(e 2).trans h3,(e 3).trans h4,(e 4).trans h5⟩
def OwnC (w:World) (H:Nat) (v:Value) (cs:List Cel):Prop:=∃vs,w.ownsRow H 78 5 v cs.length (flat cs vs)∧CsF w (So H w v) vs cs
theorem OwnC.cls {w:World} {H:Nat} {v:Value} {cs:List Cel} (h:OwnC w H v cs):Cls w w.heap.size v cs:=by
 obtain⟨vs,ho,hf⟩:=h
 rcases ho.2 with ⟨rfl,h0⟩ | ⟨g,cap,cur,rfl,_,hh,hc,_⟩
 ·have:cs=[]:=List.length_eq_zero_iff.1 h0
  subst this;exact⟨none,0,rfl,Nat.le_refl _,fun j u hu=>by simp at hu⟩
 ·refine⟨_,cap,rfl,hc,fun j u hu=>⟨g,0,rfl,qC hh,?_⟩⟩
  obtain⟨kv,h0,h1,h2,h3,h4,h5⟩:=hf.at hu;have hcell:∀i u,(flat cs vs)[i]? = some u→w.cell? ⟨g,i,none⟩=some u:=fun i u hu=>by
   have h1:=ho.cells (g:=g) rfl i u hu;have e1:(⟨g,0,none⟩:Addr).add i=⟨g,i,none⟩:=by unfold Addr.add;split<;>simp_all
   rwa [e1] at h1
  rw[Nat.zero_add];exact⟨hcell _ _ h1,hcell _ _ h2,hcell _ _ h3,hcell _ _ h4,kv,hcell _ _ h5,h0.sp fun q hq=>hq.2.1⟩
theorem aR:(Tryz.prog.info? 78).map (fun i=>(i.zero,i.size,i.bytes))=some (some (.agg #[.int .i64 0,.int .i64 0,.string ⟨#[]⟩,.string ⟨#[]⟩,.slice none 0 0]),5,72):=by kernel_rfl
def yW7 (cs:List Cel) (W:World) (e:Ending) (w':World):Prop:=∃v,e = .returned v∧OwnC w' W.heap.size v cs∧Below W.heap.size W w'
def Sx (H:Nat) (w:World) (vo vk:Value) (q:Nat):Prop:=H<q∧q<w.heap.size∧vo.ownBlock≠some q∧vk.ownBlock≠some q
def CeRel (w:World) (H:Nat) (x:Nod) (vo vk:Value) (cs:List Cel) (rs:List Int) (wr:World):Prop:=
 ∃vs,wr.ownsRow (H+1) 78 5 vo cs.length (flat cs vs)∧CsF wr (Sx H wr vo vk) vs cs∧wr.ownsRow (H+1) 3 1 vk rs.length (ints rs)∧
  wr.heap[H]? = some (.cells #[.int .i64 x.k,.int .i64 x.n,.string x.a,.string x.m,vk] 78 (0,0))∧Below H w wr∧(∀g,vo.ownBlock=some g→vk.ownBlock≠some g)
theorem zZk (l:List Int) (z:Int):ints (l++[z])=ints l++[.int .i64 z]:=by simp[ints]
theorem CeRel.step {w wr w2 w4 w6:World} {H m cap2 g2:Nat} {x:Nod} {vo vk v4 v6:Value} {cs ds:List Cel} {rs:List Int} {z:Int} {vs vs2:List Value} {ob:Obj}
  (ho:wr.ownsRow (H+1) 78 5 vo cs.length (flat cs vs)) (hf:CsF wr (Sx H wr vo vk) vs cs) (hk:wr.ownsRow (H+1) 3 1 vk rs.length (ints rs))
  (hc:wr.heap[H]? = some (.cells #[.int .i64 x.k,.int .i64 x.n,.string x.a,.string x.m,vk] 78 (0,0))) (hbw:Below H w wr) (hap:∀g,vo.ownBlock=some g→vk.ownBlock≠some g)
  (hb2:Below wr.heap.size wr w2) (hf2:CsF w2 (So wr.heap.size w2 (.slice (some ⟨g2,0,none⟩) m cap2)) vs2 ds)
  (ho4:w4.ownsRow (H+1) 78 5 v4 (cs.length+ds.length) (flat cs vs++flat ds vs2)) (hg4:w2.grownBy w4 vo.ownBlock) (hat4:v4.ownBlock=vo.ownBlock∨v4.ownBlock=some w2.heap.size)
  (ho6:w6.ownsRow (H+1) 3 1 v6 (rs.length+1) (ints rs++[.int .i64 z])) (hg6:(w4.alloc ob).grownBy w6 vk.ownBlock) (hat6:v6.ownBlock=vk.ownBlock∨v6.ownBlock=some (w4.heap.size+1)) :
  CeRel w H x v4 v6 (cs++ds) (rs++[z]) (w6.setCell ⟨H,4,none⟩ v6):=by
 have hHr:=qC hc;have hs2:=hb2.size;have hs4:=hg4.size;have hsa:(w4.alloc ob).heap.size=w4.heap.size+1:=by simp
 have hs6:=hg6.size;have hsz7:(w6.setCell ⟨H,4,none⟩ v6).heap.size=w6.heap.size:=by simp[World.setCell]
 have hol:=ho.lt;have hkl:=hk.lt;have h4l:=ho4.lt;have h6l:=ho6.lt;have hst:∀b,b<w2.heap.size→b≠H→vo.ownBlock≠some b→vk.ownBlock≠some b→(w6.setCell ⟨H,4,none⟩ v6).heap[b]? = w2.heap[b]?:=by
  intro b h1 h2 h3 h4;rw[Below.heap_setCell _ _ _ _ h2,hg6.block b (by omega) (fun e=>h4 e.symm),Below.heap_alloc _ _ _ (by omega),hg4.block b h1 (fun e=>h3 e.symm)]
 have hS:∀q,H<q→q<w2.heap.size→vo.ownBlock≠some q→vk.ownBlock≠some q→Sx H (w6.setCell ⟨H,4,none⟩ v6) v4 v6 q:=by
  intro q h1 h2 h3 h4;refine⟨h1,by omega,?_,?_⟩
  ·rcases hat4 with h | h
   ·rw[h];exact h3
   ·rw[h];intro e;injection e with e;omega
  ·rcases hat6 with h | h
   ·rw[h];exact h4
   ·rw[h];intro e;injection e with e;omega
 have hap4:∀g,v4.ownBlock=some g→vk.ownBlock≠some g:=by
  intro g hg
  rcases hat4 with h | h
  ·exact hap g (by rw[←h];exact hg)
  ·rw[h] at hg
   injection hg with hg;intro e;have:=(hkl g e).2;omega
 refine⟨vs++vs2,?_,?_,?_,?_,?_,?_⟩
 ·rw[List.length_append,nK ds vs2 hf.len]
  have h1:w6.ownsRow (H+1) 78 5 v4 (cs.length+ds.length) (flat cs vs++flat ds vs2):=(ho4.alloc ob).kept hg6 (by
   cases hv:v4.ownBlock with
   | none=>exact .inl rfl
   | some g=>exact .inr fun e=>hap4 g hv e.symm)
  exact zG h1 _ _ fun g hg=>by have:=(h4l g hg).1;simp only;omega
 ·refine CsF.app (hf.keep (fun q h=>hS q h.1 (by have:=h.2.1;omega) h.2.2.1 h.2.2.2) fun b h=>?_) (hf2.keep (fun q h=>?_) fun b h=>?_)
  ·rw[hst b (by have:=h.2.1;omega) (by have:=h.1;omega) h.2.2.1 h.2.2.2]
   exact hb2.block b h.2.1
  ·exact hS q (by have:=h.1;omega) h.2.1 (fun e=>by have:=(hol q e).2;have:=h.1;omega) (fun e=>by have:=(hkl q e).2;have:=h.1;omega)
  ·exact hst b h.2.1 (by have:=h.1;omega) (fun e=>by have:=(hol b e).2;have:=h.1;omega) (fun e=>by have:=(hkl b e).2;have:=h.1;omega)
 ·rw[zZk,List.length_append]
  exact zG ho6 _ _ fun g hg=>by have:=(h6l g hg).1;simp only;omega
 ·have h1:w6.heap[H]? = some (.cells #[.int .i64 x.k,.int .i64 x.n,.string x.a,.string x.m,vk] 78 (0,0)):=by
   rw[hg6.block H (by omega) (fun e=>by have:=(hkl H e.symm).1;omega),Below.heap_alloc _ _ _ (by omega),hg4.block H (by omega) (fun e=>by have:=(hol H e.symm).1;omega),hb2.block H hHr];exact hc
  rw[yU _ h1]
  rfl
 ·have h1:=(hbw.trans (hb2.mono (by omega))).grown hg4 (by omega) (fun g hg=>by have:=(hol g hg).1;omega)
  exact((h1.alloc (by omega) ob).grown hg6 (by omega) (fun g hg=>by have:=(hkl g hg).1;omega)).setCell (Nat.le_refl _) _
 ·intro g hg e
  rcases hat6 with h | h
  ·exact hap4 g hg (by rw[←h];exact e)
  ·rw[h] at e
   injection e with e;have:=(h4l g hg).2;omega
theorem zZl (a:Fr) (y:Nod) (l:Fr) (f:Nat):celF (a.app (.cons y l .nil)) f=((celF a f).1++celT (y,l) (f+a.sz),(celF a f).2++[((f+a.sz+l.sz:Nat):Int)]):=by
 rw[zH2];have e:celF (.cons y l .nil) (f+a.sz)=(celT (y,l) (f+a.sz),[((f+a.sz+l.sz:Nat):Int)]):=by
  simp[celF,celT,(wX l (f+a.sz)).1]
 rw[e]
theorem jF {w:World} {base:Nat} {e:TypeId} {v:Value} {n:Nat} {xs:List Value} (h:w.ownsRow base e 5 v n xs):∃A c,v = .slice A n c:=by
 rcases h.2 with ⟨h1,h2⟩ | ⟨g,cap,cur,h1,_⟩
 ·exact⟨none,0,by rw[h1,h2]⟩
 ·exact⟨_,_,h1⟩
theorem zG5 {vo vk:Value} (h:∀g,vo.ownBlock=some g→vk.ownBlock≠some g):vk.ownBlock=none∨vk.ownBlock≠vo.ownBlock:=by
 cases hv:vk.ownBlock with
 | none=>exact .inl rfl
 | some g=>exact .inr fun e=>h g e.symm hv
theorem dN {w:World} {B:Nat} {a b c d v:Value} {t:TypeId} {z:Nat×Nat} (hb:w.heap[B]? = some (.cells #[a,b,c,d,v] t z)):∀j u,[a,b,c,d,v][j]? = some u→w.cell? ((⟨B,0,none⟩:Addr).add j)=some u:=fun j u hu=>by
 rw[addAt,Nat.zero_add,cell_of_row w B j _ t z hb]
 simpa using hu
theorem iY {a b:Int} {s t:ByteArray} {v:Value} (h:v.oneCell'=true):∀u∈[Value.int .i64 a,.int .i64 b,.string s,.string t,v],u.oneCell'=true:=by
 intro u hu;simp only[List.mem_cons,List.not_mem_nil,or_false] at hu
 rcases hu with rfl | rfl | rfl | rfl | rfl
 ·rfl
 ·rfl
 ·rfl
 ·rfl
 ·exact h
theorem zUb:∀(n:Nat) (t:Tr),szT t≤n→n≤100000→∀(f:Nat),f+szT t≤100000000→∀(w:World) (Sq:Nat→Prop) (v:Value),Bel Sq w.heap.size→InT w Sq v t→
  Calls Tryz.prog 142 #[v,.int .i64 (f:Int)] w (yW7 (celT t f) w)
 | 0,t,h,_,_,_,_,_,_,_,_=>absurd h (by unfold szT;omega)
 | n+1,(x,ks),hn,hbig,f,hf,w,Sq,v,hS,hin=>by
  have ih:=zUb n;obtain⟨q,p,A,c,rfl,hq1,c0,c1,c2,c3,c4,hc,hkid⟩:=hin.open;have hqw:=hS q hq1;have hsz:szT (x,ks)=1+ks.sz:=rfl;have hll:=Fr.len_le ks;obtain⟨N,hN⟩:∃N,ks.len=N:=⟨_,rfl⟩;rw[hN] at c4 hll;have hN1:N≤100000:=by omega
  obtain⟨H,hH⟩:∃H,w.heap.size=H:=⟨_,rfl⟩;have HK:=Lib.hid hkid;have HIH:=Lib.hid ih;have HB:=Lib.hid hS;have HNN:=Lib.hid hN;have HSZ:=Lib.hid hsz;have HN0:=Lib.hid hn;have HH:=Lib.hid hH;clear hkid hin ih hS hN hsz hn hH hc;obtain⟨i0,hi,hz0,hz1,hz2⟩:=info_parts aR;obtain⟨j0,hj,hy0,hy1,hy2⟩:=info_parts infoI
  go_enter Tryz.func142,Tryz.ntmps142
  go_wp2_with fail
  go_region_held3 (fun w'=>w'.cell? ⟨q,p,none⟩=some (.int .i64 x.k)∧w'.cell? ⟨q,p+1,none⟩=some (.int .i64 x.n)∧w'.cell? ⟨q,p+2,none⟩=some (.string x.a)∧w'.cell? ⟨q,p+3,none⟩=some (.string x.m)) (go_keep) (fail)
  have hb1:Below H w ((w.alloc (.cells #[.int .i64 x.k,.int .i64 x.n,.string x.a,.string x.m,.slice none 0 0] 78)).drew):=qF ((Below.refl H w).alloc (by rw[HH.out];exact Nat.le_refl _) _) 1;have hn1:((w.alloc (.cells #[.int .i64 x.k,.int .i64 x.n,.string x.a,.string x.m,.slice none 0 0] 78)).drew).heap[H]? = some (.cells #[.int .i64 x.k,.int .i64 x.n,.string x.a,.string x.m,.slice none 0 0] 78 (0,0)):=by rw[←HH.out];exact heap_alloc_new w _
  rw[HH.out]
  generalize (w.alloc (.cells #[.int .i64 x.k,.int .i64 x.n,.string x.a,.string x.m,.slice none 0 0] 78)).drew=W1 at hb1 hn1 ⊢
  have hini:CeRel w H x (.slice none 0 0) (.slice none 0 0) (celF .nil f).1 (celF .nil f).2 W1:=⟨[],World.ownsRow_nil _ _ _ _,trivial,World.ownsRow_nil _ _ _ _,hn1,hb1,by intro g hg;simp[Value.ownBlock] at hg⟩;have HINI:=Lib.hid hini;have HB1:=Lib.hid hb1;clear hini hb1 hn1 c0 c1 c2 c3;go_wp2_with fail
  go_loopw [5,7] (fun vo i wr=>∃(j:Nat) (done rest:Fr) (vk:Value),i = .int .i64 j∧j=done.len∧ks=done.app rest∧Kid wr Sq A rest j∧CeRel w H x vo vk (celF done f).1 (celF done f).2 wr) (fun _ i _=>N-(intOf i).toNat)
  case atStart=>exact⟨0,.nil,ks,.slice none 0 0,rfl,rfl,rfl,HK.out.keep (fun _ h=>h) fun b hb=>HB1.out.block b (by have:=HB.out b hb;rw[HH.out] at this;exact this),HINI.out⟩
  case round=>
   obtain⟨j,done,rest,vk,rfl,hj,hks,hkid,vs,ho,hfl,hk,hcb,hbw,hap⟩:=hrel;have hl:N=done.len+rest.len:=by rw[←HNN.out,hks,Fr.len_app]
   have hss:ks.sz=done.sz+rest.sz:=by rw[hks,Fr.sz_app]
   have hsz:=HSZ.out;have hn:=HN0.out;have hCS:=(wX done f).1;have hRS:=(wX done f).2;have hHr:=qC hcb;have c4r:=(hbw.cell (p:=⟨q,p+4,none⟩) (by rw[←HH.out];exact hqw)).trans c4;have hqr:q<wr.heap.size:=by have:=HH.out;omega
   have hbr:Bel Sq wr.heap.size:=fun q' h=>by have:=HB.out q' h;have:=HH.out;omega
   have hSH:Bel Sq H:=fun q' h=>by have:=HB.out q' h;rw[HH.out] at this;exact this
   obtain⟨D,hD⟩:∃D,done.sz=D:=⟨_,rfl⟩;have HSN:=Lib.hid (zZl done · · f);obtain⟨CS,hCSe⟩:∃CS,(celF done f).1=CS:=⟨_,rfl⟩;obtain⟨RS,hRSe⟩:∃RS,(celF done f).2=RS:=⟨_,rfl⟩;have HKS:=Lib.hid hks;have HCSE:=Lib.hid hCSe;have HRSE:=Lib.hid hRSe;rw[hCSe,hD] at hCS;rw[hRSe,←hj] at hRS;rw[hCSe] at ho hfl;rw[hRSe] at hk;have HO:=Lib.hid ho;have HF:=Lib.hid hfl;have HKR:=Lib.hid hk;have HCB:=Lib.hid hcb;have HBW:=Lib.hid hbw;have HAP:=Lib.hid hap;have ho':=ho;rw[hCS] at ho';have hk':=hk;rw[hRS] at hk';have HO':=Lib.hid ho';have HK':=Lib.hid hk';have HCS:=Lib.hid hCS;have HRS:=Lib.hid hRS;obtain⟨OA,OC,rfl⟩:=jF ho'
   by_cases hlt:0<rest.len
   ·obtain⟨y,l,r,rfl⟩:=Fr.cut hlt
    obtain⟨kb,ko,u,rfl,hkb,hcell,hu,hnext⟩:=hkid.next;have hyl:szT (y,l)=1+l.sz:=rfl;have hsr:(Fr.cons y l r).sz=1+l.sz+r.sz:=rfl;have hlr:(Fr.cons y l r).len=r.len+1:=rfl;have hjN:j<N:=by omega
    have hjz:(j:Int)<(N:Int):=by omega
    have hDb:D≤100000∧l.sz≤100000:=by omega
    have hkbr:kb<wr.heap.size:=hbr kb hkb;have cI:=HIH.out (y,l) (by omega) (by omega) (f+D) (by omega) wr Sq u hbr hu;have e1:((f+D:Nat):Int)=(f:Int)+(D:Int):=by omega
    rw[e1] at cI;have hDS:=zH1 (y,l) (f+D);obtain⟨DS,hDSe⟩:∃DS,celT (y,l) (f+D)=DS:=⟨_,rfl⟩;obtain⟨m,hm⟩:∃m,szT (y,l)=m:=⟨_,rfl⟩;rw[hDSe] at cI hDS;rw[hm] at hDS hyl;have hmb:0<m∧m≤100001:=by omega
    have HDS:=Lib.hid hDS;have HDSE:=Lib.hid hDSe;have HD:=Lib.hid hD;have HM:=Lib.hid hyl;have HN:=Lib.hid hnext;have HSH:=Lib.hid hSH;have HLN:Hid (j+1=(done.app (.cons y l .nil)).len):=Lib.hid (by rw[Fr.len_app];simp only[Fr.len];omega);clear hkid hks hj hl hss hsz hn hCS hRS hCSe hRSe ho hfl hk hcb hbw hap ho' hk' hu hnext hsr hlr hyl e1 hDS hDSe hm hD hbr hSH;go_wp2_with fail;refine cI.mono ?_;rintro e w2 ⟨v2,rfl,⟨vs2,ho2,hf2⟩,hb2⟩;rw[HDS.out] at ho2;obtain⟨g2,cap2,rfl,hg2a,hg2b⟩:=ho2.form hmb.1;have hs2:=hb2.size;have HO2:=Lib.hid ho2;have HF2:=Lib.hid hf2;have HB2:=Lib.hid hb2;have HO3:=Lib.hid (yT HO'.out hb2);have HK3:=Lib.hid (yT HK'.out hb2);have HC3:=Lib.hid (qZ HCB.out hb2);have hcells:∀i u,(flat DS vs2)[i]? = some u→w2.cell? ((⟨g2,0,none⟩:Addr).add i)=some u:=fun i u hu=>ho2.cells (g:=g2) rfl i u hu
    have HCE:=Lib.hid hcells;clear ho2 hf2 hb2 hcells cI
    go_wp2_with (at_builtin;first
     | (refine wpList_append_own_at _ rfl _ _ 36 rfl (H+1) 78 i0 _ 5 72 Tryz.underlying36 hi hz0 hz1 hz2 rfl (by decide) (.slice OA D OC) D (flat CS vs) rfl HO3.out ⟨g2,0,none⟩ m cap2 (flat DS vs2) rfl (by rw[zUa HF2.out.len,HDS.out]) HCE.out HF2.out.one (by unfold maxLen;omega) (by omega) (by omega) ?_;intro v4 w4 hown4 hgrow4 _ hat4;obtain⟨A4,C4,hv4⟩:=jF hown4;subst hv4;have HOWN4:=Lib.hid hown4;have HG4:=Lib.hid hgrow4;have HAT4:=Lib.hid hat4;have hcb4:=(hgrow4.block H (by omega) (fun e=>by have:=(HO'.out.lt H e.symm).1;omega)).trans HC3.out;have k4:=cell_of_row w4 H 4 _ _ _ hcb4;have k4:w4.cell? ⟨H,4,none⟩=some vk:=k4;have f4:=frozen_of_row w4 H 4 _ _ hcb4;have hH4:=qC hcb4;have HK4:=Lib.hid (HK3.out.kept hgrow4 (zG5 HAP.out));clear hown4 hgrow4 hat4 hcb4)
     | (refine wpList_append_own_at _ rfl _ _ 76 rfl (H+1) 3 j0 _ 1 8 Tryz.underlying76 hj hy0 hy1 hy2 rfl (by decide) vk j (ints RS) rfl (HK4.out.alloc _) ⟨w4.heap.size,0,none⟩ 1 1 [_] rfl rfl (cell_one_new _ _ _) (fun x hx=>by simp at hx;subst hx;rfl) (by unfold maxLen;omega) (by omega) (by simp;omega) ?_;intro v6 w6 hown6 hgrow6 _ hat6;obtain⟨A6,C6,hv6⟩:=dM hown6;subst hv6;have HOWN6:=Lib.hid hown6;have HG6:=Lib.hid hgrow6;have HAT6:=Lib.hid hat6;have k6:=(hgrow6.cell_far ⟨H,4,none⟩ (by simp;omega) (fun e=>by have:=(HK4.out.lt H e.symm).1;omega)).trans (((Below.refl w4.heap.size w4).alloc (Nat.le_refl _) _).cell (p:=⟨H,4,none⟩) hH4);have f6:=(hgrow6.frozen_far ⟨H,4,none⟩ (by simp;omega) (fun e=>by have:=(HK4.out.lt H e.symm).1;omega)).trans (((Below.refl w4.heap.size w4).alloc (Nat.le_refl _) _).frozen (p:=⟨H,4,none⟩) hH4);have k6:=k6.trans k4;have f6:=f6.trans f4;clear hown6 hgrow6 hat6))
    go_roundw
    case rel=>
     have hstep:=CeRel.step HO.out HF.out HKR.out HCB.out HBW.out HAP.out HB2.out HF2.out (by rw[HCS.out,HDS.out];exact HOWN4.out) HG4.out HAT4.out (by rw[HRS.out];exact HOWN6.out) HG6.out (by have:=HAT6.out;simpa using this);refine⟨j+1,done.app (.cons y l .nil),r,.slice A6 (j+1) C6,by go_num,HLN.out,by rw[HKS.out,Fr.app_cons],HN.out.keep (fun _ h=>h) fun b hb=>?_,?_⟩
     ·have hbH:=HSH.out b hb
      obtain⟨_,_,_,_,_,hb7,_⟩:=hstep;exact(hb7.block b hbH).trans (HBW.out.block b hbH).symm
     ·have hz:((f+D+l.sz:Nat):Int)=(f:Int)+((D:Int)+(m:Int))-1:=by have:=HM.out;omega
      rw[HSN.out y l,HCSE.out,HRSE.out,HD.out,HDSE.out,hz];exact hstep
    case measure=>simp[intOf];omega
   ·have h0:rest = .nil:=by
     cases rest with
     | nil=>rfl
     | cons y l r=>exact absurd (Nat.succ_pos _) hlt
    subst h0;have hjz:¬(j:Int)<(N:Int):=by have:(Fr.nil).len=0:=rfl;omega
    have hfin:done=ks:=by rw[hks,Fr.app_nil]
    have d0:=cell_of_row wr H 0 _ _ _ hcb;have d1:=cell_of_row wr H 1 _ _ _ hcb;have d2:=cell_of_row wr H 2 _ _ _ hcb;have d3:=cell_of_row wr H 3 _ _ _ hcb;have d4:=cell_of_row wr H 4 _ _ _ hcb;have d0:wr.cell? ⟨H,0,none⟩=some (.int .i64 x.k):=d0;have d1:wr.cell? ⟨H,1,none⟩=some (.int .i64 x.n):=d1;have d2:wr.cell? ⟨H,2,none⟩=some (.string x.a):=d2;have d3:wr.cell? ⟨H,3,none⟩=some (.string x.m):=d3;have d4:wr.cell? ⟨H,4,none⟩=some vk:=d4;have hDb:D≤100000:=by omega
    have HFIN:=Lib.hid hfin;have hvks:=SpS.own (S:=fun _=>True) hk fun _ _=>trivial
    have HVK1:=Lib.hid hvks.one;clear hkid hks hj hl hss hsz hn hCS hRS hCSe hRSe ho hfl hk hcb hbw hap ho' hk' hD hbr hfin hvks
    go_wp2_with (at_builtin;(refine wpList_append_own_at _ rfl _ _ 36 rfl (H+1) 78 i0 _ 5 72 Tryz.underlying36 hi hz0 hz1 hz2 rfl (by decide) (.slice OA D OC) D (flat CS vs) rfl (HO'.out.alloc _) ⟨wr.heap.size,0,none⟩ 1 1 [.int .i64 x.k,.int .i64 x.n,.string x.a,.string x.m,vk] rfl rfl (dN (heap_alloc_new wr _)) (fun u hu=>iY HVK1.out u hu) (by unfold maxLen;omega) (by omega) (by simp;omega) ?_);intro v4 w4 hown4 hgrow4 _ hat4;have HOWN4:=Lib.hid hown4;have HG4:=Lib.hid hgrow4;have HAT4:=Lib.hid hat4;clear hown4 hgrow4 hat4)
    go_ret
    have hfull:celT (x,ks) f=CS++[⟨x,RS⟩]:=by
     unfold celT;simp only;rw[←HFIN.out,HCSE.out,HRSE.out]
    rw[hfull];have hsa:(wr.alloc (.cells #[.int .i64 x.k,.int .i64 x.n,.string x.a,.string x.m,vk] 78)).heap.size=wr.heap.size+1:=by simp
    have hg:=HG4.out;have hat:=HAT4.out;have hs4:=hg.size;have hst:∀b,b<wr.heap.size→(Value.slice OA D OC).ownBlock≠some b→w4.heap[b]? = wr.heap[b]?:=fun b h1 h2=>by
     rw[hg.block b (by omega) (fun e=>h2 e.symm),Below.heap_alloc _ _ _ h1]
    refine⟨_,rfl,⟨vs++[vk],?_,?_⟩,?_⟩
    ·rw[nK _ _ HF.out.len,List.length_append,HCS.out]
     exact HOWN4.out.mono (by have:=HH.out;omega)
    ·have hS:∀q',H<q'→q'<wr.heap.size→(Value.slice OA D OC).ownBlock≠some q'→So w.heap.size w4 v4 q':=by
      intro q' h1 h2 h3;refine⟨by have:=HH.out;omega,by omega,?_⟩
      rcases hat with h | h
      ·rw[h];exact h3
      ·rw[h,hsa];intro e;injection e with e;omega
     refine CsF.app (HF.out.keep (fun q' h=>hS q' h.1 h.2.1 h.2.2.1) fun b h=>hst b h.2.1 h.2.2.1) ⟨?_,trivial⟩;have hkl:=HKR.out.lt;refine(SpS.own (S:=fun q'=>vk.ownBlock=some q') HKR.out fun g hg=>hg).keep (fun q' h=>hS q' (by have:=(hkl q' h).1;omega) (hkl q' h).2 fun e=>HAP.out q' e h) fun b h=>hst b (hkl b h).2 fun e=>HAP.out b e h
    ·rw[HH.out]
     exact(HBW.out.alloc (by omega) _).grown hg (by rw[hsa];omega) (fun g hg=>by have:=(HO'.out.lt g hg).1;omega)
def zG6 (cs:List Cel) (z:Int) (W:World) (e:Ending) (w':World):Prop:=∃v,e = .returned (.tuple #[.agg #[v],.int .i64 z])∧Cls w' w'.heap.size v cs∧Below W.heap.size W w'
theorem zBr (t:Tr) (hsz:szT t≤8192) (w:World) (Sq:Nat→Prop) (v:Value) (hS:Bel Sq w.heap.size) (hin:InT w Sq v t) :
  Calls Tryz.prog 79 #[v] w (zG6 (celT t 0) 0 w):=by
 have hb:=(Below.refl w.heap.size w).alloc (Nat.le_refl _) (.cells #[.slice none 0 0] 38);have hs:(w.alloc (.cells #[.slice none 0 0] 38)).heap.size=w.heap.size+1:=by simp
 have hin1:=hin.below hS hb;have c1:=zXe (szT t) t (Nat.le_refl _) (by omega) _ Sq v hin1;have c2:=zXd (szT t) t (Nat.le_refl _) (by omega) _ Sq v hin1;have c3:=zUb (szT t) t (Nat.le_refl _) (by omega) 0 (by omega) _ Sq v (fun q h=>by have:=hS q h;omega) hin1;obtain⟨Z,hZ⟩:∃Z,szT t=Z:=⟨_,rfl⟩;obtain⟨C,hC⟩:∃C,celT t 0=C:=⟨_,rfl⟩;rw[hZ] at c2 hsz;rw[hC] at c3 ⊢;have hz:¬(8192:Int)<(Z:Int):=by omega
 obtain⟨H,hH⟩:∃H,w.heap.size=H:=⟨_,rfl⟩;have hbx:(w.alloc (.cells #[.slice none 0 0] 38)).heap[H]? = some (.cells #[.slice none 0 0] 38 (0,0)):=by rw[←hH];exact heap_alloc_new w _
 have HH:=Lib.hid hH;have HS:=Lib.hid hs;have HB:=Lib.hid hb;have HBX:=Lib.hid hbx;clear hin hin1 hS hZ hC hb hbx hs hH
 go_enter Tryz.func79,Tryz.ntmps79
 go_wp2_with fail;refine c1.mono ?_;rintro e w1 ⟨rfl,rfl⟩;go_wp2_with fail;refine c2.mono ?_;rintro e w1 ⟨rfl,rfl⟩;go_wp2_with fail;refine c3.mono ?_;rintro e w1 ⟨v1,rfl,hv1,hb1⟩;rw[HS.out] at hb1 hv1;have hbx1:=(hb1.block H (by have:=HH.out;omega)).trans HBX.out;have k0:=cell_of_row w1 H 0 _ _ _ hbx1;have k0:w1.cell? ⟨H,0,none⟩=some (.slice none 0 0):=k0;have f0:=frozen_of_row w1 H 0 _ _ hbx1;have hs1:=hb1.size;rw[HS.out] at hs1;have hHw:=qC hbx1;obtain⟨vs,ho,hf⟩:=hv1;obtain⟨A1,C1,rfl⟩:=jF ho;have HO:=Lib.hid ho;have HF:=Lib.hid hf;have HB1:=Lib.hid hb1;clear ho hf hb1 hbx1 c1 c2 c3;rw[HH.out];go_wp2_with fail;have hbelF:Below H w (w1.setCell ⟨H,0,none⟩ (.slice A1 C.length C1)):=(by
  have h1:Below H w w1:=(HH.out▸HB.out).trans (HB1.out.mono (by have:=HH.out;omega));exact h1.setCell (Nat.le_refl _) _)
 have hcls:Cls (w1.setCell ⟨H,0,none⟩ (.slice A1 C.length C1)) (w1.setCell ⟨H,0,none⟩ (.slice A1 C.length C1)).heap.size (.slice A1 C.length C1) C:=by
  refine OwnC.cls (H:=H+1) ⟨vs,zG (HO.out.mono (by have:=HH.out;omega)) _ _ (fun g hg=>by have:=(HO.out.lt g hg).1;have:=HH.out;simp only;omega),HF.out.keep (fun q h=>⟨by have:=h.1;have:=HH.out;omega,by simpa [World.setCell] using h.2.1,h.2.2⟩) fun b h=>Below.heap_setCell _ _ _ _ (by have:=h.1;have:=HH.out;simp only;omega)⟩
 exact bodyPost_ret (v:=.tuple #[.agg #[.slice A1 C.length C1],.int .i64 0]) (by simp[results,Tryz.results79,go_sem,k0]) rfl ⟨_,rfl,hcls,by rw[HH.out];exact hbelF⟩
theorem zG7:∀n,n≤1000000→IsAt B.nck B.long n
 | 0,_=>fun t h=>absurd h (by unfold szT;omega)
 | n+1,h=>zBp n (by omega) (zG7 n (by omega))
def pkE (o:Option Tr):Int:=match o with
 | none=>1
 | some t=>if 8192<szT t then 3 else 0
def PkE (z:Int) (W:World) (e:Ending) (w':World):Prop:=∃(A:Option Addr) (l k:Nat),e = .returned (.tuple #[.agg #[.slice A l k],.int .i64 z])∧Up W w'
theorem zMs (W w:World) (hu:Up W w):Calls Tryz.prog 79 #[.pointer none] w (PkE 1 W):=by
 have hc:∀w,Calls Tryz.prog 140 #[.pointer none] w fun e w'=>e = .returned (.bool true)∧w=w':=by
  intro w
  go_enter Tryz.func140,Tryz.ntmps140
  go_wp2_with fail
  go_ret
  exact⟨rfl,rfl⟩
 have hb:Up W (w.alloc (.cells #[.slice none 0 0] 38)):=hu.alloc _;have hk:(w.alloc (.cells #[.slice none 0 0] 38)).cell? ⟨w.heap.size,0,none⟩=some (.slice none 0 0):=cell_of_row _ w.heap.size 0 _ _ _ (heap_alloc_new w _);have hf:(w.alloc (.cells #[.slice none 0 0] 38)).frozen? ⟨w.heap.size,0,none⟩=false:=frozen_of_row _ w.heap.size 0 _ _ (heap_alloc_new w _)
 go_enter Tryz.func79,Tryz.ntmps79
 go_wp2_with fail;refine(hc _).mono ?_;rintro e w1 ⟨rfl,rfl⟩;go_wp2_with fail;exact bodyPost_ret (v:=.tuple #[.agg #[.slice none 0 0],.int .i64 1]) (by simp[results,Tryz.results79,go_sem,hk]) rfl ⟨_,_,_,rfl,hb⟩
theorem zMt (t:Tr) (hl:8192<szT t) (hz:szT t≤1000000) (W w:World) (v:Value) (hv:HasT W v (some t)) (hu:Up W w):Calls Tryz.prog 79 #[v] w (PkE 3 W):=by
 have hb:Up W (w.alloc (.cells #[.slice none 0 0] 38)):=hu.alloc _;have hk:(w.alloc (.cells #[.slice none 0 0] 38)).cell? ⟨w.heap.size,0,none⟩=some (.slice none 0 0):=cell_of_row _ w.heap.size 0 _ _ _ (heap_alloc_new w _);have hf:(w.alloc (.cells #[.slice none 0 0] 38)).frozen? ⟨w.heap.size,0,none⟩=false:=frozen_of_row _ w.heap.size 0 _ _ (heap_alloc_new w _);have c1:=zXe (szT t) t (Nat.le_refl _) (by omega) _ _ v (hv.up hb);have c2:=zXd (szT t) t (Nat.le_refl _) (by omega) _ _ v (hv.up hb);obtain⟨Z,hZ⟩:∃Z,szT t=Z:=⟨_,rfl⟩;rw[hZ] at c2 hl;have hz1:(8192:Int)<(Z:Int):=by omega
 clear hv hZ
 go_enter Tryz.func79,Tryz.ntmps79
 go_wp2_with fail;refine c1.mono ?_;rintro e w1 ⟨rfl,rfl⟩;go_wp2_with fail;refine c2.mono ?_;rintro e w1 ⟨rfl,rfl⟩;go_wp2_with fail;exact bodyPost_ret (v:=.tuple #[.agg #[.slice none 0 0],.int .i64 3]) (by simp[results,Tryz.results79,go_sem,hk]) rfl ⟨_,_,_,rfl,hb⟩
theorem zG8 (o:Option Tr) (hz:szO o≤60000) (W w:World) (v:Value) (hv:HasT W v o) (hu:Up W w):Calls Tryz.prog 79 #[v] w (PkE (pkE o) W):=by
 cases o with
 | none=>
  obtain rfl:v = .pointer none:=hv;exact zMs W w hu
 | some t=>
  have hz:szT t≤60000:=hz
  by_cases h:8192<szT t
  ·have:pkE (some t)=3:=if_pos h
   rw[this];exact zMt t h (by omega) W w v hv hu
  ·have:pkE (some t)=0:=if_neg h
   rw[this];refine(zBr t (by omega) w _ v HasT.bel (hv.up hu)).mono ?_;rintro e w' ⟨u,rfl,⟨A,k,rfl,-,-⟩,hb⟩;exact⟨A,_,k,rfl,hu.of hb⟩
def okSO (o:Option Tr):Prop:=∀t,o=some t→okST t
def InP (z:Int) (W:World) (e:Ending) (w':World):Prop:=e = .returned (.int .i64 z)∧Up W w'
theorem mL {a b:Int} {W w':World} (h:a=b) (u:Up W w'):InP a W (.returned (.int .i64 b)) w':=⟨by rw[h],u⟩
theorem wL (o:Option Tr) (c:Int) (hz:szO o≤60000) (hs:okSO o) (W w:World) (v:Value) (hv:HasT W v o) (hu:Up W w) :
  Calls Tryz.prog 38 #[v,.int .i64 c] w (InP (chk B.nck B.long o c) W):=by
 have cP:=zG8 o hz W w v hv hu;have HV:=Lib.hid hv;have HZ:=Lib.hid hz;have HS:=Lib.hid hs
 cases o with
 | none=>
  have hp:pkE none=1:=rfl;rw[hp] at cP;have HE:Hid (chk B.nck B.long none c=1):=Lib.hid rfl;clear hv hz hs hp
  go_enter Tryz.func38,Tryz.ntmps38
  go_wp2_with fail;refine cP.mono ?_;rintro e w1 ⟨A1,l1,k1,rfl,u1⟩;go_wp2_with fail
  go_ret
  exact mL HE.out (u1.alloc _)
 | some t=>
  by_cases hl:8192<szT t
  ·have hp:pkE (some t)=3:=if_pos hl
   rw[hp] at cP;have HE:Hid (chk B.nck B.long (some t) c=3):=Lib.hid (if_pos hl);clear hv hz hs hp hl
   go_enter Tryz.func38,Tryz.ntmps38
   go_wp2_with fail;refine cP.mono ?_;rintro e w1 ⟨A1,l1,k1,rfl,u1⟩;go_wp2_with fail
   go_ret
   exact mL HE.out (u1.alloc _)
  ·have hp:pkE (some t)=0:=if_neg hl
   rw[hp] at cP;have hz:szT t≤60000:=hz;have cD:=fun w' (h:Up W w')=>zPw (szT t) t (Nat.le_refl _) (by omega) w' _ v (hv.up h)
   have cI:=fun w' (h:Up W w')=>zG7 (szT t) (by omega) t (Nat.le_refl _) (hs t rfl) c W w' v hv h
   have hdc:chk B.nck B.long (some t) c=if 60<dpT t then 7 else if isT B.nck B.long t c then 0 else 16:=if_neg hl
   obtain⟨D,hD⟩:∃D,dpT t=D:=⟨_,rfl⟩;obtain⟨b,hb⟩:∃b,isT B.nck B.long t c=b:=⟨_,rfl⟩;rw[hD] at cD hdc;rw[hb] at cI hdc;have CD:=Lib.hid cD;have CI:=Lib.hid cI
   by_cases hd:60<D
   ·rw[if_pos hd] at hdc
    have HE:=Lib.hid hdc;have hd1:(60:Int)<(D:Int):=by omega
    clear hv hz hs hp hl hdc hb hD hd cD cI
    go_enter Tryz.func38,Tryz.ntmps38
    go_wp2_with fail;refine cP.mono ?_;rintro e w1 ⟨A1,l1,k1,rfl,u1⟩;have U1:=Lib.hid (u1.alloc (.cells #[.slice A1 l1 k1] 38));clear u1;go_wp2_with fail;refine(CD.out _ U1.out).mono ?_;rintro e w2 ⟨rfl,rfl⟩;go_wp2_with fail
    go_ret
    exact mL HE.out U1.out
   ·rw[if_neg hd] at hdc
    have hd1:¬(60:Int)<(D:Int):=by omega
    cases b
    all_goals
     have HE:=Lib.hid hdc;clear hv hz hs hp hl hdc hb hD hd cD cI
     go_enter Tryz.func38,Tryz.ntmps38
     go_wp2_with fail;refine cP.mono ?_;rintro e w1 ⟨A1,l1,k1,rfl,u1⟩;have U1:=Lib.hid (u1.alloc (.cells #[.slice A1 l1 k1] 38));clear u1;go_wp2_with fail;refine(CD.out _ U1.out).mono ?_;rintro e w2 ⟨rfl,rfl⟩;go_wp2_with fail;refine(CI.out _ U1.out).mono ?_;rintro e w2 ⟨rfl,u2⟩;go_wp2_with fail
     go_ret
     exact mL HE.out u2
def ShpAt (f:FuncId) (c:Int):Prop:=∀(o:Option Tr),szO o≤60000→okSO o→∀(W w:World) (v:Value),B.Nx W→HasT W v o→Up W w→Calls Tryz.prog f #[v] w (InP (chk B.nck B.long o c) W)
theorem Nx.up {W w:World} (h:B.Nx W) (u:Up W w):B.Nx w:=B.Nx.below h u
end Go.Proofs.YtbpijnalmakfaaaGreatDoor
