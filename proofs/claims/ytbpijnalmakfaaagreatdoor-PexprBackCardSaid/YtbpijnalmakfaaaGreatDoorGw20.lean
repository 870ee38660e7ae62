/-
  The document's Is and Check: what they tell of trees.
-/
import Derived.Test.YtbpijnalmakfaaaGreatDoorGw19
import Derived.Maps.OwnSet
set_option maxHeartbeats 40000000
set_option maxRecDepth 100000
namespace Go.Proofs.YtbpijnalmakfaaaGreatDoor
open Go.RowKit
theorem yYz:∀(L:List Rw) (i:Nat) (R:Rw) (j:Nat),L[i]? = some R→j<7→(L.flatMap rcl)[i*7+j]? = (rcl R)[j]?
 | [],_,_,_,h,_=>by simp at h
 | x::L,0,R,j,h,hj=>by
  have:x=R:=by simpa using h
  subst this;rw[List.flatMap_cons,List.getElem?_append_left (by show 0*7+j<7;omega)]
  simp
 | x::L,i+1,R,j,h,hj=>by
  rw[List.flatMap_cons,List.getElem?_append_right (by show 7≤(i+1)*7+j;omega)];have:=yYz L i R j (by simpa using h) hj;rw[←this]
  congr 1
  show(i+1)*7+j-7=_
  omega
theorem Tbl.cell {w:World} {g I:Nat} {R:Rw} (h:Tbl w g) (hR:RWS[I]? = some R) (j:Nat) (hj:j<7):w.cell? ⟨g,I*7+j,none⟩=(rcl R)[j]?:=by
 rw[←yYz RWS I R j hR hj];rw[cell_of_row w g (I*7+j) _ _ _ h]
 simp[RWC]
theorem zL7 (w:World) (vs:List Value) (e:TypeId) (j:Nat) (v:Value) (hj:vs[j]? = some v):(w.alloc (.cells vs.toArray e)).cell? ⟨w.heap.size,j,none⟩=some v:=by
 rw[cell_of_row _ w.heap.size j _ _ _ (heap_alloc_new w _)]
 simpa using hj
theorem zA3 (n:Nat) (hn:n≤1000000) (ih:IsAt B.nck B.long n):IsAt B.nck B.long (n+1):=by
 rintro⟨x,ks⟩ hsz ⟨ha,hm,hs⟩ c W w v hv hu;have hsz2:szT (x,ks)=1+ks.sz:=rfl;have cK:=fun(W':World) (l:List UInt8) (hl:goodW l=true) (v':Value) (w':World) (h1:HasK W' v' ks) (h2:Up W' w')=>zUt ih hn W' l hl ks v' w' (by omega) hs h1 h2
 obtain⟨q,p,A,cp,rfl,hq,c0,c1,c2,c3,c4,hc,hkid⟩:=InT.open (x:=x) (ks:=ks) hv;have hk:HasK W (.slice A ks.len cp) ks:=⟨A,cp,rfl,hc,fun h0=>by
  obtain⟨kb,ko,hA,h1,h2⟩:=hkid h0;exact⟨kb,ko,hA,h1,h2⟩⟩
 have CK:=Lib.hid cK;have HA:=Lib.hid ha;have HM:=Lib.hid hm;have HU:=Lib.hid hu;have HK:=Lib.hid hk;obtain⟨N,hN⟩:∃N,ks.len=N:=⟨_,rfl⟩;rw[hN] at c4 hk;have HK:=Lib.hid hk;have C0:=Lib.hid c0;have C1:=Lib.hid c1;have C2:=Lib.hid c2;have C3:=Lib.hid c3;have C4:=Lib.hid c4;clear cK ha hm hu hk hv hsz hsz2 hkid hc hs hq ih c0 c1 c2 c3 c4 hN
 go_enter Tryz.func81,Tryz.ntmps81
 go_wp2_with fail;refine(zG2 _).mono ?_;rintro e w1 ⟨g,rfl,hg,htb,hb1⟩;have HU1:=Lib.hid (HU.out.of hb1);have HT:=Lib.hid htb;clear hb1 htb hg;go_wp2_with fail
 go_loopw [6,7] (fun i _ wr=>∃I:Nat,i = .int .i64 I∧I≤47∧(∀(j:Nat) R,j<I→RWS[j]? = some R→fitR B.nck B.long x (infF B.nck B.long ks) c R=false)∧Up w1 wr) (fun i _ _=>47-(intOf i).toNat)
 case atStart=>exact⟨0,rfl,by omega,fun j x hj=>absurd hj (Nat.not_lt_zero _),Up.refl _⟩
 case round=>
  obtain⟨I,rfl,hI,hall,hur⟩:=hrel;have HALL:=Lib.hid hall;have HUR:=Lib.hid hur;clear hall hur
  by_cases hlt:I<47
  ·have hiz:(I:Int)<47:=by omega
   obtain⟨R,hR⟩:∃R,RWS[I]? = some R:=⟨_,List.getElem?_eq_getElem (by rw[zUs];exact hlt)⟩;obtain⟨hgw,hkl,hnm,hmr⟩:=zMz R (List.mem_of_getElem? hR);have tb:=HUR.out.row HT.out;have r0:=Tbl.cell tb hR 0 (by omega);have r1:=Tbl.cell tb hR 1 (by omega);have r2:=Tbl.cell tb hR 2 (by omega);have r3:=Tbl.cell tb hR 3 (by omega);have r4:=Tbl.cell tb hR 4 (by omega);have r5:=Tbl.cell tb hR 5 (by omega);have r6:=Tbl.cell tb hR 6 (by omega);have HRI:=Lib.hid hR;clear hR tb;obtain⟨rc,rk,rn,rm,rf,rt,rs⟩:=R;simp only[rcl,List.getElem?_cons_zero,List.getElem?_cons_succ,Nat.add_zero] at r0 r1 r2 r3 r4 r5 r6;have HNX:Hid (fitR B.nck B.long x (infF B.nck B.long ks) c ⟨rc,rk,rn,rm,rf,rt,rs⟩=false→∀(j:Nat) R,j<I+1→RWS[j]? = some R→fitR B.nck B.long x (infF B.nck B.long ks) c R=false):=Lib.hid fun h j R hj hR=>by
    by_cases e:j=I
    ·subst e
     rw[HRI.out] at hR;injection hR with hR;rw[←hR];exact h
    ·exact HALL.out j R (by omega) hR
   have hw1:=fun W'=>fX x.a rn hnm W' HA.out
   have hw2:=fun W'=>fX x.m rm hmr W' HM.out
   have hfit:fitR B.nck B.long x (infF B.nck B.long ks) c ⟨rc,rk,rn,rm,rf,rt,rs⟩=(decide (rc=c)&&decide (rk=x.k)&&wordR B.nck B.long x.a rn&&wordR B.nck B.long x.m rm&&decide (rf≤x.n)&&decide (x.n≤rt)&&seqOk (infF B.nck B.long ks) rs):=rfl;obtain⟨F,hF⟩:∃F,fitR B.nck B.long x (infF B.nck B.long ks) c ⟨rc,rk,rn,rm,rf,rt,rs⟩=F:=⟨_,rfl⟩;have UW2:Hid (Up w1 (wr.alloc (.cells [Value.int .i64 rc,.int .i64 rk,.string (byt rn),.string (byt rm),.int .i64 rf,.int .i64 rt,.string (byt rs)].toArray 172))):=Lib.hid (HUR.out.alloc _);have rcell:=zL7 wr [Value.int .i64 rc,.int .i64 rk,.string (byt rn),.string (byt rm),.int .i64 rf,.int .i64 rt,.string (byt rs)] 172;obtain⟨W2,hW2⟩:∃W2,wr.alloc (.cells [Value.int .i64 rc,.int .i64 rk,.string (byt rn),.string (byt rm),.int .i64 rf,.int .i64 rt,.string (byt rs)].toArray 172)=W2:=⟨_,rfl⟩;rw[hW2] at UW2 rcell;have HKK:=Lib.hid fun w' (h:Up W2 w')=>CK.out W2 rs hgw _ w' (HK.out.up (HU1.out.trans UW2.out)) h
   rw[hF] at hfit;obtain⟨b1,hb1⟩:∃b,wordR B.nck B.long x.a rn=b:=⟨_,rfl⟩;obtain⟨b2,hb2⟩:∃b,wordR B.nck B.long x.m rm=b:=⟨_,rfl⟩;obtain⟨b3,hb3⟩:∃b,seqOk (infF B.nck B.long ks) rs=b:=⟨_,rfl⟩;rw[hb1] at hw1 hfit;rw[hb2] at hw2 hfit;rw[hb3] at HKK hfit;have HW1:=Lib.hid hw1;have HW2:=Lib.hid hw2;obtain⟨Q,hQ⟩:∃Q,wr.heap.size=Q:=⟨_,rfl⟩;rw[hQ] at rcell;have s0:∀u:Upw W2,u.w.cell? ⟨Q,0,none⟩=some (.int .i64 rc):=fun u=>u.cell (rcell 0 _ rfl)
   have s1:∀u:Upw W2,u.w.cell? ⟨Q,1,none⟩=some (.int .i64 rk):=fun u=>u.cell (rcell 1 _ rfl)
   have s2:∀u:Upw W2,u.w.cell? ⟨Q,2,none⟩=some (.string (byt rn)):=fun u=>u.cell (rcell 2 _ rfl)
   have s3:∀u:Upw W2,u.w.cell? ⟨Q,3,none⟩=some (.string (byt rm)):=fun u=>u.cell (rcell 3 _ rfl)
   have s4:∀u:Upw W2,u.w.cell? ⟨Q,4,none⟩=some (.int .i64 rf):=fun u=>u.cell (rcell 4 _ rfl)
   have s5:∀u:Upw W2,u.w.cell? ⟨Q,5,none⟩=some (.int .i64 rt):=fun u=>u.cell (rcell 5 _ rfl)
   have s6:∀u:Upw W2,u.w.cell? ⟨Q,6,none⟩=some (.string (byt rs)):=fun u=>u.cell (rcell 6 _ rfl)
   have UU:=Lib.hid (HU1.out.trans UW2.out);have n0:∀u:Upw W2,u.w.cell? ⟨q,p,none⟩=some (.int .i64 x.k):=fun u=>u.cell (UU.out.cell C0.out)
   have n1:∀u:Upw W2,u.w.cell? ⟨q,p+1,none⟩=some (.int .i64 x.n):=fun u=>u.cell (UU.out.cell C1.out)
   have n2:∀u:Upw W2,u.w.cell? ⟨q,p+2,none⟩=some (.string x.a):=fun u=>u.cell (UU.out.cell C2.out)
   have n3:∀u:Upw W2,u.w.cell? ⟨q,p+3,none⟩=some (.string x.m):=fun u=>u.cell (UU.out.cell C3.out)
   have n4:∀u:Upw W2,u.w.cell? ⟨q,p+4,none⟩=some (.slice A N cp):=fun u=>u.cell (UU.out.cell C4.out)
   have hcase:((rc==c)=false∧F=false)∨((rc==c)=true∧(rk==x.k)=false∧F=false)∨((rc==c)=true∧(rk==x.k)=true∧b1=false∧F=false)∨((rc==c)=true∧(rk==x.k)=true∧b1=true∧b2=false∧F=false)∨
     ((rc==c)=true∧(rk==x.k)=true∧b1=true∧b2=true∧decide (rf≤x.n)=false∧F=false)∨((rc==c)=true∧(rk==x.k)=true∧b1=true∧b2=true∧decide (rf≤x.n)=true∧decide (x.n≤rt)=false∧F=false)∨
     ((rc==c)=true∧(rk==x.k)=true∧b1=true∧b2=true∧decide (rf≤x.n)=true∧decide (x.n≤rt)=true∧b3=F):=by
    have e1:(rc==c)=decide (rc=c):=rfl;have e2:(rk==x.k)=decide (rk=x.k):=rfl;rw[e1,e2,hfit]
    cases decide (rc=c)<;>cases decide (rk=x.k)<;>cases b1<;>cases b2<;>cases decide (rf≤x.n)<;>cases decide (x.n≤rt)<;>simp
   have HB:=Lib.hid (⟨hb1,hb2,hb3⟩:_∧_∧_);clear rcell hb1 hb2 hb3 hfit hw1 hw2 hnm hmr hgw
   rcases hcase with ⟨d1,rfl⟩ | ⟨d1,d2,rfl⟩ | ⟨d1,d2,rfl,rfl⟩ | ⟨d1,d2,rfl,rfl,rfl⟩ | ⟨d1,d2,rfl,rfl,d3,rfl⟩ | ⟨d1,d2,rfl,rfl,d3,d4,rfl⟩ | ⟨d1,d2,rfl,rfl,d3,d4,rfl⟩
   ·have HFF:=Lib.hid hF
    clear hF;go_wp2_with fail;refine qF (W:=W2) (Up.refl _) (by kernel_rfl) (by kernel_rfl) ?_
    repeat (go_big_quiet_step (first
      | (go_at_call_of 144 (Value.string x.a);exact Calls.upw ((HW1.out _).mono fun _ _ h=>⟨h.1,(by assumption:Upw W2).h.of h.2⟩))
      | (go_at_call_of 144 (Value.string x.m);exact Calls.upw ((HW2.out _).mono fun _ _ h=>⟨h.1,(by assumption:Upw W2).h.of h.2⟩))
      | (go_at_call 145;exact Calls.upw (HKK.out _ (by assumption:Upw W2).h))))
    refine wpQuiet_nil ?_;rintro _ ⟨⟨w9,u9⟩,rfl⟩;go_wp2_with fail
    go_roundw
    case rel=>exact⟨I+1,by go_num,by omega,HNX.out HFF.out,UW2.out.trans u9⟩
    case measure=>simp[intOf];omega
   ·have HFF:=Lib.hid hF
    clear hF;go_wp2_with fail;refine qF (W:=W2) (Up.refl _) (by kernel_rfl) (by kernel_rfl) ?_
    repeat (go_big_quiet_step (first
      | (go_at_call_of 144 (Value.string x.a);exact Calls.upw ((HW1.out _).mono fun _ _ h=>⟨h.1,(by assumption:Upw W2).h.of h.2⟩))
      | (go_at_call_of 144 (Value.string x.m);exact Calls.upw ((HW2.out _).mono fun _ _ h=>⟨h.1,(by assumption:Upw W2).h.of h.2⟩))
      | (go_at_call 145;exact Calls.upw (HKK.out _ (by assumption:Upw W2).h))))
    refine wpQuiet_nil ?_;rintro _ ⟨⟨w9,u9⟩,rfl⟩;go_wp2_with fail
    go_roundw
    case rel=>exact⟨I+1,by go_num,by omega,HNX.out HFF.out,UW2.out.trans u9⟩
    case measure=>simp[intOf];omega
   ·have HFF:=Lib.hid hF
    clear hF;go_wp2_with fail;refine qF (W:=W2) (Up.refl _) (by kernel_rfl) (by kernel_rfl) ?_
    repeat (go_big_quiet_step (first
      | (go_at_call_of 144 (Value.string x.a);exact Calls.upw ((HW1.out _).mono fun _ _ h=>⟨h.1,(by assumption:Upw W2).h.of h.2⟩))
      | (go_at_call_of 144 (Value.string x.m);exact Calls.upw ((HW2.out _).mono fun _ _ h=>⟨h.1,(by assumption:Upw W2).h.of h.2⟩))
      | (go_at_call 145;exact Calls.upw (HKK.out _ (by assumption:Upw W2).h))))
    refine wpQuiet_nil ?_;rintro _ ⟨⟨w9,u9⟩,rfl⟩;go_wp2_with fail
    go_roundw
    case rel=>exact⟨I+1,by go_num,by omega,HNX.out HFF.out,UW2.out.trans u9⟩
    case measure=>simp[intOf];omega
   ·have HFF:=Lib.hid hF
    clear hF;go_wp2_with fail;refine qF (W:=W2) (Up.refl _) (by kernel_rfl) (by kernel_rfl) ?_
    repeat (go_big_quiet_step (first
      | (go_at_call_of 144 (Value.string x.a);exact Calls.upw ((HW1.out _).mono fun _ _ h=>⟨h.1,(by assumption:Upw W2).h.of h.2⟩))
      | (go_at_call_of 144 (Value.string x.m);exact Calls.upw ((HW2.out _).mono fun _ _ h=>⟨h.1,(by assumption:Upw W2).h.of h.2⟩))
      | (go_at_call 145;exact Calls.upw (HKK.out _ (by assumption:Upw W2).h))))
    refine wpQuiet_nil ?_;rintro _ ⟨⟨w9,u9⟩,rfl⟩;go_wp2_with fail
    go_roundw
    case rel=>exact⟨I+1,by go_num,by omega,HNX.out HFF.out,UW2.out.trans u9⟩
    case measure=>simp[intOf];omega
   ·have HFF:=Lib.hid hF
    clear hF;go_wp2_with fail;refine qF (W:=W2) (Up.refl _) (by kernel_rfl) (by kernel_rfl) ?_
    repeat (go_big_quiet_step (first
      | (go_at_call_of 144 (Value.string x.a);exact Calls.upw ((HW1.out _).mono fun _ _ h=>⟨h.1,(by assumption:Upw W2).h.of h.2⟩))
      | (go_at_call_of 144 (Value.string x.m);exact Calls.upw ((HW2.out _).mono fun _ _ h=>⟨h.1,(by assumption:Upw W2).h.of h.2⟩))
      | (go_at_call 145;exact Calls.upw (HKK.out _ (by assumption:Upw W2).h))))
    refine wpQuiet_nil ?_;rintro _ ⟨⟨w9,u9⟩,rfl⟩;go_wp2_with fail
    go_roundw
    case rel=>exact⟨I+1,by go_num,by omega,HNX.out HFF.out,UW2.out.trans u9⟩
    case measure=>simp[intOf];omega
   ·have HFF:=Lib.hid hF
    clear hF;go_wp2_with fail;refine qF (W:=W2) (Up.refl _) (by kernel_rfl) (by kernel_rfl) ?_
    repeat (go_big_quiet_step (first
      | (go_at_call_of 144 (Value.string x.a);exact Calls.upw ((HW1.out _).mono fun _ _ h=>⟨h.1,(by assumption:Upw W2).h.of h.2⟩))
      | (go_at_call_of 144 (Value.string x.m);exact Calls.upw ((HW2.out _).mono fun _ _ h=>⟨h.1,(by assumption:Upw W2).h.of h.2⟩))
      | (go_at_call 145;exact Calls.upw (HKK.out _ (by assumption:Upw W2).h))))
    refine wpQuiet_nil ?_;rintro _ ⟨⟨w9,u9⟩,rfl⟩;go_wp2_with fail
    go_roundw
    case rel=>exact⟨I+1,by go_num,by omega,HNX.out HFF.out,UW2.out.trans u9⟩
    case measure=>simp[intOf];omega
   ·cases b3 with
    | false=>
     have HFF:=Lib.hid hF;clear hF;go_wp2_with fail;refine qF (W:=W2) (Up.refl _) (by kernel_rfl) (by kernel_rfl) ?_
     repeat (go_big_quiet_step (first
       | (go_at_call_of 144 (Value.string x.a);exact Calls.upw ((HW1.out _).mono fun _ _ h=>⟨h.1,(by assumption:Upw W2).h.of h.2⟩))
       | (go_at_call_of 144 (Value.string x.m);exact Calls.upw ((HW2.out _).mono fun _ _ h=>⟨h.1,(by assumption:Upw W2).h.of h.2⟩))
       | (go_at_call 145;exact Calls.upw (HKK.out _ (by assumption:Upw W2).h))))
     refine wpQuiet_nil ?_;rintro _ ⟨⟨w9,u9⟩,rfl⟩;go_wp2_with fail
     go_roundw
     case rel=>exact⟨I+1,by go_num,by omega,HNX.out HFF.out,UW2.out.trans u9⟩
     case measure=>simp[intOf];omega
    | true=>
     have HE:Hid (isT B.nck B.long (x,ks) c=true):=Lib.hid (qY.2 ⟨_,List.mem_of_getElem? HRI.out,hF⟩);clear hF;go_wp2_with fail;refine qF (W:=W2) (Up.refl _) (by kernel_rfl) (by kernel_rfl) ?_
     repeat (go_big_quiet_step (first
       | (go_at_call_of 144 (Value.string x.a);exact Calls.upw ((HW1.out _).mono fun _ _ h=>⟨h.1,(by assumption:Upw W2).h.of h.2⟩))
       | (go_at_call_of 144 (Value.string x.m);exact Calls.upw ((HW2.out _).mono fun _ _ h=>⟨h.1,(by assumption:Upw W2).h.of h.2⟩))
       | (go_at_call 145;exact Calls.upw (HKK.out _ (by assumption:Upw W2).h))))
     refine wpQuiet_nil ?_;rintro _ ⟨⟨w9,u9⟩,rfl⟩;go_wp2_with fail
     go_ret
     exact qZ HE.out (UU.out.trans u9)
  ·have hI47:I=47:=by omega
   have hiz:¬(I:Int)<47:=by omega
   have HE:Hid (isT B.nck B.long (x,ks) c=false):=Lib.hid (by
    cases h:isT B.nck B.long (x,ks) c with
    | false=>rfl
    | true=>
     obtain⟨R,hR,hf⟩:=qY.1 h;obtain⟨j,hj⟩:=List.getElem?_of_mem hR;have:=(List.getElem?_eq_some_iff.1 hj).1;rw[zUs] at this;rw[HALL.out j R (by omega) hj] at hf
     cases hf)
   go_wp2_with fail
   go_ret
   exact qZ HE.out (HU1.out.trans HUR.out)
theorem zGd:∀n,n≤1000000→IsAt B.nck B.long n
 | 0,_=>fun t h=>absurd h (by unfold szT;omega)
 | n+1,h=>zA3 n (by omega) (zGd n (by omega))
def pkE (o:Option Tr):Int:=match o with
 | none=>1
 | some t=>if 8192<szT t then 3 else 0
def PkE (z:Int) (W:World) (e:Ending) (w':World):Prop:=∃(A:Option Addr) (l k:Nat),e = .returned (.tuple #[.agg #[.slice A l k],.int .i64 z])∧Up W w'
theorem zL8 (W w:World) (hu:Up W w):Calls Tryz.prog 79 #[.pointer none] w (PkE 1 W):=by
 have hc:∀w,Calls Tryz.prog 140 #[.pointer none] w fun e w'=>e = .returned (.bool true)∧w=w':=by
  intro w
  go_enter Tryz.func140,Tryz.ntmps140
  go_wp2_with fail
  go_ret
  exact⟨rfl,rfl⟩
 have hb:Up W (w.alloc (.cells #[.slice none 0 0] 38)):=hu.alloc _;have hk:(w.alloc (.cells #[.slice none 0 0] 38)).cell? ⟨w.heap.size,0,none⟩=some (.slice none 0 0):=cell_of_row _ w.heap.size 0 _ _ _ (heap_alloc_new w _);have hf:(w.alloc (.cells #[.slice none 0 0] 38)).frozen? ⟨w.heap.size,0,none⟩=false:=frozen_of_row _ w.heap.size 0 _ _ (heap_alloc_new w _)
 go_enter Tryz.func79,Tryz.ntmps79
 go_wp2_with fail;refine(hc _).mono ?_;rintro e w1 ⟨rfl,rfl⟩;go_wp2_with fail;exact bodyPost_ret (v:=.tuple #[.agg #[.slice none 0 0],.int .i64 1]) (by simp[results,Tryz.results79,go_sem,hk]) rfl ⟨_,_,_,rfl,hb⟩
theorem zL9 (t:Tr) (hl:8192<szT t) (hz:szT t≤1000000) (W w:World) (v:Value) (hv:HasT W v (some t)) (hu:Up W w):Calls Tryz.prog 79 #[v] w (PkE 3 W):=by
 have hb:Up W (w.alloc (.cells #[.slice none 0 0] 38)):=hu.alloc _;have hk:(w.alloc (.cells #[.slice none 0 0] 38)).cell? ⟨w.heap.size,0,none⟩=some (.slice none 0 0):=cell_of_row _ w.heap.size 0 _ _ _ (heap_alloc_new w _);have hf:(w.alloc (.cells #[.slice none 0 0] 38)).frozen? ⟨w.heap.size,0,none⟩=false:=frozen_of_row _ w.heap.size 0 _ _ (heap_alloc_new w _);have c1:=zXt (szT t) t (Nat.le_refl _) (by omega) _ _ v (hv.up hb);have c2:=zXs (szT t) t (Nat.le_refl _) (by omega) _ _ v (hv.up hb);obtain⟨Z,hZ⟩:∃Z,szT t=Z:=⟨_,rfl⟩;rw[hZ] at c2 hl;have hz1:(8192:Int)<(Z:Int):=by omega
 clear hv hZ
 go_enter Tryz.func79,Tryz.ntmps79
 go_wp2_with fail;refine c1.mono ?_;rintro e w1 ⟨rfl,rfl⟩;go_wp2_with fail;refine c2.mono ?_;rintro e w1 ⟨rfl,rfl⟩;go_wp2_with fail;exact bodyPost_ret (v:=.tuple #[.agg #[.slice none 0 0],.int .i64 3]) (by simp[results,Tryz.results79,go_sem,hk]) rfl ⟨_,_,_,rfl,hb⟩
theorem zGe (o:Option Tr) (hz:szO o≤60000) (W w:World) (v:Value) (hv:HasT W v o) (hu:Up W w):Calls Tryz.prog 79 #[v] w (PkE (pkE o) W):=by
 cases o with
 | none=>
  obtain rfl:v = .pointer none:=hv;exact zL8 W w hu
 | some t=>
  have hz:szT t≤60000:=hz
  by_cases h:8192<szT t
  ·have:pkE (some t)=3:=if_pos h
   rw[this];exact zL9 t h (by omega) W w v hv hu
  ·have:pkE (some t)=0:=if_neg h
   rw[this];refine(zBp t (by omega) w _ v HasT.bel (hv.up hu)).mono ?_;rintro e w' ⟨u,rfl,⟨A,k,rfl,-,-⟩,hb⟩;exact⟨A,_,k,rfl,hu.of hb⟩
def okSO (o:Option Tr):Prop:=∀t,o=some t→okST t
def InP (z:Int) (W:World) (e:Ending) (w':World):Prop:=e = .returned (.int .i64 z)∧Up W w'
theorem mH {a b:Int} {W w':World} (h:a=b) (u:Up W w'):InP a W (.returned (.int .i64 b)) w':=⟨by rw[h],u⟩
theorem wE (o:Option Tr) (c:Int) (hz:szO o≤60000) (hs:okSO o) (W w:World) (v:Value) (hv:HasT W v o) (hu:Up W w) :
  Calls Tryz.prog 38 #[v,.int .i64 c] w (InP (chk B.nck B.long o c) W):=by
 have cP:=zGe o hz W w v hv hu;have HV:=Lib.hid hv;have HZ:=Lib.hid hz;have HS:=Lib.hid hs
 cases o with
 | none=>
  have hp:pkE none=1:=rfl;rw[hp] at cP;have HE:Hid (chk B.nck B.long none c=1):=Lib.hid rfl;clear hv hz hs hp
  go_enter Tryz.func38,Tryz.ntmps38
  go_wp2_with fail;refine cP.mono ?_;rintro e w1 ⟨A1,l1,k1,rfl,u1⟩;go_wp2_with fail
  go_ret
  exact mH HE.out (u1.alloc _)
 | some t=>
  by_cases hl:8192<szT t
  ·have hp:pkE (some t)=3:=if_pos hl
   rw[hp] at cP;have HE:Hid (chk B.nck B.long (some t) c=3):=Lib.hid (if_pos hl);clear hv hz hs hp hl
   go_enter Tryz.func38,Tryz.ntmps38
   go_wp2_with fail;refine cP.mono ?_;rintro e w1 ⟨A1,l1,k1,rfl,u1⟩;go_wp2_with fail
   go_ret
   exact mH HE.out (u1.alloc _)
  ·have hp:pkE (some t)=0:=if_neg hl
   rw[hp] at cP;have hz:szT t≤60000:=hz;have cD:=fun w' (h:Up W w')=>zO0 (szT t) t (Nat.le_refl _) (by omega) w' _ v (hv.up h)
   have cI:=fun w' (h:Up W w')=>zGd (szT t) (by omega) t (Nat.le_refl _) (hs t rfl) c W w' v hv h
   have hdc:chk B.nck B.long (some t) c=if 60<dpT t then 7 else if isT B.nck B.long t c then 0 else 16:=if_neg hl
   obtain⟨D,hD⟩:∃D,dpT t=D:=⟨_,rfl⟩;obtain⟨b,hb⟩:∃b,isT B.nck B.long t c=b:=⟨_,rfl⟩;rw[hD] at cD hdc;rw[hb] at cI hdc;have CD:=Lib.hid cD;have CI:=Lib.hid cI
   by_cases hd:60<D
   ·rw[if_pos hd] at hdc
    have HE:=Lib.hid hdc;have hd1:(60:Int)<(D:Int):=by omega
    clear hv hz hs hp hl hdc hb hD hd cD cI
    go_enter Tryz.func38,Tryz.ntmps38
    go_wp2_with fail;refine cP.mono ?_;rintro e w1 ⟨A1,l1,k1,rfl,u1⟩;have U1:=Lib.hid (u1.alloc (.cells #[.slice A1 l1 k1] 38));clear u1;go_wp2_with fail;refine(CD.out _ U1.out).mono ?_;rintro e w2 ⟨rfl,rfl⟩;go_wp2_with fail
    go_ret
    exact mH HE.out U1.out
   ·rw[if_neg hd] at hdc
    have hd1:¬(60:Int)<(D:Int):=by omega
    cases b
    all_goals
     have HE:=Lib.hid hdc;clear hv hz hs hp hl hdc hb hD hd cD cI
     go_enter Tryz.func38,Tryz.ntmps38
     go_wp2_with fail;refine cP.mono ?_;rintro e w1 ⟨A1,l1,k1,rfl,u1⟩;have U1:=Lib.hid (u1.alloc (.cells #[.slice A1 l1 k1] 38));clear u1;go_wp2_with fail;refine(CD.out _ U1.out).mono ?_;rintro e w2 ⟨rfl,rfl⟩;go_wp2_with fail;refine(CI.out _ U1.out).mono ?_;rintro e w2 ⟨rfl,u2⟩;go_wp2_with fail
     go_ret
     exact mH HE.out u2
theorem Nx.up {W w:World} (h:B.Nx W) (u:Up W w):B.Nx w:=B.Nx.below h u
def seqK:List Inf→List Int→Bool
 | l,[]=>l.isEmpty
 | [],_::_=>false
 | i::t,c::r=>i.is c&&seqK t r
theorem pQ (n:Nat) (bs:Nat→Bool):allB (n+1) bs=(bs 0&&allB n fun i=>bs (i+1)):=by
 unfold allB;rw[List.range_succ_eq_map,List.all_cons,List.all_map]
 rfl
def atB (l:List Inf) (cs:List Int) (P:Inf→Bool) (i:Nat):Bool:=match l[i]?,cs[i]? with
 | some j,some c=>j.is c
 | some j,none=>P j
 | none,_=>true
theorem zUu:∀(cs:List Int) (l:List Inf) (P:Inf→Bool),(decide (l.length=cs.length)&&allB cs.length (atB l cs P))=seqK l cs
 | [],l,P=>by
  cases l with
  | nil=>rfl
  | cons i t=>rfl
 | c::r,[],P=>by
  show(decide (0=r.length+1)&&_)=false
  rw[decide_eq_false (by omega)]
  rfl
 | c::r,i::t,P=>by
  show(decide (t.length+1=r.length+1)&&allB (r.length+1) (atB (i::t) (c::r) P))=(i.is c&&seqK t r)
  rw[pQ,←zUu r t P];have e:(fun j=>atB (i::t) (c::r) P (j+1))=atB t r P:=by funext j;rfl
  have e0:atB (i::t) (c::r) P 0=i.is c:=rfl;rw[e,e0]
  by_cases h:t.length=r.length
  ·rw[decide_eq_true h,decide_eq_true (by omega:t.length+1=r.length+1)]
   cases i.is c<;>rfl
  ·rw[decide_eq_false h,decide_eq_false (by omega:¬t.length+1=r.length+1)]
   cases i.is c<;>rfl
theorem jS:∀(ks:List UInt8) (l:List Inf),zG0 ks=true→seqOk l ks=seqK l (ks.map catOf)
 | [],l,_=>by
  unfold seqOk seqK
  rfl
 | c::r,l,h=>by
  unfold zG0 at h;rw[List.all_cons,Bool.and_eq_true] at h;have h1:=h.1;simp only[Bool.and_eq_true,decide_eq_true_eq] at h1;unfold seqOk;rw[if_neg h1.1.1,if_neg h1.1.2,if_neg h1.2]
  cases l with
  | nil=>rfl
  | cons i t=>
   show(i.is (catOf c)&&seqOk t r)=(i.is (catOf c)&&seqK t (r.map catOf))
   rw[jS r t h.2]
abbrev IT (t:Tr):Inf:=infT B.nck B.long t
abbrev IF (f:Fr):List Inf:=infF B.nck B.long f
def TelAt (k:FuncId) (b:Bool) (t:Tr):Prop:=∀(w:World) (v:Value),B.Nx w→HasT w v (some t)→Calls Tryz.prog k #[v] w (TelB b w)
def fnC (c:Int):FuncId:=if c=1 then 107 else 46
theorem yX0 (c:Int):Ent (fnC c):=by
 unfold fnC
 split
 ·exact fun _ _=>by kernel_rfl
 ·exact fun _ _=>by kernel_rfl
def fnsC (cs:List Int):List (FuncId×Array Value):=cs.map fun c=>(fnC c,#[])
theorem wP (cs:List Int):(fnsC cs).length=cs.length:=List.length_map _
theorem zUv {cs:List Int} {i:Nat} {k:FuncId} {cap:Array Value} (h:(fnsC cs)[i]? = some (k,cap)):∃c,cs[i]? = some c∧k=fnC c∧cap=#[]:=by
 unfold fnsC at h;rw[List.getElem?_map] at h;obtain⟨c,hc,he⟩:=Option.map_eq_some_iff.1 h;injection he with h1 h2;exact⟨c,hc,h1.symm,h2.symm⟩
theorem yWv {w w':World} (h:w.grownBy w' none):Up w w':=(Below.refl w.heap.size w).grown h (Nat.le_refl _) fun g hg=>by cases hg
theorem zUw {b:Bool} {P:Program} {k:FuncId} {args:Array Value} {w:World} (h:Calls P k args w (TelX b none w)):Calls P k args w (TelB b w):=h.mono fun _ _ h=>⟨h.1,yWv h.2⟩
theorem zW9 {f:Fr} {cs:List Int} {P:Inf→Bool} {i:Nat} {t:Tr} (h:f.get i=some t):atB (IF f) cs P i=match cs[i]? with | some c=>(IT t).is c | none=>P (IT t):=by
 unfold atB;rw[nD,h]
 cases cs[i]?<;>rfl
theorem zS (cs:List Int) (x:Nod) (f:Fr) (w:World) (v:Value) (A:Option Addr) (c:Nat) (hx:B.Nx w) (hv:HasT w v (some (x,f))) (hf:f.len≤100000) (hcs:cs.length≤3) (hA:Fns w none A (fnsC cs))
  (hI:∀(i:Nat) (t:Tr) (c:Int),f.get i=some t→c∈cs→TelAt (fnC c) (isT B.nck B.long t c) t) :
  Calls Tryz.prog 103 #[v,.slice A cs.length c] w (TelB (seqK (IF f) cs) w):=by
 have h:=zY7 w w v x f hv (Up.refl w) (by omega) A c (fnsC cs) (by rw[wP];omega) none hA (fun m hm=>by cases hm) (atB (IF f) cs fun _=>true) (fun _ _=>True) trivial
  (fun i t kv w' k cap h1 h2 h3 h4 _=>by
   obtain⟨c,hc,rfl,rfl⟩:=zUv h2;refine⟨yX0 c,((hI i t c h1 (List.mem_of_getElem? hc)) w' kv (Nx.up hx h4) (HasT.up h3 h4)).mono fun e w'' h=>⟨⟨?_,kO h.2 (Nat.le_refl _)⟩,fun _=>trivial⟩⟩;rw[h.1,zW9 h1,hc]
   rfl)
 rw[wP,←jR (nk:=B.nck) (lg:=B.long),zUu] at h;exact zUw h
end Go.Proofs.YtbpijnalmakfaaaGreatDoor
namespace Go.Proofs.YtbpijnalmakfaaaGreatDoor
open Go.RowKit Go.Maps
def kyC (s:ByteArray):Lit:=.string s.data.toList
def kysC (l:List ByteArray):List Lit:=l.map kyC
theorem zGf (l:List ByteArray):∀x∈kysC l,WideAt.IsKeyLit x:=by
 intro x hx;obtain⟨y,_,rfl⟩:=List.mem_map.1 hx;exact trivial
def SxC (l:List ByteArray):DataW Unit:=Maps.setOf (.agg []) (kysC l)
theorem zA4 {a b:ByteArray} (h:kyC a=kyC b):a=b:=by
 unfold kyC at h;injection h with h;exact B.jK h
theorem lH (l:List ByteArray) (y:ByteArray):Maps.has (SxC l) (kyC y)=true↔y∈l:=by
 unfold SxC;rw[Maps.has_setOf _ _ _ (zGf l),List.any_eq_true]
 constructor
 ·rintro⟨x,hx,hk⟩
  obtain⟨z,hz,rfl⟩:=List.mem_map.1 hx;rw[←zA4 (WideAt.sameKey_eq hk)];exact hz
 ·intro h
  exact⟨kyC y,List.mem_map.2 ⟨y,h,rfl⟩,WideAt.sameKey_self trivial⟩
theorem zGg (l:List ByteArray) (y:ByteArray):SxC (l++[y])=(SxC l).put (kyC y) (.agg []):=by
 unfold SxC kysC;rw[List.map_append,List.map_cons,List.map_nil,Maps.setOf_snoc]
theorem zOk:Keyed Tryz.prog 9:=string_keyed Tryz.underlying9
theorem zLa (w:World):(zeroValue 178).run Tryz.prog w = .ok (.agg #[]) w:=by kernel_rfl
theorem zGh {s:ByteArray} (h:s.size≤2000000000):keyOf Tryz.prog 9 (.string s)=some (kyC s):=Go.WideMaps.keyOf_string_mk Tryz.underlying9 (by unfold maxLen;omega)
def StC (w:World) (pb mb:Nat) (l:List ByteArray):Prop:=w.heap[pb]? = some (.cells #[.map (some mb)] 205 (0,0))∧pb≠mb∧w.ownsMap Tryz.prog 9 (unitElem (H:=Unit)) mb l.length (SxC l)
theorem vD {w w':World} {b n:Nat} {D:DataW Unit} (h:w.ownsMap Tryz.prog 9 (unitElem (H:=Unit)) b n D) (hb:Below w.heap.size w w'):w'.ownsMap Tryz.prog 9 (unitElem (H:=Unit)) b n D:=by
 obtain⟨es,clock,h1,h2⟩:=h;exact⟨es,clock,qS h1 hb,h2⟩
theorem StC.below {w w':World} {pb mb:Nat} {l:List ByteArray} (h:StC w pb mb l) (hb:Below w.heap.size w w'):StC w' pb mb l:=⟨qS h.1 hb,h.2.1,vD h.2.2 hb⟩
def hasC (l:List ByteArray) (s:ByteArray):Bool:=Maps.has (SxC l) (kyC s)
theorem lookC {w:World} {mb n:Nat} {l:List ByteArray} {s:ByteArray} (h:w.ownsMap Tryz.prog 9 (unitElem (H:=Unit)) mb n (SxC l)) (hs:s.size≤2000000000) :
  (Instr.lookup 205 (.map (some mb)) (.string s) true).run Tryz.prog w = .ok (.tuple #[.agg #[],.bool (hasC l s)]) w:=by
 obtain⟨v,ps,hrun,hv⟩:=h.look_ok zOk Tryz.underlying205 (zLa w) unitElem_mk (zGh hs);obtain⟨rfl,_⟩:=unitElem_inv hv;exact hrun
theorem zWa {w:World} {mb:Nat} {l:List ByteArray} {s:ByteArray} (h:w.ownsMap Tryz.prog 9 (unitElem (H:=Unit)) mb l.length (SxC l)) (hs:s.size≤2000000000) (hl:l.length≤1000000) :
  ∃w',(Instr.mapUpdate 205 (.map (some mb)) (.string s) (.agg #[])).run Tryz.prog w = .ok () w'∧w'.ownsMap Tryz.prog 9 (unitElem (H:=Unit)) mb (l++[s]).length (SxC (l++[s]))∧w.grownBy w' (some mb):=by
 obtain⟨w',h1,h2,h3⟩:=h.store zOk Tryz.underlying205 (by unfold maxLen;omega) (zGh hs) unitElem_mk;refine⟨w',h1,?_,h3.grown⟩;rw[zGg,List.length_append];exact h2
theorem jZ {w:World} {H:Nat} {ty:TypeId} (fs:List (FuncId×Array Value)) (hg:w.heap[H]? = some (.cells (fs.map fnV).toArray ty (0,0))):Fns w none (some ⟨H,0,none⟩) fs:=fun j k cap hj=>by
 refine⟨H,0,rfl,(fun e=>by cases e),?_⟩;rw[Nat.zero_add,cell_of_row w H j _ _ _ hg,List.getElem?_toArray,List.getElem?_map,hj]
 rfl
end Go.Proofs.YtbpijnalmakfaaaGreatDoor
namespace Go.Proofs.YtbpijnalmakfaaaGreatDoor
open Go.RowKit
structure Good (t:Tr):Prop where
 a1:TelAt 107 (isT B.nck B.long t 1) t
 a2:TelAt 46 (isT B.nck B.long t 2) t
 a9:TelAt 109 (isT B.nck B.long t 9) t
 ln:t.2.len≤100000
 kk:∀(j:Nat) (s:Tr),t.2.get j=some s→TelAt (fnC 1) (isT B.nck B.long s 1) s
structure Nd1 (x:Nod) (f:Fr):Prop where
 hs:okST (x,f)
 hf:f.len≤100000
 ih:∀(i:Nat) (t:Tr),f.get i=some t→Good t
theorem yWw {t:Tr} (h:Good t) {c:Int} (hc:c=1∨c=2):TelAt (fnC c) (isT B.nck B.long t c) t:=by
 rcases hc with rfl | rfl
 ·exact h.a1
 ·exact h.a2
theorem yS {x:Nod} {f:Fr} {cs:List Int} (h:Nd1 x f) (hcs:∀c∈cs,c=1∨c=2):∀(i:Nat) (t:Tr) (c:Int),f.get i=some t→c∈cs→TelAt (fnC c) (isT B.nck B.long t c) t:=fun i t c hi hc=>yWw (h.ih i t hi) (hcs c hc)
theorem zUx:∀r∈RWS,r.cat=1→r.kind∈[(1:Int),(2:Int),(3:Int),(4:Int),(5:Int),(6:Int),(7:Int)]:=by decide
theorem bO (x:Nod) (f:Fr) (w:World) (v:Value) (n1:¬x.k=1) (n2:¬x.k=2) (n3:¬x.k=3) (n4:¬x.k=4) (n5:¬x.k=5) (n6:¬x.k=6) (n7:¬x.k=7) (hv:HasT w v (some (x,f))):Calls Tryz.prog 107 #[v] w (TelB (isT B.nck B.long (x,f) 1) w):=by
 have HE:Hid (isT B.nck B.long (x,f) 1=false):=Lib.hid (lG fun r hr hc e=>by have:=zUx r hr hc;rw[e] at this;simp only[List.mem_cons,List.not_mem_nil,or_false] at this;omega);rw[HE.out];obtain⟨q,p,A,c',rfl,hq,c0,c1,c2,c3,c4,hcc,hkid⟩:=InT.open hv;clear hv HE hq c1 c2 c3 c4 hcc hkid
 go_enter Tryz.func107,Tryz.ntmps107
 go_wp2_with fail
 go_ret
 exact qI rfl (Up.refl _)
theorem zY8 (x:Nod) (f:Fr) (w:World) (v:Value) (hk:x.k=23) (hn:Nd1 x f) (hx:B.Nx w) (hv:HasT w v (some (x,f))):Calls Tryz.prog 46 #[v] w (TelB (isT B.nck B.long (x,f) 2) w):=by
 have HE:Hid (isT B.nck B.long (x,f) 2=(texB x B.long isEmp&&seqK (IF f) [])):=Lib.hid (by show isX _ _ x (IF f) 2=_;rw[zZ hk (by rfl),sR (A:=B.long) (M:=isEmp) (fun _=>rfl) (fun _=>rfl),jS _ _ (by rfl)];rfl);rw[HE.out];obtain⟨q,p,A,c',rfl,hq,c0,c1,c2,c3,c4,hcc,hkid⟩:=InT.open hv;rw[hk] at c0;have cH:=zY6 x f w _ hv hn.hs.1 hx;have cT:∀w1,Up w w1→Calls Tryz.prog 103 #[.pointer (some ⟨q,p,none⟩),.slice none 0 0] w1 (TelB (seqK (IF f) []) w1):=fun w1 u=>zS [] x f w1 _ none 0 (Nx.up hx u) (hv.up u) hn.hf (by decide) (fun _ _ _ h=>by cases h) (fun _ _ _ _ h=>by cases h)
 obtain⟨hb,hhb⟩:∃hb,texB x B.long isEmp=hb:=⟨_,rfl⟩;obtain⟨tb,htb⟩:∃tb,seqK (IF f) []=tb:=⟨_,rfl⟩;rw[hhb,htb];rw[hhb] at cH;rw[htb] at cT;clear HE hhb htb hv hk hn hx hq c1 c2 c3 c4 hcc hkid
 cases hb
 ·go_enter Tryz.func46,Tryz.ntmps46
  go_wp2_with fail;refine cH.mono ?_;rintro e w1 ⟨rfl,u1⟩;go_wp2_with fail
  go_ret
  exact qI rfl u1
 ·go_enter Tryz.func46,Tryz.ntmps46
  go_wp2_with fail;refine cH.mono ?_;rintro e w1 ⟨rfl,u1⟩;go_wp2_with fail;refine(cT w1 u1).mono ?_;rintro e w2 ⟨rfl,u2⟩;go_wp2_with fail
  go_ret
  exact qI (by cases tb<;>rfl) (Up.trans (u1) u2)
theorem zY9 (x:Nod) (f:Fr) (w:World) (v:Value) (hk:x.k=25) (hn:Nd1 x f) (hx:B.Nx w) (hv:HasT w v (some (x,f))):Calls Tryz.prog 46 #[v] w (TelB (isT B.nck B.long (x,f) 2) w):=by
 have HE:Hid (isT B.nck B.long (x,f) 2=(numB x 0 0&&seqK (IF f) [2,2])):=Lib.hid (by show isX _ _ x (IF f) 2=_;rw[zZ hk (by rfl),jN,jS _ _ (by rfl)];rfl);rw[HE.out];obtain⟨q,p,A,c',rfl,hq,c0,c1,c2,c3,c4,hcc,hkid⟩:=InT.open hv;rw[hk] at c0;have cH:=yR x f w _ hv;have cT:∀w1,Up w w1→Calls Tryz.prog 103 #[.pointer (some ⟨q,p,none⟩),.slice (some ⟨w1.heap.size,0,none⟩) 2 2] (w1.alloc (.cells #[.func (.func 46) #[] #[],.func (.func 46) #[] #[]] 146)) (TelB (seqK (IF f) [2,2]) (w1.alloc (.cells #[.func (.func 46) #[] #[],.func (.func 46) #[] #[]] 146))):=fun w1 u=>zS [2,2] x f _ _ _ _ (Nx.up hx (u.alloc _)) (hv.up (u.alloc _)) hn.hf (by decide) (jZ (fnsC [2,2]) (heap_alloc_new w1 _)) (yS hn (by decide))
 obtain⟨hb,hhb⟩:∃hb,numB x 0 0=hb:=⟨_,rfl⟩;obtain⟨tb,htb⟩:∃tb,seqK (IF f) [2,2]=tb:=⟨_,rfl⟩;rw[hhb,htb];rw[hhb] at cH;rw[htb] at cT;clear HE hhb htb hv hk hn hx hq c1 c2 c3 c4 hcc hkid
 cases hb
 ·go_enter Tryz.func46,Tryz.ntmps46
  go_wp2_with fail;refine cH.mono ?_;rintro e w1 ⟨rfl,u1⟩;go_wp2_with fail
  go_ret
  exact qI rfl u1
 ·go_enter Tryz.func46,Tryz.ntmps46
  go_wp2_with fail;refine cH.mono ?_;rintro e w1 ⟨rfl,u1⟩;go_wp2_with fail;refine(cT w1 u1).mono ?_;rintro e w2 ⟨rfl,u2⟩;go_wp2_with fail
  go_ret
  exact qI (by cases tb<;>rfl) (Up.trans (u1.alloc _) u2)
theorem yWx:∀r∈RWS,r.cat=9→r.kind=34:=by decide
theorem dS (x:Nod) (f:Fr) (hn:Nd1 x f):TelAt 109 (isT B.nck B.long (x,f) 9) (x,f):=fun w v hx hv=>by
 by_cases hk:x.k=34
 ·have HE:Hid (isT B.nck B.long (x,f) 9=(texB x B.nck B.nck&&seqK (IF f) [2])):=Lib.hid (by show isX _ _ x (IF f) 9=_;rw[zZ hk (by rfl),sR (A:=B.nck) (M:=B.nck) (fun _=>rfl) (fun _=>rfl),jS _ _ (by rfl)];rfl)
  rw[HE.out];obtain⟨q,p,A,c',rfl,hq,c0,c1,c2,c3,c4,hcc,hkid⟩:=InT.open hv;rw[hk] at c0;have cH:=zRu x f w _ hv hn.hs.1 hn.hs.2.1;have cT:∀w1,Up w w1→Calls Tryz.prog 103 #[.pointer (some ⟨q,p,none⟩),.slice (some ⟨w1.heap.size,0,none⟩) 1 1] (w1.alloc (.cells #[.func (.func 46) #[] #[]] 146)) (TelB (seqK (IF f) [2]) (w1.alloc (.cells #[.func (.func 46) #[] #[]] 146))):=fun w1 u=>zS [2] x f _ _ _ _ (Nx.up hx (u.alloc _)) (hv.up (u.alloc _)) hn.hf (by decide) (jZ (fnsC [2]) (heap_alloc_new w1 _)) (yS hn (by decide))
  obtain⟨hb,hhb⟩:∃hb,texB x B.nck B.nck=hb:=⟨_,rfl⟩;obtain⟨tb,htb⟩:∃tb,seqK (IF f) [2]=tb:=⟨_,rfl⟩;rw[hhb,htb];rw[hhb] at cH;rw[htb] at cT;clear HE hhb htb hv hk hn hx hq c1 c2 c3 c4 hcc hkid
  cases hb
  ·go_enter Tryz.func109,Tryz.ntmps109
   go_wp2_with fail;refine cH.mono ?_;rintro e w1 ⟨rfl,u1⟩;go_wp2_with fail
   go_ret
   exact qI rfl u1
  ·go_enter Tryz.func109,Tryz.ntmps109
   go_wp2_with fail;refine cH.mono ?_;rintro e w1 ⟨rfl,u1⟩;go_wp2_with fail;refine(cT w1 u1).mono ?_;rintro e w2 ⟨rfl,u2⟩;go_wp2_with fail
   go_ret
   exact qI (by cases tb<;>rfl) (Up.trans (u1.alloc _) u2)
 ·have HE:Hid (isT B.nck B.long (x,f) 9=false):=Lib.hid (lG fun r hr hc e=>hk (by rw[←e];exact yWx r hr hc))
  rw[HE.out];obtain⟨q,p,A,c',rfl,hq,c0,c1,c2,c3,c4,hcc,hkid⟩:=InT.open hv;clear hv HE hq c1 c2 c3 c4 hcc hkid
  go_enter Tryz.func109,Tryz.ntmps109
  go_wp2_with fail
  go_ret
  exact qI rfl (Up.refl _)
def Sb (B:Nat) (X:Nat→Prop) (w:World) (v:Value) (q:Nat):Prop:=B≤q∧q<w.heap.size∧v.ownBlock≠some q∧¬X q
def PkSt (w:World) (lb cb B:Nat) (X:Nat→Prop) (vo:Value) (cs:List Cel):Prop:=
 w.heap[lb]? = some (.cells #[.func (.func 158) #[] #[.pointer (some ⟨lb,0,none⟩),.pointer (some ⟨cb,0,none⟩)]] 116 (0,0))∧w.heap[cb]? = some (.cells #[vo] 36 (0,0))∧
  (vo.ownBlock≠some lb∧vo.ownBlock≠some cb)∧∃vs,w.ownsRow B 78 5 vo cs.length (flat cs vs)∧CsF w (Sb B X w vo) vs cs
def PkEnd (w w':World) (cb:Nat) (vo vo':Value):Prop:=
 w'.os=w.os∧w'.tape=w.tape∧w'.output=w.output∧w.heap.size≤w'.heap.size∧(∀b,b<w.heap.size→b≠cb→vo.ownBlock≠some b→w'.heap[b]? = w.heap[b]?)∧(vo'.ownBlock=vo.ownBlock∨∀g,vo'.ownBlock=some g→w.heap.size≤g)
def yWy (t:Tr) (lb cb B:Nat) (X:Nat→Prop) (vo:Value) (cs:List Cel) (w:World) (e:Ending) (w':World):Prop:=
 e = .returned (.int .i64 ((cs.length+t.2.sz:Nat):Int))∧∃vo',PkSt w' lb cb B X vo' (cs++celT t cs.length)∧PkEnd w w' cb vo vo'
theorem PkEnd.refl (w:World) (cb:Nat) (vo:Value):PkEnd w w cb vo vo:=⟨rfl,rfl,rfl,Nat.le_refl _,fun _ _ _ _=>rfl,.inl rfl⟩
theorem PkEnd.trans {a b c:World} {cb:Nat} {u v x:Value} (h:PkEnd a b cb u v) (k:PkEnd b c cb v x):PkEnd a c cb u x:=by
 obtain⟨h1,h2,h3,h4,h5,h6⟩:=h;obtain⟨k1,k2,k3,k4,k5,k6⟩:=k;refine⟨k1.trans h1,k2.trans h2,k3.trans h3,Nat.le_trans h4 k4,fun i hi hc hv=>?_,?_⟩
 ·refine(k5 i (by omega) hc ?_).trans (h5 i hi hc hv)
  rcases h6 with h | h
  ·rw[h];exact hv
  ·intro e;have:=h i e;omega
 ·rcases k6 with k | k
  ·rw[k]
   exact h6
  ·exact .inr fun g hg=>by have:=k g hg;omega
theorem PkEnd.below {a b c:World} {cb:Nat} {u v:Value} (h:PkEnd a b cb u v) (k:Below b.heap.size b c):PkEnd a c cb u v:=h.trans ⟨k.os,k.tape,k.output,k.size,fun i hi _ _=>k.block i hi,.inl rfl⟩
def Xc (X:Nat→Prop) (C:Nat) (vk:Value) (q:Nat):Prop:=X q∨q=C∨vk.ownBlock=some q
def LaRel (w:World) (lb cb B C:Nat) (X:Nat→Prop) (vo0 vo vk:Value) (x:Nod) (CS:List Cel) (RS:List Int) (wr:World):Prop:=
 PkSt wr lb cb B (Xc X C vk) vo CS∧wr.ownsRow (C+1) 3 1 vk RS.length (ints RS)∧wr.heap[C]? = some (.cells #[.int .i64 x.k,.int .i64 x.n,.string x.a,.string x.m,vk] 78 (0,0))∧PkEnd w wr cb vo0 vo∧
  (∀g,vo.ownBlock=some g→g≠C∧vk.ownBlock≠some g)
theorem LaRel.step {w wr w2 w6:World} {lb cb B C:Nat} {X:Nat→Prop} {vo0 vo vo2 vk v6:Value} {x:Nod} {CS CS2:List Cel} {RS:List Int} {z:Int} {ob:Obj} (hC:w.heap.size=C) (hlc:lb<C∧cb<C∧B≤C)
  (h:LaRel w lb cb B C X vo0 vo vk x CS RS wr) (h2:PkSt w2 lb cb B (Xc X C vk) vo2 CS2) (he:PkEnd wr w2 cb vo vo2)
  (ho6:w6.ownsRow (C+1) 3 1 v6 (RS.length+1) (ints RS++[.int .i64 z])) (hg6:(w2.alloc ob).grownBy w6 vk.ownBlock) (hat6:v6.ownBlock=vk.ownBlock∨v6.ownBlock=some (w2.heap.size+1)) :
  LaRel w lb cb B C X vo0 vo2 v6 x CS2 (RS++[z]) (w6.setCell ⟨C,4,none⟩ v6)∧(∀b,b<wr.heap.size→b≠cb→vo.ownBlock≠some b→b≠C→vk.ownBlock≠some b→(w6.setCell ⟨C,4,none⟩ v6).heap[b]? = wr.heap[b]?):=by
 obtain⟨⟨_,_,_,vs,ho,hf⟩,hk,hc,hend,hap⟩:=h;obtain⟨g1,g2,g3,vs2,ho2,hf2⟩:=h2;obtain⟨e1,e2,e3,hs2,hst,hvo⟩:=he;have hCr:=qC hc;have hkl:=hk.lt;have h6l:=ho6.lt;have hol2:=ho2.lt;have hsa:(w2.alloc ob).heap.size=w2.heap.size+1:=by simp
 have hs6:=hg6.size;have hsz7:(w6.setCell ⟨C,4,none⟩ v6).heap.size=w6.heap.size:=by simp[World.setCell]
 have hw:w.heap.size≤wr.heap.size:=hend.2.2.2.1;have hap2:∀g,vo2.ownBlock=some g→g≠C∧vk.ownBlock≠some g:=by
  intro g hg
  rcases hvo with h | h
  ·exact hap g (by rw[←h];exact hg)
  ·have h1:=h g hg
   exact⟨by omega,fun e=>by have:=(hkl g e).2;omega⟩
 have hcC:cb≠C:=by omega
 have hlC:lb≠C:=by omega
 have hck:vk.ownBlock≠some cb:=fun e=>by have:=(hkl cb e).1;omega
 have hlk:vk.ownBlock≠some lb:=fun e=>by have:=(hkl lb e).1;omega
 have h67:∀b,b<w2.heap.size→b≠C→vk.ownBlock≠some b→(w6.setCell ⟨C,4,none⟩ v6).heap[b]? = w2.heap[b]?:=by
  intro b h1 h2 h3;rw[Below.heap_setCell _ _ _ _ h2,hg6.block b (by omega) (fun e=>h3 e.symm),Below.heap_alloc _ _ _ h1]
 have hC2:w2.heap[C]? = some (.cells #[.int .i64 x.k,.int .i64 x.n,.string x.a,.string x.m,vk] 78 (0,0)):=(hst C hCr (by omega) (fun e=>(hap C e).1 rfl)).trans hc;have hC6:w6.heap[C]? = some (.cells #[.int .i64 x.k,.int .i64 x.n,.string x.a,.string x.m,vk] 78 (0,0)):=by
  rw[hg6.block C (by omega) (fun e=>by have:=(hkl C e.symm).1;omega),Below.heap_alloc _ _ _ (by omega)];exact hC2
 refine⟨⟨⟨?_,?_,g3,vs2,?_,?_⟩,?_,?_,?_,?_⟩,?_⟩
 ·rw[h67 lb (qC g1) hlC hlk];exact g1
 ·rw[h67 cb (qC g2) hcC hck];exact g2
 ·have h1:w6.ownsRow B 78 5 vo2 CS2.length (flat CS2 vs2):=(ho2.alloc ob).kept hg6 (by
   cases hv:vo2.ownBlock with
   | none=>exact .inl rfl
   | some g=>exact .inr fun e=>(hap2 g hv).2 e.symm)
  exact zC h1 _ _ fun g hg=>(hap2 g hg).1
 ·refine hf2.keep (fun q hq=>?_) fun b hb=>?_
  ·obtain⟨q1,q2,q3,q4⟩:=hq
   refine⟨q1,by omega,q3,fun hx=>q4 ?_⟩
   rcases hx with hx | hx | hx
   ·exact .inl hx
   ·exact .inr (.inl hx)
   ·rcases hat6 with h | h
    ·exact .inr (.inr (by rw[←h];exact hx))
    ·rw[h] at hx;injection hx with hx;omega
  ·obtain⟨q1,q2,q3,q4⟩:=hb
   exact h67 b q2 (fun e=>q4 (.inr (.inl e))) (fun e=>q4 (.inr (.inr e)))
 ·rw[zZx,List.length_append]
  exact zC ho6 _ _ fun g hg=>by have:=(h6l g hg).1;simp only;omega
 ·rw[yQ _ hC6];rfl
 ·obtain⟨d1,d2,d3,d4,d5,d6⟩:=hend
  have hend2:PkEnd w w2 cb vo0 vo2:=PkEnd.trans ⟨d1,d2,d3,d4,d5,d6⟩ ⟨e1,e2,e3,hs2,hst,hvo⟩;obtain⟨m1,m2,m3,m4,m5,m6⟩:=hend2;refine⟨(show w6.os=_ from hg6.os.trans m1),(show w6.tape=_ from hg6.tape.trans m2),(show w6.output=_ from hg6.output.trans m3),by omega,fun b hb hbc hbv=>?_,m6⟩;rw[h67 b (by omega) (by omega) (fun e=>by have:=(hkl b e).1;omega)];exact m5 b hb hbc hbv
 ·intro g hg
  refine⟨(hap2 g hg).1,?_⟩
  rcases hat6 with h | h
  ·rw[h];exact(hap2 g hg).2
  ·rw[h];intro e;injection e with e;have:=(hol2 g hg).2;omega
 ·intro b hb hbc hbv hbC hbk
  rw[h67 b (by omega) hbC hbk];exact hst b hb hbc hbv
theorem LaRel.end {w wr w4:World} {lb cb B C:Nat} {X:Nat→Prop} {vo0 vo vk v4:Value} {x:Nod} {CS:List Cel} {RS:List Int} {ob:Obj} {vs:List Value} (hC:w.heap.size=C) (hlc:lb<C∧cb<C∧B≤C) (hX:∀q,X q→q<C) (hXc:X cb) (hne:lb≠cb) (hvo:vo.ownBlock≠some lb∧vo.ownBlock≠some cb)
  (g1:wr.heap[lb]? = some (.cells #[.func (.func 158) #[] #[.pointer (some ⟨lb,0,none⟩),.pointer (some ⟨cb,0,none⟩)]] 116 (0,0))) (g2:wr.heap[cb]? = some (.cells #[vo] 36 (0,0)))
  (hf:CsF wr (Sb B (Xc X C vk) wr vo) vs CS)
  (hk:wr.ownsRow (C+1) 3 1 vk RS.length (ints RS)) (hend:PkEnd w wr cb vo0 vo) (hap:∀g,vo.ownBlock=some g→g≠C∧vk.ownBlock≠some g)
  (ho4:w4.ownsRow B 78 5 v4 (CS.length+1) (flat CS vs++[.int .i64 x.k,.int .i64 x.n,.string x.a,.string x.m,vk])) (hg4:(wr.alloc ob).grownBy w4 vo.ownBlock) (hat4:v4.ownBlock=vo.ownBlock∨v4.ownBlock=some (wr.heap.size+1)) :
  PkSt (w4.setCell ⟨cb,0,none⟩ v4) lb cb B X v4 (CS++[⟨x,RS⟩])∧PkEnd w (w4.setCell ⟨cb,0,none⟩ v4) cb vo0 v4:=by
 have hkl:=hk.lt;have h4l:=ho4.lt;have hsa:(wr.alloc ob).heap.size=wr.heap.size+1:=by simp
 have hs4:=hg4.size;have hsz7:(w4.setCell ⟨cb,0,none⟩ v4).heap.size=w4.heap.size:=by simp[World.setCell]
 have hw:w.heap.size≤wr.heap.size:=hend.2.2.2.1;have hst:∀b,b<wr.heap.size→b≠cb→vo.ownBlock≠some b→(w4.setCell ⟨cb,0,none⟩ v4).heap[b]? = wr.heap[b]?:=by
  intro b h1 h2 h3;rw[Below.heap_setCell _ _ _ _ h2,hg4.block b (by omega) (fun e=>h3 e.symm),Below.heap_alloc _ _ _ h1]
 obtain⟨hvl,hvc⟩:=hvo;have hlr:=qC g1;have hcr:=qC g2;have hc4:w4.heap[cb]? = some (.cells #[vo] 36 (0,0)):=by
  rw[hg4.block cb (by have:=qC g2;omega) (fun e=>hvc e.symm),Below.heap_alloc _ _ _ (qC g2)];exact g2
 have hS:∀q,B≤q→q<wr.heap.size→vo.ownBlock≠some q→¬X q→Sb B X (w4.setCell ⟨cb,0,none⟩ v4) v4 q:=by
  intro q h1 h2 h3 h4;refine⟨h1,by omega,?_,h4⟩
  rcases hat4 with h | h
  ·rw[h];exact h3
  ·rw[h];intro e;injection e with e;omega
 refine⟨⟨?_,?_,?_,vs++[vk],?_,?_⟩,?_⟩
 ·rw[hst lb (qC g1) hne hvl];exact g1
 ·rw[yQ _ hc4];rfl
 ·rcases hat4 with h | h
  ·rw[h];exact⟨hvl,hvc⟩
  ·rw[h]
   exact⟨fun e=>by injection e with e;omega,fun e=>by injection e with e;omega⟩
 ·have h4c:v4.ownBlock≠some cb:=by
   rcases hat4 with h | h
   ·rw[h];exact hvc
   ·rw[h];intro e;injection e with e;omega
  rw[nC _ _ hf.len,List.length_append];exact zC ho4 _ _ fun g hg=>fun e=>h4c (by rw[hg,e])
 ·refine CsF.app (hf.keep (fun q hq=>hS q hq.1 hq.2.1 hq.2.2.1 fun hx=>hq.2.2.2 (.inl hx)) fun b hb=>hst b hb.2.1 (fun e=>hb.2.2.2 (.inl (by rw[e];exact hXc))) hb.2.2.1) ⟨?_,trivial⟩
  refine(SpS.own (S:=fun q'=>vk.ownBlock=some q') hk fun g hg=>hg).keep (fun q' h=>hS q' (by have:=(hkl q' h).1;omega) (hkl q' h).2 (fun e=>(hap q' e).2 h) fun hx=>by have:=(hkl q' h).1;have:=hX q' hx;omega) fun b h=>hst b (hkl b h).2 (by have:=(hkl b h).1;omega) fun e=>(hap b e).2 h
 ·obtain⟨m1,m2,m3,m4,m5,m6⟩:=hend
  refine⟨(show w4.os=_ from hg4.os.trans m1),(show w4.tape=_ from hg4.tape.trans m2),(show w4.output=_ from hg4.output.trans m3),by omega,fun b hb hbc hbv=>?_,?_⟩
  ·rw[hst b (by omega) hbc ?_]
   ·exact m5 b hb hbc hbv
   ·rcases m6 with h | h
    ·rw[h];exact hbv
    ·intro e;have:=h b e;omega
  ·rcases hat4 with h | h
   ·rw[h];exact m6
   ·exact .inr fun g hg=>by rw[h] at hg;injection hg with hg;omega
end Go.Proofs.YtbpijnalmakfaaaGreatDoor
