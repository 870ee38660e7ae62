/-
  Layer 7, the program's writer: the rule of a node; operations.
-/
import Derived.Test.YtbpijnalmakfaaaGreatDoorGw39
set_option maxHeartbeats 40000000
set_option maxRecDepth 100000
namespace Go.Proofs.YtbpijnalmakfaaaGreatDoor
open Go.RowKit
theorem zEj (k:Nat) (h:k<5):opRu k=((lvl (opN ((k+1:Nat):Int)):Nat):Int):=by
 obtain rfl | rfl | rfl | rfl | rfl:k=0∨k=1∨k=2∨k=3∨k=4:=by omega
 all_goals rfl
theorem zEk (k:Nat) (h:k<5):opLe k=((lft (opN ((k+1:Nat):Int)):Nat):Int):=by
 obtain rfl | rfl | rfl | rfl | rfl:k=0∨k=1∨k=2∨k=3∨k=4:=by omega
 all_goals rfl
theorem zEl (k:Nat) (h:k<5):opRi k=((lvl (opN ((k+1:Nat):Int))+1:Nat):Int):=by
 obtain rfl | rfl | rfl | rfl | rfl:k=0∨k=1∨k=2∨k=3∨k=4:=by omega
 all_goals rfl
theorem zKk (k:Nat) (h:k<5):opSg k=signB ((k+1:Nat):Int):=by
 obtain rfl | rfl | rfl | rfl | rfl:k=0∨k=1∨k=2∨k=3∨k=4:=by omega
 all_goals rfl
def LoC (W:World) (bw:Nat) (t:Tr) (c:Nat):Prop:=∀(X:Nat→Obj→Prop) (w:World) (n:Nat) (Ys:List ByteArray) (v:Value),HasT W v (some t)→St7 W bw X n Ys w→n+c≤1000000→Calls Tryz.prog 75 #[.pointer (some ⟨bw,0,none⟩),v] w (WrE W bw X (n+c) (Ys++[txE qE t]))
section
variable {W:World} {bw:Nat}
theorem zKl (k:Nat) (hk:k<5) (f:Fr) (hO:Op7 W):RuW W (opN ((k+1:Nat):Int),f):=fun w v hv hu=>by
 rw[show((lvl (opN ((k+1:Nat):Int),f).1:Nat):Int)=opRu k from(zEj k hk).symm];obtain⟨tp,zp,hpl⟩:=hO.up hu;obtain⟨q,p,A,c,rfl,hq,c0,c1,-⟩:=InT.open hv;have c0:W.cell? ⟨q,p,none⟩=some (.int .i64 31):=c0;have c1:W.cell? ⟨q,p+1,none⟩=some (.int .i64 ((k+1:Nat):Int)):=c1;have k0:=hu.cell c0;have k1:=hu.cell c1;obtain⟨kk,hkk⟩:∃kk,((k+1:Nat):Int)=kk:=⟨_,rfl⟩;rw[hkk] at k1 c1;have HKK:=Lib.hid hkk;have HC1:=Lib.hid k1;clear hv hkk c0 c1
 go_enter Tryz.func69,Tryz.ntmps69
 go_wp2_with (refine wpList_load_row rfl 163 (.global 0) rfl 0 rfl tp opV zp _ hpl Tryz.underlying163 rfl (by kernel_rfl) ?_)
 generalize hA:opV=AR
 have HAR:=Lib.hid hA;clear hA hpl k0 k1
 go_loopw [20] (fun x wr=>∃j:Nat,j≤k∧x = .int .i64 (j:Int)∧Up w wr) (fun x _=>6-(intOf x).toNat)
 case atStart=>exact⟨0,Nat.zero_le _,rfl,Up.refl _⟩
 case round=>
  obtain⟨j,hj,rfl,hur⟩:=hrel;have hlt:j<5:=by omega
  have hix:∀W,(Instr.index 163 (.agg AR) (.int .i64 (j:Int))).run Tryz.prog W = .ok (.agg #[.string (opSg j),.int .i64 ((j+1:Nat):Int),.int .i64 (opRu j),.int .i64 (opLe j),.int .i64 (opRi j)]) W:=fun W=>by rw[←HAR.out];exact zQ0 j hlt W
  have hw1:IntKind.i64.wrap ((j:Int)+1)=((j+1:Nat):Int):=by rw[IntKind.wrap_i64];omega
  have hjz:(j:Int)<5:=by omega
  obtain⟨sg,hsg⟩:∃sg,opSg j=sg:=⟨_,rfl⟩;obtain⟨ka,hka⟩:∃ka,((j+1:Nat):Int)=ka:=⟨_,rfl⟩;obtain⟨ru,hru⟩:∃ru,opRu j=ru:=⟨_,rfl⟩;obtain⟨le,hle⟩:∃le,opLe j=le:=⟨_,rfl⟩;obtain⟨ri,hri⟩:∃ri,opRi j=ri:=⟨_,rfl⟩;rw[hsg,hka,hru,hle,hri] at hix;rw[hka] at hw1;have HSG:=Lib.hid hsg;have HKA:=Lib.hid hka;have HRU:=Lib.hid hru;have HLE:=Lib.hid hle;have HRI:=Lib.hid hri;obtain⟨Wr1,hWr1⟩:∃Wr1,wr.alloc (.cells #[.string sg,.int .i64 ka,.int .i64 ru,.int .i64 le,.int .i64 ri] 162)=Wr1:=⟨_,rfl⟩;have ur:Up wr Wr1:=by rw[←hWr1];exact(Up.refl wr).alloc _
  have b1:Wr1.heap[wr.heap.size]? = some (.cells #[.string sg,.int .i64 ka,.int .i64 ru,.int .i64 le,.int .i64 ri] 162 (0,0)):=by rw[←hWr1];exact heap_alloc_new wr _
  have x1:Wr1.cell? ⟨wr.heap.size,1,none⟩=some (.int .i64 ka):=cell_of_row _ wr.heap.size 1 _ _ _ b1;have HW1:=Lib.hid hWr1;have x2:Wr1.cell? ⟨wr.heap.size,2,none⟩=some (.int .i64 ru):=cell_of_row _ wr.heap.size 2 _ _ _ b1;have UF:=Lib.hid (hur.trans ur);have n1:Wr1.cell? ⟨q,p+1,none⟩=some (.int .i64 kk):=(hur.trans ur).cell HC1.out
  by_cases he:ka=kk
  ·have hjk:j=k:=by have:=HKK.out;have:=HKA.out;omega
   subst he;subst hjk;clear hsg hka hru hle hri hWr1 ur b1 hur;go_wp2_with fail;rw[HW1.out]
   go_quiet (fail)
   go_wp2_with fail
   go_ret
   exact⟨congrArg (fun z=>Ending.returned (.int .i64 z)) HRU.out.symm,UF.out.drewN _⟩
  ·have hjk:¬j=k:=fun e=>he (by rw[←HKA.out,←HKK.out,e])
   clear hsg hka hru hle hri hWr1 ur b1 hur;go_wp2_with fail;rw[HW1.out]
   go_quiet (fail)
   go_wp2_with fail
   go_roundw
   case rel=>exact⟨j+1,by omega,zV (by have:=HKA.out;omega),UF.out.drewN _⟩
   case measure=>simp[intOf];have:=HKA.out;omega
theorem jL_op (a s b:ByteArray) {T:ByteArray} (k:Int) (hs:s=signB k) (h:T=a++sgB k++b):jL ([a]++[s,b])=T.data.toList:=by
 rw[h,hs];simp only[List.cons_append,List.nil_append,jL,List.map_cons,List.map_nil,jT,nmT,qM,List.append_assoc,zTs]
theorem yU1 (k:Nat) (hk:k<5) (a b:Tr) (hB:W.heap.size≤bw) (hO:Op7 W) (ea:isT B.nck B.long a 2=true) (eb:isT B.nck B.long b 2=true) (cA:WriC W bw a (lft (opN ((k+1:Nat):Int))) (12*szT a)) (cB:WriC W bw b (lvl (opN ((k+1:Nat):Int))+1) (12*szT b))
  (X:Nat→Obj→Prop) (w:World) (n:Nat) (Ys:List ByteArray) (v:Value) (hv:HasT W v (some (opN ((k+1:Nat):Int),fr2 a b))) (hs:St7 W bw X n Ys w) (hn:n+(1+12*szT a+12*szT b)≤1000000) :
  Calls Tryz.prog 74 #[.pointer (some ⟨bw,0,none⟩),v] w (WrE W bw X (n+(1+12*szT a+12*szT b)) (Ys++[txE qE (opN ((k+1:Nat):Int),fr2 a b)])):=by
 have hzz:=jL_op (atX qE a (lft (opN ((k+1:Nat):Int)))) (opSg k) (atX qE b (lvl (opN ((k+1:Nat):Int))+1)) ((k+1:Nat):Int) (zKk k hk) (zYj (nb:=qE) (k:=((k+1:Nat):Int)) ea eb);obtain⟨tp,zp,hpl⟩:=hO.up hs.1;obtain⟨q,p,A,cp0,rfl,hq,k0,k1,k2,k3,k4,hcc,hkid⟩:=InT.open hv;obtain⟨kb,ko,rfl,hkb,⟨vaa,kaa,iaa⟩,⟨vbb,kbb,ibb⟩,-⟩:=hkid (by show 0<2;omega);obtain⟨qa,pa,rfl⟩:=InT.ptr iaa;obtain⟨qb,pb,rfl⟩:=InT.ptr ibb;have k1:W.cell? ⟨q,p+1,none⟩=some (.int .i64 ((k+1:Nat):Int)):=k1;have k4:W.cell? ⟨q,p+4,none⟩=some (.slice (some ⟨kb,ko,none⟩) 2 cp0):=k4;have kaa:W.cell? ⟨kb,ko,none⟩=some (.pointer (some ⟨qa,pa,none⟩)):=kaa;have kbb:W.cell? ⟨kb,ko+1,none⟩=some (.pointer (some ⟨qb,pb,none⟩)):=kbb;have HIa:Hid (HasT W (.pointer (some ⟨qa,pa,none⟩)) (some a)):=Lib.hid iaa;have HIb:Hid (HasT W (.pointer (some ⟨qb,pb,none⟩)) (some b)):=Lib.hid ibb;have HKa:=Lib.hid kaa;have HKb:=Lib.hid kbb;have HK4:=Lib.hid k4;have HS:=Lib.hid hs;have HN:=Lib.hid hn;have HZZ:=Lib.hid hzz;have HcA:=Lib.hid cA;have HcB:=Lib.hid cB;obtain⟨ZZ,hZZ⟩:∃ZZ,Ys++[txE qE (opN ((k+1:Nat):Int),fr2 a b)]=ZZ:=⟨_,rfl⟩;rw[hZZ];have HZ:=Lib.hid hZZ;obtain⟨kk,hkk⟩:∃kk,((k+1:Nat):Int)=kk:=⟨_,rfl⟩;have HKK:=Lib.hid hkk
 have HC1:Hid (W.cell? ⟨q,p+1,none⟩=some (.int .i64 kk)):=Lib.hid (by rw[←hkk];exact k1);obtain⟨CC,hCC⟩:∃CC,1+12*szT a+12*szT b=CC:=⟨_,rfl⟩;have HCC:=Lib.hid hCC;rw[hCC];have H0:Hid (St7 W bw X (if k<0 then n+CC else n) (if k<0 then ZZ else Ys) w):=Lib.hid (by rw[if_neg (Nat.not_lt_zero _),if_neg (Nat.not_lt_zero _)];exact hs);clear hv hs hn hzz hZZ k0 k1 k2 k3 k4 hkid kaa iaa kbb ibb cA cB hkk hCC
 go_enter Tryz.func74,Tryz.ntmps74
 go_wp2_with (refine wpList_load_row rfl 163 (.global 0) rfl 0 rfl tp opV zp _ hpl Tryz.underlying163 rfl (by kernel_rfl) ?_)
 generalize hA:opV=AR
 have HAR:=Lib.hid hA;clear hA hpl
 go_loopw [7] (fun x wr=>∃j:Nat,j≤5∧x = .int .i64 (j:Int)∧St7 W bw X (if k<j then n+CC else n) (if k<j then ZZ else Ys) wr) (fun x _=>6-(intOf x).toNat)
 case atStart=>exact⟨0,Nat.zero_le _,rfl,H0.out⟩
 case round=>
  obtain⟨j,hj,rfl,hsr⟩:=hrel;have HSR:=Lib.hid hsr;clear hsr
  by_cases hlt:j<5
  ·skip
   have hix:∀W,(Instr.index 163 (.agg AR) (.int .i64 (j:Int))).run Tryz.prog W = .ok (.agg #[.string (opSg j),.int .i64 ((j+1:Nat):Int),.int .i64 (opRu j),.int .i64 (opLe j),.int .i64 (opRi j)]) W:=fun W=>by rw[←HAR.out];exact zQ0 j hlt W
   have hw1:IntKind.i64.wrap ((j:Int)+1)=((j+1:Nat):Int):=by rw[IntKind.wrap_i64];omega
   have hjz:(j:Int)<5:=by omega
   obtain⟨sg,hsg⟩:∃sg,opSg j=sg:=⟨_,rfl⟩;obtain⟨ka,hka⟩:∃ka,((j+1:Nat):Int)=ka:=⟨_,rfl⟩;obtain⟨ru,hru⟩:∃ru,opRu j=ru:=⟨_,rfl⟩;obtain⟨le,hle⟩:∃le,opLe j=le:=⟨_,rfl⟩;obtain⟨ri,hri⟩:∃ri,opRi j=ri:=⟨_,rfl⟩;rw[hsg,hka,hru,hle,hri] at hix;rw[hka] at hw1;have HSG:=Lib.hid hsg;have HKA:=Lib.hid hka;have HRU:=Lib.hid hru;have HLE:=Lib.hid hle;have HRI:=Lib.hid hri;obtain⟨Wr1,hWr1⟩:∃Wr1,wr.alloc (.cells #[.string sg,.int .i64 ka,.int .i64 ru,.int .i64 le,.int .i64 ri] 162)=Wr1:=⟨_,rfl⟩;have ur:Up wr Wr1:=by rw[←hWr1];exact(Up.refl wr).alloc _
   have b1:Wr1.heap[wr.heap.size]? = some (.cells #[.string sg,.int .i64 ka,.int .i64 ru,.int .i64 le,.int .i64 ri] 162 (0,0)):=by rw[←hWr1];exact heap_alloc_new wr _
   have x1:Wr1.cell? ⟨wr.heap.size,1,none⟩=some (.int .i64 ka):=cell_of_row _ wr.heap.size 1 _ _ _ b1;have HW1:=Lib.hid hWr1;have x0:Wr1.cell? ⟨wr.heap.size,0,none⟩=some (.string sg):=cell_of_row _ wr.heap.size 0 _ _ _ b1;have x3:Wr1.cell? ⟨wr.heap.size,3,none⟩=some (.int .i64 le):=cell_of_row _ wr.heap.size 3 _ _ _ b1;have x4:Wr1.cell? ⟨wr.heap.size,4,none⟩=some (.int .i64 ri):=cell_of_row _ wr.heap.size 4 _ _ _ b1;have n1:Wr1.cell? ⟨q,p+1,none⟩=some (.int .i64 kk):=(HSR.out.1.trans ur).cell HC1.out;have UR:=Lib.hid ur
   by_cases he:ka=kk
   ·have hjk:j=k:=by have:=HKK.out;have:=HKA.out;omega
    have hst:=HSR.out;rw[if_neg (by omega),if_neg (by omega)] at hst;have HST:Hid (St7 W bw (fun B q=>X B q∨(B=wr.heap.size∧q = .cells #[.string sg,.int .i64 ka,.int .i64 ru,.int .i64 le,.int .i64 ri] 162)) n Ys Wr1):=Lib.hid (by rw[←hWr1];exact hst.keep _);have m4:=HST.out.1.cell HK4.out;have ma:=HST.out.1.cell HKa.out;subst he;have HJK:=Lib.hid hjk;clear hsg hka hru hle hri hWr1 ur b1 hst hjk;go_wp2_with fail;rw[HW1.out]
    go_quiet (fail)
    go_wp2_with fail;obtain⟨W2,hW2⟩:∃W2,Wr1.drewN nq=W2:=⟨_,rfl⟩;rw[hW2];have u2:Up Wr1 W2:=by rw[←hW2];exact qD (Below.refl _ _) nq
    have hle2:((lft (opN ((k+1:Nat):Int)):Nat):Int)=le:=by rw[←zEk k hk,←HJK.out,HLE.out]
    have hri2:((lvl (opN ((k+1:Nat):Int))+1:Nat):Int)=ri:=by rw[←zEl k hk,←HJK.out,HRI.out]
    have cWA:=fun w' (u:Up W2 w')=>HcA.out _ w' n Ys _ HIa.out ((HST.out.up u2).up u) (by have:=HN.out;omega)
    rw[hle2] at cWA;have CWA:=Lib.hid cWA;have m4:=u2.cell m4;have ma:=u2.cell ma;have x3:=u2.cell x3;have HRI2:=Lib.hid hri2;clear cWA hW2 u2 n1 x0 x1 x4 hle2 hri2
    go_region_held3 (fun w'=>w'.cell? ⟨q,p+4,none⟩=some (.slice (some ⟨kb,ko,none⟩) 2 cp0)∧w'.cell? ⟨kb,ko,none⟩=some (.pointer (some ⟨qa,pa,none⟩))∧w'.cell? ⟨wr.heap.size,3,none⟩=some (.int .i64 le)) (first | go_keep | (refine⟨?_,?_,?_⟩<;>assumption)) (first
     | (go_at_call 36;refine Calls.mono (CWA.out _ (by first | exact Below.refl _ _ | exact qD (Below.refl _ _) 1)) ?_;rintro e3 w3 ⟨⟨y3,rfl⟩,h3⟩;have m4:=h3.1.cell HK4.out;have ma:=h3.1.cell HKa.out;have r3:=h3.row (Or.inr ⟨rfl,rfl⟩);have x3:w3.cell? ⟨wr.heap.size,3,none⟩=some (.int .i64 le):=(cell_of_row _ wr.heap.size 3 _ _ _ r3);have H3:=Lib.hid h3;clear h3 r3 CWA))
    all_goals go_wp2_with fail
    have r3:=H3.out.row (Or.inr ⟨rfl,rfl⟩);have x0:w3.cell? ⟨wr.heap.size,0,none⟩=some (.string sg):=cell_of_row _ wr.heap.size 0 _ _ _ r3;have x4:w3.cell? ⟨wr.heap.size,4,none⟩=some (.int .i64 ri):=cell_of_row _ wr.heap.size 4 _ _ _ r3;have mb:=H3.out.1.cell HKb.out;have cWB:=fun w' (u:Up w3 w')=>kA sg b _ _ hB HcB.out w' _ _ _ HIb.out (H3.out.up u) (by have:=HN.out;omega)
    rw[HRI2.out] at cWB;have CWB:=Lib.hid cWB;clear cWB r3 ma
    rename_i hh1
    clear hh1
    go_region_held3 (fun w'=>w'.cell? ⟨wr.heap.size,0,none⟩=some (.string sg)∧w'.cell? ⟨q,p+4,none⟩=some (.slice (some ⟨kb,ko,none⟩) 2 cp0)∧w'.cell? ⟨kb,ko+1,none⟩=some (.pointer (some ⟨qb,pb,none⟩))∧w'.cell? ⟨wr.heap.size,4,none⟩=some (.int .i64 ri)) (first | go_keep | (refine⟨?_,?_,?_,?_⟩<;>assumption)) (first
     | (go_at_call 73;refine Calls.mono (CWB.out _ (by first | exact Below.refl _ _ | exact qD (Below.refl _ _) 1)) ?_;rintro e4 w4 ⟨⟨y4,rfl⟩,h4⟩;have n4:=h4.1.cell HK4.out;have nb:=h4.1.cell HKb.out;have r4:=h4.row (Or.inr ⟨rfl,rfl⟩);have z0:w4.cell? ⟨wr.heap.size,0,none⟩=some (.string sg):=(cell_of_row _ wr.heap.size 0 _ _ _ r4);have z4:w4.cell? ⟨wr.heap.size,4,none⟩=some (.int .i64 ri):=(cell_of_row _ wr.heap.size 4 _ _ _ r4);have H4:=Lib.hid h4;clear h4 r4 CWB))
    all_goals go_wp2_with fail
    go_roundw
    case rel=>
     refine⟨j+1,by omega,zV (by have:=HKA.out;omega),?_⟩;have hjk:=HJK.out;rw[if_pos (by omega),if_pos (by omega)];have h:=H4.out.drop (X:=X) fun B o h=>Or.inl h
     have hsg:opSg k=sg:=by rw[←hjk];exact HSG.out
     rw[←hsg] at h;simp only[List.append_assoc] at h;rw[←HZ.out];exact St7.more (St7.join h (by simp) HZZ.out) (by have:=HCC.out;omega)
    case measure=>simp[intOf];have:=HKA.out;omega
   ·have hjk:¬j=k:=fun e=>he (by rw[←HKA.out,←HKK.out,e])
    clear hsg hka hru hle hri hWr1 ur b1;go_wp2_with fail;rw[HW1.out]
    go_quiet (fail)
    go_wp2_with fail
    go_roundw
    case rel=>
     refine⟨j+1,by omega,zV (by have:=HKA.out;omega),?_⟩;have h:=HSR.out.up UR.out
     by_cases hkj:k<j
     ·rw[if_pos hkj,if_pos hkj] at h;rw[if_pos (by omega),if_pos (by omega)];exact h.up (qD (Below.refl _ _) _)
     ·rw[if_neg hkj,if_neg hkj] at h;rw[if_neg (by omega),if_neg (by omega)];exact h.up (qD (Below.refl _ _) _)
    case measure=>simp[intOf];have:=HKA.out;omega
  ·obtain rfl:j=5:=by omega
   go_wp2_with fail;go_end0;have h:=HSR.out;rw[if_pos (by omega),if_pos (by omega)] at h;exact⟨⟨_,rfl⟩,h⟩
theorem wr_op (k:Nat) (hk:k<5) (a b:Tr) (hB:W.heap.size≤bw) (hO:Op7 W) (ea:isT B.nck B.long a 2=true) (eb:isT B.nck B.long b 2=true) (cA:WriC W bw a (lft (opN ((k+1:Nat):Int))) (12*szT a)) (cB:WriC W bw b (lvl (opN ((k+1:Nat):Int))+1) (12*szT b))
  (r:Nat) (hr:¬lvl (opN ((k+1:Nat):Int))<r) (RU:RuW W (opN ((k+1:Nat):Int),fr2 a b)):WriC W bw (opN ((k+1:Nat):Int),fr2 a b) r (1+12*szT a+12*szT b):=fun X w n Ys v hv hs hn=>by
 rw[fN (t:=(opN ((k+1:Nat):Int),fr2 a b)) hr];have cR:=RU w v hv hs.1;have cO:=fun w' (u:Up w w')=>yU1 k hk a b hB hO ea eb cA cB X w' n Ys v hv (hs.up u) hn
 obtain⟨q,p,A,cp0,rfl,hq,k0,-⟩:=InT.open hv;have k0:W.cell? ⟨q,p,none⟩=some (.int .i64 31):=k0;have HK0:=Lib.hid k0;have HS:=Lib.hid hs;have CO:=Lib.hid cO;obtain⟨rr,hrr⟩:∃rr:Int,(r:Int)=rr:=⟨_,rfl⟩;obtain⟨ll,hll⟩:∃ll:Int,((lvl (opN ((k+1:Nat):Int),fr2 a b).1:Nat):Int)=ll:=⟨_,rfl⟩;have hq2:¬ll<rr:=by
  have:((lvl (opN ((k+1:Nat):Int)):Nat):Int)=ll:=hll;omega
 rw[hrr];rw[hll] at cR;obtain⟨s,hss⟩:∃s,txE qE (opN ((k+1:Nat):Int),fr2 a b)=s:=⟨_,rfl⟩;rw[hss] at CO ⊢;clear hv hs hn k0 hrr hll hr RU cO hss cA cB
 go_enter Tryz.func36,Tryz.ntmps36
 go_wp2_with fail;refine Calls.mono cR ?_;rintro en w1 ⟨rfl,u1⟩;have k0:=(HS.out.up u1).1.cell HK0.out;have cN:=CO.out w1 u1;clear u1 cR;go_wp2_with fail;refine Calls.mono cN ?_;rintro en w2 ⟨⟨x2,rfl⟩,h2⟩;have H2:=Lib.hid h2;clear h2;go_wp2_with fail;go_end0;exact⟨⟨_,rfl⟩,H2.out⟩
end
section
variable {W:World} {bw:Nat}
theorem yZ8 (a b:Tr) (hB:W.heap.size≤bw) (ea:isT B.nck B.long a 2=true) (eb:isT B.nck B.long b 2=true) (cA:WriC W bw a 0 (12*szT a)) (cB:WriC W bw b 0 (12*szT b)) (r:Nat) (hr:¬5<r) (RU:RuW W (nd 26 nob (fr2 a b))):WriC W bw (nd 26 nob (fr2 a b)) r (3+12*szT a+12*szT b):=fun X w n Ys v hv hs hn=>by
 rw[fN (t:=(nd 26 nob (fr2 a b))) hr];have hzz:jL ([kOpen,atX qE a 0]++([zN,atX qE b 0]++[kShut]))=(txE qE (nd 26 nob (fr2 a b))).data.toList:=by
  rw[zN2 ea eb,fE,fE];simp only[List.cons_append,List.nil_append,jL,List.map_cons,List.map_nil,jT,nmT,qM,List.append_assoc]<;>rfl
 have cR:Calls Tryz.prog 69 #[v] w fun e w'=>e = .returned (.int .i64 5)∧Up w w':=RU w v hv hs.1
 obtain⟨q,p,A,cp0,rfl,hq,k0,k1,k2,k3,k4,hcc,hkid⟩:=InT.open hv;obtain⟨kb,ko,rfl,hkb,⟨vaa,kaa,iaa⟩,⟨vbb,kbb,ibb⟩,-⟩:=hkid (by show 0<2;omega);obtain⟨qa,pa,rfl⟩:=InT.ptr iaa;obtain⟨qb,pb,rfl⟩:=InT.ptr ibb;have k4:W.cell? ⟨q,p+4,none⟩=some (.slice (some ⟨kb,ko,none⟩) 2 cp0):=k4;have kaa:W.cell? ⟨kb,ko,none⟩=some (.pointer (some ⟨qa,pa,none⟩)):=kaa;have HIa:Hid (HasT W (.pointer (some ⟨qa,pa,none⟩)) (some a)):=Lib.hid iaa;have HKa:=Lib.hid kaa;have kbb:W.cell? ⟨kb,ko+1,none⟩=some (.pointer (some ⟨qb,pb,none⟩)):=kbb;have HIb:Hid (HasT W (.pointer (some ⟨qb,pb,none⟩)) (some b)):=Lib.hid ibb;have HKb:=Lib.hid kbb;have HK4:=Lib.hid k4;have HK0:=Lib.hid k0;have HK2:=Lib.hid k2;have HS:=Lib.hid hs;have HN:=Lib.hid hn;have HZZ:=Lib.hid hzz;obtain⟨ZZ,hZZ⟩:∃ZZ,Ys++[txE qE (nd 26 nob (fr2 a b))]=ZZ:=⟨_,rfl⟩;rw[hZZ];have HZ:=Lib.hid hZZ;have HcA:=Lib.hid cA;have HcB:=Lib.hid cB;obtain⟨rr,hrr⟩:∃rr:Int,(r:Int)=rr:=⟨_,rfl⟩;rw[hrr];have hq2:¬(5:Int)<rr:=by omega
 clear hv hs hn hzz hZZ k0 k1 k2 k3 k4 hkid kaa iaa kbb ibb cA cB hrr hr RU
 go_enter Tryz.func36,Tryz.ntmps36
 go_wp2_with fail;refine Calls.mono cR ?_;rintro en w1 ⟨rfl,u1⟩;have h1:=HS.out.up u1;have k0:=h1.1.cell HK0.out;have k2:=h1.1.cell HK2.out;have H1:=Lib.hid h1;clear u1 h1 cR;have c0:=kA kOpen a 0 _ hB HcA.out _ _ _ _ HIa.out H1.out (by have:=HN.out;omega);have m4:=H1.out.1.cell HK4.out;have ma:=H1.out.1.cell HKa.out;go_wp2_with fail;refine Calls.mono c0 ?_;rintro en w3 ⟨⟨x3,rfl⟩,h3⟩;have H3:=Lib.hid h3;clear h3 c0 m4 ma k0 k2;have c1:=kA zN b 0 _ hB HcB.out _ _ _ _ HIb.out H3.out (by have:=HN.out;omega);have m4:=H3.out.1.cell HK4.out;have mb:=H3.out.1.cell HKb.out;go_wp2_with fail;refine Calls.mono c1 ?_;rintro en w4 ⟨⟨x4,rfl⟩,h4⟩;have H4:=Lib.hid h4;clear h4 c1 m4 mb;have c2:=wQ kShut hB H4.out (by have:=HN.out;omega);go_wp2_with fail;refine Calls.mono c2 ?_;rintro en w5 ⟨⟨x5,rfl⟩,h5⟩;have H5:=Lib.hid h5;clear h5 c2;have hfin:=H5.out;simp only[List.append_assoc] at hfin;have HF:=Lib.hid (St7.more (m:=n+(3+12*szT a+12*szT b)) (St7.join (Ys:=Ys) (Zs:=[kOpen,atX qE a 0]++([zN,atX qE b 0]++[kShut])) hfin (by simp) HZZ.out) (by omega));clear hfin;go_wp2_with fail;go_end0;rw[←HZ.out];exact⟨⟨_,rfl⟩,HF.out⟩
theorem yU2 (a:Tr) (hB:W.heap.size≤bw) (ea:isT B.nck B.long a 2=true) (cA:WriC W bw a 5 (12*szT a)) (r:Nat) (hr:¬5<r) (RU:RuW W (nd 27 nob (fr1 a))):WriC W bw (nd 27 nob (fr1 a)) r (1+12*szT a):=fun X w n Ys v hv hs hn=>by
 rw[fN (t:=(nd 27 nob (fr1 a))) hr];have hzz:jL ([kOne,atX qE a 5])=(txE qE (nd 27 nob (fr1 a))).data.toList:=by
  rw[zWt (.inl rfl) ea,if_pos rfl];simp only[List.cons_append,List.nil_append,jL,List.map_cons,List.map_nil,jT,nmT,qM]<;>rfl
 have cR:Calls Tryz.prog 69 #[v] w fun e w'=>e = .returned (.int .i64 5)∧Up w w':=RU w v hv hs.1
 obtain⟨q,p,A,cp0,rfl,hq,k0,k1,k2,k3,k4,hcc,hkid⟩:=InT.open hv;obtain⟨kb,ko,rfl,hkb,⟨vaa,kaa,iaa⟩,-⟩:=hkid (by show 0<1;omega);obtain⟨qa,pa,rfl⟩:=InT.ptr iaa;have k4:W.cell? ⟨q,p+4,none⟩=some (.slice (some ⟨kb,ko,none⟩) 1 cp0):=k4;have kaa:W.cell? ⟨kb,ko,none⟩=some (.pointer (some ⟨qa,pa,none⟩)):=kaa;have HIa:Hid (HasT W (.pointer (some ⟨qa,pa,none⟩)) (some a)):=Lib.hid iaa;have HKa:=Lib.hid kaa;have HK4:=Lib.hid k4;have HK0:=Lib.hid k0;have HK2:=Lib.hid k2;have HS:=Lib.hid hs;have HN:=Lib.hid hn;have HZZ:=Lib.hid hzz;obtain⟨ZZ,hZZ⟩:∃ZZ,Ys++[txE qE (nd 27 nob (fr1 a))]=ZZ:=⟨_,rfl⟩;rw[hZZ];have HZ:=Lib.hid hZZ;have HcA:=Lib.hid cA;obtain⟨rr,hrr⟩:∃rr:Int,(r:Int)=rr:=⟨_,rfl⟩;rw[hrr];have hq2:¬(5:Int)<rr:=by omega
 clear hv hs hn hzz hZZ k0 k1 k2 k3 k4 hkid kaa iaa cA hrr hr RU
 go_enter Tryz.func36,Tryz.ntmps36
 go_wp2_with fail;refine Calls.mono cR ?_;rintro en w1 ⟨rfl,u1⟩;have h1:=HS.out.up u1;have k0:=h1.1.cell HK0.out;have k2:=h1.1.cell HK2.out;have H1:=Lib.hid h1;clear u1 h1 cR;have c0:=kA kOne a 5 _ hB HcA.out _ _ _ _ HIa.out H1.out (by have:=HN.out;omega);have m4:=H1.out.1.cell HK4.out;have ma:=H1.out.1.cell HKa.out;go_wp2_with fail;refine Calls.mono c0 ?_;rintro en w3 ⟨⟨x3,rfl⟩,h3⟩;have H3:=Lib.hid h3;clear h3 c0 m4 ma k0 k2;have hfin:=H3.out;have HF:=Lib.hid (St7.more (m:=n+(1+12*szT a)) (St7.join (Ys:=Ys) (Zs:=[kOne,atX qE a 5]) hfin (by simp) HZZ.out) (by omega));clear hfin;go_wp2_with fail;go_end0;rw[←HZ.out];exact⟨⟨_,rfl⟩,HF.out⟩
theorem yU3 (a:Tr) (hB:W.heap.size≤bw) (ea:isT B.nck B.long a 2=true) (cA:WriC W bw a 5 (12*szT a)) (r:Nat) (hr:¬5<r) (RU:RuW W (nd 28 nob (fr1 a))):WriC W bw (nd 28 nob (fr1 a)) r (1+12*szT a):=fun X w n Ys v hv hs hn=>by
 rw[fN (t:=(nd 28 nob (fr1 a))) hr];have hzz:jL ([kTwo,atX qE a 5])=(txE qE (nd 28 nob (fr1 a))).data.toList:=by
  rw[zWt (.inr rfl) ea,if_neg (by decide)];simp only[List.cons_append,List.nil_append,jL,List.map_cons,List.map_nil,jT,nmT,qM]<;>rfl
 have cR:Calls Tryz.prog 69 #[v] w fun e w'=>e = .returned (.int .i64 5)∧Up w w':=RU w v hv hs.1
 obtain⟨q,p,A,cp0,rfl,hq,k0,k1,k2,k3,k4,hcc,hkid⟩:=InT.open hv;obtain⟨kb,ko,rfl,hkb,⟨vaa,kaa,iaa⟩,-⟩:=hkid (by show 0<1;omega);obtain⟨qa,pa,rfl⟩:=InT.ptr iaa;have k4:W.cell? ⟨q,p+4,none⟩=some (.slice (some ⟨kb,ko,none⟩) 1 cp0):=k4;have kaa:W.cell? ⟨kb,ko,none⟩=some (.pointer (some ⟨qa,pa,none⟩)):=kaa;have HIa:Hid (HasT W (.pointer (some ⟨qa,pa,none⟩)) (some a)):=Lib.hid iaa;have HKa:=Lib.hid kaa;have HK4:=Lib.hid k4;have HK0:=Lib.hid k0;have HK2:=Lib.hid k2;have HS:=Lib.hid hs;have HN:=Lib.hid hn;have HZZ:=Lib.hid hzz;obtain⟨ZZ,hZZ⟩:∃ZZ,Ys++[txE qE (nd 28 nob (fr1 a))]=ZZ:=⟨_,rfl⟩;rw[hZZ];have HZ:=Lib.hid hZZ;have HcA:=Lib.hid cA;obtain⟨rr,hrr⟩:∃rr:Int,(r:Int)=rr:=⟨_,rfl⟩;rw[hrr];have hq2:¬(5:Int)<rr:=by omega
 clear hv hs hn hzz hZZ k0 k1 k2 k3 k4 hkid kaa iaa cA hrr hr RU
 go_enter Tryz.func36,Tryz.ntmps36
 go_wp2_with fail;refine Calls.mono cR ?_;rintro en w1 ⟨rfl,u1⟩;have h1:=HS.out.up u1;have k0:=h1.1.cell HK0.out;have k2:=h1.1.cell HK2.out;have H1:=Lib.hid h1;clear u1 h1 cR;have c0:=kA kTwo a 5 _ hB HcA.out _ _ _ _ HIa.out H1.out (by have:=HN.out;omega);have m4:=H1.out.1.cell HK4.out;have ma:=H1.out.1.cell HKa.out;go_wp2_with fail;refine Calls.mono c0 ?_;rintro en w3 ⟨⟨x3,rfl⟩,h3⟩;have H3:=Lib.hid h3;clear h3 c0 m4 ma k0 k2;have hfin:=H3.out;have HF:=Lib.hid (St7.more (m:=n+(1+12*szT a)) (St7.join (Ys:=Ys) (Zs:=[kTwo,atX qE a 5]) hfin (by simp) HZZ.out) (by omega));clear hfin;go_wp2_with fail;go_end0;rw[←HZ.out];exact⟨⟨_,rfl⟩,HF.out⟩
end
section
variable {W:World} {bw:Nat} {X:Nat→Obj→Prop}
theorem yU4 (k:Int) (h1 : -1073741824≤k) (h2:k≤1073741824) (hB:W.heap.size≤bw) (hx:B.Lx W) (r:Nat) (hr:¬5<r) (RU:RuW W (⟨20,k,nob,nob⟩,.nil)):WriC W bw (⟨20,k,nob,nob⟩,.nil) r 1:=fun X w n Ys v hv hs hn=>by
 rw[fN (t:=(⟨20,k,nob,nob⟩,.nil)) hr,zFr];have cR:Calls Tryz.prog 69 #[v] w fun e w'=>e = .returned (.int .i64 5)∧Up w w':=RU w v hv hs.1
 obtain⟨q,p,A,cp0,rfl,hq,k0,k1,k2,k3,k4,hcc,hkid⟩:=InT.open hv;have k0:W.cell? ⟨q,p,none⟩=some (.int .i64 20):=k0;have k1:W.cell? ⟨q,p+1,none⟩=some (.int .i64 k):=k1;have HK0:=Lib.hid k0;have HK1:=Lib.hid k1;have HS:=Lib.hid hs;have HN:=Lib.hid hn;have HX:=Lib.hid hx;obtain⟨rr,hrr⟩:∃rr:Int,(r:Int)=rr:=⟨_,rfl⟩;rw[hrr];have hq2:¬(5:Int)<rr:=by omega
 have cN:∀w',Up W w'→Calls Tryz.prog 71 #[.int .i64 k] w' (B.aL (qE k) w'):=fun w' u=>B.sJ k (by omega) (by omega) w' (B.Lx.below hx u)
 have HCN:=Lib.hid cN;obtain⟨s,hss⟩:∃s,qE k=s:=⟨_,rfl⟩;rw[hss] at HCN ⊢;clear hv hs hn hx k0 k1 k2 k3 k4 hkid hrr hr RU cN hss
 go_enter Tryz.func36,Tryz.ntmps36
 go_wp2_with fail;refine Calls.mono cR ?_;rintro en w1 ⟨rfl,u1⟩;have h1:=HS.out.up u1;have k0:=h1.1.cell HK0.out;have k1:=h1.1.cell HK1.out;have cN:=HCN.out w1 h1.1;have H1:=Lib.hid h1;clear u1 h1 cR;go_wp2_with fail;refine Calls.mono cN ?_;rintro en w2 ⟨rfl,u2⟩;have cP:=wQ s hB (H1.out.up u2) (by have:=HN.out;omega);clear u2 cN k0 k1;go_wp2_with fail;refine Calls.mono cP ?_;rintro en w3 ⟨⟨x3,rfl⟩,h3⟩;have H3:=Lib.hid h3;clear h3;go_wp2_with fail;go_end0;exact⟨⟨_,rfl⟩,H3.out⟩
theorem yZ9 (hB:W.heap.size≤bw) (r:Nat) (hr:¬5<r) (RU:RuW W (nd 22 nob .nil)):WriC W bw (nd 22 nob .nil) r 2:=fun X w n Ys v hv hs hn=>by
 rw[fN (t:=nd 22 nob .nil) hr,zN1];have cR:Calls Tryz.prog 69 #[v] w fun e w'=>e = .returned (.int .i64 5)∧Up w w':=RU w v hv hs.1
 obtain⟨q,p,A,cp0,rfl,hq,k0,k1,k2,k3,k4,hcc,hkid⟩:=InT.open hv;have k0:W.cell? ⟨q,p,none⟩=some (.int .i64 22):=k0;have HK0:=Lib.hid k0;have HS:=Lib.hid hs;have HN:=Lib.hid hn;obtain⟨rr,hrr⟩:∃rr:Int,(r:Int)=rr:=⟨_,rfl⟩;rw[hrr];have hq2:¬(5:Int)<rr:=by omega
 clear hv hs hn k0 k1 k2 k3 k4 hkid hrr hr RU
 go_enter Tryz.func36,Tryz.ntmps36
 go_wp2_with fail;refine Calls.mono cR ?_;rintro en w1 ⟨rfl,u1⟩;have h1:=HS.out.up u1;have k0:=h1.1.cell HK0.out;have cN:=zQr kOpen kShut hB h1 (by have:=HN.out;omega);clear u1 h1 cR;go_wp2_with fail;refine Calls.mono cN ?_;rintro en w2 ⟨⟨x2,rfl⟩,h2⟩;have H2:=Lib.hid (St7.join (Z:=⟨#[40,32,41]⟩) h2 (by simp) rfl);clear h2;go_wp2_with fail;go_end0;exact⟨⟨_,rfl⟩,H2.out⟩
theorem nT (t:Tr) (c:Nat) (hk:t.1.k=24∨t.1.k=29∨t.1.k=30∨t.1.k=32∨t.1.k=33) (cL:LoC W bw t c) (r:Nat) (hr:¬0<r) (RU:RuW W t):WriC W bw t r c:=fun X w n Ys v hv hs hn=>by
 have hl:lvl t.1=0:=by unfold lvl;rw[if_pos hk]
 rw[fN (t:=t) (by rw[hl];exact hr)];have cR:Calls Tryz.prog 69 #[v] w fun e w'=>e = .returned (.int .i64 ((lvl t.1:Nat):Int))∧Up w w':=RU w v hv hs.1
 rw[hl] at cR;have cR:Calls Tryz.prog 69 #[v] w fun e w'=>e = .returned (.int .i64 0)∧Up w w':=cR
 have HV:=Lib.hid hv;obtain⟨x,f⟩:=t;obtain⟨q,p,A,cp0,rfl,hq,k0,k1,k2,k3,k4,hcc,hkid⟩:=InT.open hv;have HK0:=Lib.hid k0;have HS:=Lib.hid hs;have HN:=Lib.hid hn;have HL:=Lib.hid cL;obtain⟨rr,hrr⟩:∃rr:Int,(r:Int)=rr:=⟨_,rfl⟩;rw[hrr];have hq2:¬(0:Int)<rr:=by omega
 obtain⟨s,hss⟩:∃s,txE qE (x,f)=s:=⟨_,rfl⟩;rw[hss];have HSS:=Lib.hid hss;obtain⟨kk,hkk⟩:∃kk,x.k=kk:=⟨_,rfl⟩;have hk:x.k=24∨x.k=29∨x.k=30∨x.k=32∨x.k=33:=hk;rw[hkk] at hk HK0;have n20:¬kk=20:=by omega
 have n21:¬kk=21:=by omega
 have n22:¬kk=22:=by omega
 have n23:¬kk=23:=by omega
 have n25:¬kk=25:=by omega
 have n26:¬kk=26:=by omega
 have n27:¬kk=27:=by omega
 have n28:¬kk=28:=by omega
 have n31:¬kk=31:=by omega
 clear hv hs hn k0 k1 k2 k3 k4 hkid hrr hr RU cL hss hkk hk hl
 go_enter Tryz.func36,Tryz.ntmps36
 go_wp2_with fail;refine Calls.mono cR ?_;rintro en w1 ⟨rfl,u1⟩;have h1:=HS.out.up u1;have k0:=h1.1.cell HK0.out;have cN:=HL.out _ w1 n Ys _ HV.out h1 (by have:=HN.out;omega);rw[HSS.out] at cN;clear u1 h1 cR;go_wp2_with fail;refine Calls.mono cN ?_;rintro en w2 ⟨⟨x2,rfl⟩,h2⟩;have H2:=Lib.hid h2;clear h2;go_wp2_with fail;go_end0;exact⟨⟨_,rfl⟩,H2.out⟩
end
theorem yZa (c x t:ByteArray) {T:ByteArray} (h:T=c++⟨#[32]⟩++x++⟨#[32,61,62,32]⟩++t):jL ([c,x]++[kFat,t])=T.data.toList:=by
 rw[h];simp only[List.cons_append,List.nil_append,jL,List.map_cons,List.map_nil,jT,nmT,qM,List.append_assoc]
 rfl
theorem yZb (a c x t:ByteArray) {T:ByteArray} (h:T=a++⟨#[32,124,32]⟩++(c++⟨#[32]⟩++x++⟨#[32,61,62,32]⟩++t)):jL ([a,kBar,c,x]++[kFat,t])=T.data.toList:=by
 rw[h];simp only[List.cons_append,List.nil_append,jL,List.map_cons,List.map_nil,jT,nmT,qM,List.append_assoc]
 rfl
section
variable {W:World} {bw:Nat} {X:Nat→Obj→Prop}
def ArC (W:World) (bw:Nat) (f:Fr):Prop:=∀(j:Nat) c x b,f.get j=some (⟨34,0,c,x⟩,fr1 b)→WriC W bw b 0 (12*szT b)
def arY (Ys:List ByteArray) (f:Fr) (j:Nat):List ByteArray:=if j=0 then Ys else Ys++[kOf,txA qE (xH j f)]
theorem zEm (f:Fr) (h0:0<f.len) (hl:f.len≤100000) (hk:ArmOk B.nck B.long f) (hT:ArC W bw f) (hB:W.heap.size≤bw) (w:World) (kb ko cap:Nat) (hf:InF W (fun q=>q<W.heap.size) f kb ko) (n:Nat) (Ys:List ByteArray) (hs:St7 W bw X n Ys w) (hn:n+12*f.sz+1≤1000000) :
  Calls Tryz.prog 137 #[.pointer (some ⟨bw,0,none⟩),.slice (some ⟨kb,ko,none⟩) f.len cap] w (WrE W bw X (n+12*f.sz+1) (Ys++[kOf,txA qE f,kEnd])):=by
 have HF:=Lib.hid hf;have HS:=Lib.hid hs;have HK:=Lib.hid hk;have HT:=Lib.hid hT;have HNN:=Lib.hid hn;have HSZ:Hid (∀j,(xH j f).sz≤f.sz):=Lib.hid fun j=>zWu f j
 obtain⟨m,hm⟩:∃m,f.len=m:=⟨_,rfl⟩;have HM:=Lib.hid hm;rw[hm] at h0 hl ⊢;obtain⟨Z,hZ⟩:∃Z,Ys++[kOf,txA qE f,kEnd]=Z:=⟨_,rfl⟩;rw[hZ];have HZ:=Lib.hid hZ;have hst:Hid (St7 W bw X (n+12*(xH 0 f).sz) (arY Ys f 0) w):=Lib.hid (by unfold arY;rw[if_pos rfl];exact hs.more (by omega));clear hf hs hk hT hn hm hZ
 go_enter Tryz.func137,Tryz.ntmps137
 go_wp2_with fail
 go_loopw [4,9] (fun x y wr=>∃j:Nat,j≤m∧y = .int .i64 (j:Int)∧x = .string (if j=0 then kOf else kBar)∧St7 W bw X (n+12*(xH j f).sz) (arY Ys f j) wr) (fun _ y _=>m+1-(intOf y).toNat)
 case atStart=>exact⟨0,Nat.zero_le _,rfl,rfl,hst.out⟩
 case round=>
  obtain⟨j,hj,rfl,rfl,hsr⟩:=hrel;have HSR:=Lib.hid hsr;clear hsr;obtain⟨sg,hsg⟩:∃sg,(if j=0 then kOf else kBar)=sg:=⟨_,rfl⟩;rw[hsg];have HSG:=Lib.hid hsg;clear hsg
  by_cases hlt:j<m
  ·have hjz:(j:Int)<(m:Int):=by omega
   have hw1:IntKind.i64.wrap ((j:Int)+1)=((j+1:Nat):Int):=by rw[IntKind.wrap_i64];omega
   obtain⟨t,ht⟩:=Fr.get_some (f:=f) (i:=j) (by rw[HM.out];exact hlt);obtain⟨xc,xx,b,rfl,hc9,hx9,hb9⟩:=vR (nQ HK.out ht);have cU:=HT.out j xc xx b ht;obtain⟨vc,hvc,hTc⟩:=HF.out.at ht;obtain⟨q1,p1,A1,cp1,rfl,hq1,m0,m1,m2,m3,m4,hcc1,hkid1⟩:=InT.open hTc;obtain⟨kb2,ko2,rfl,hkb2,⟨va,ka,ia⟩,-⟩:=hkid1 (by show 0<1;omega);obtain⟨qa,pa,rfl⟩:=InT.ptr ia;have hbt:=dZ ht;have hsz:(xH (j+1) f).sz=(xH j f).sz+(1+szT b):=by
    rw[hbt,Fr.sz_app];have h1:(fr1 ((⟨34,0,xc,xx⟩,fr1 b):Tr)).sz=szT ((⟨34,0,xc,xx⟩:Nod),fr1 b):=by unfold szT;simp only[fr1,Fr.sz];omega
    have h2:szT ((⟨34,0,xc,xx⟩:Nod),fr1 b)=1+szT b:=mE _ b;rw[h1,h2]
   have hm1:=HSZ.out (j+1);have k4:W.cell? ⟨q1,p1+4,none⟩=some (.slice (some ⟨kb2,ko2,none⟩) 1 cp1):=m4;have ka:W.cell? ⟨kb2,ko2,none⟩=some (.pointer (some ⟨qa,pa,none⟩)):=ka;have m2:W.cell? ⟨q1,p1+2,none⟩=some (.string xc):=m2;have m3:W.cell? ⟨q1,p1+3,none⟩=some (.string xx):=m3;have HIA:Hid (HasT W (.pointer (some ⟨qa,pa,none⟩)) (some b)):=Lib.hid ia;have hvr:=HSR.out.1.cell hvc;have HM2:=Lib.hid m2;have HM3:=Lib.hid m3;have m2:=HSR.out.1.cell m2;have m3:=HSR.out.1.cell m3;have HK4:=Lib.hid k4;have HKA:=Lib.hid ka;have HBT:=Lib.hid hbt;have HSZ1:=Lib.hid hsz;have HM1:=Lib.hid hm1;have HCU:=Lib.hid cU;have HB9:=Lib.hid hb9;have cP:=fun w' (u:Up wr w')=>zEh sg xc xx hB (HSR.out.up u) (by have:=HNN.out;have:=HSZ.out j;omega)
   clear ht hTc m0 m1 m4 hkid1 ka ia hbt hsz hm1 cU hvc hc9 hx9 hb9 k4;go_wp2_with fail
   go_region_held3 (fun w'=>w'.cell? ⟨q1,p1+2,none⟩=some (.string xc)∧w'.cell? ⟨q1,p1+3,none⟩=some (.string xx)) (first | go_keep | (refine⟨?_,?_⟩<;>assumption)) (first
    | (go_at_call 70;refine Calls.mono (cP (wr.drewN 1) (qD (Below.refl _ _) 1)) ?_;rintro e2 w2 ⟨⟨x2,rfl⟩,h2⟩;have m2:=h2.1.cell HM2.out;have m3:=h2.1.cell HM3.out;have m4:=h2.1.cell HK4.out;have ma:=h2.1.cell HKA.out;have H2:=Lib.hid h2;clear h2 cP))
   all_goals go_wp2_with fail
   have h2:=H2.out;have cW:=kA kFat b 0 _ hB HCU.out _ _ _ _ HIA.out h2 (by have:=HNN.out;have:=HSZ1.out;have:=HM1.out;omega);clear h2 hvr m2 m3;refine Calls.mono cW ?_;rintro en w3 ⟨⟨x3,rfl⟩,h3⟩;have H3:=Lib.hid h3;clear h3 cW m4 ma;go_wp2_with fail
   go_roundw
   case rel=>
    refine⟨j+1,by omega,rfl,by rw[if_neg (Nat.succ_ne_zero j)];rfl,?_⟩;have h:=H3.out;rw[fE] at h;unfold arY at h ⊢;rw[if_neg (Nat.succ_ne_zero j)];have e1:∀Z:ByteArray,Ys++[kOf,Z]=(Ys++[kOf])++[Z]:=fun Z=>by simp
    rw[e1]
    by_cases hj0:j=0
    ·rw[if_pos hj0] at h
     have hsg:kOf=sg:=by have:=HSG.out;rwa [if_pos hj0] at this
     rw[←hsg] at h;have e2:(Ys++[kOf,xc,xx])++[kFat,txE qE b]=(Ys++[kOf])++([xc,xx]++[kFat,txE qE b]):=by simp
     rw[e2] at h;refine St7.more (St7.join h (by simp) (yZa xc xx _ ?_)) (by have:=HSZ1.out;omega);have e0:xH 0 f = .nil:=by cases f<;>rfl
     rw[HBT.out,hj0,e0];exact zN5 HB9.out
    ·rw[if_neg hj0] at h
     have hsg:kBar=sg:=by have:=HSG.out;rwa [if_neg hj0] at this
     rw[←hsg] at h;have e2:((Ys++[kOf,txA qE (xH j f)])++[kBar,xc,xx])++[kFat,txE qE b]=(Ys++[kOf])++([txA qE (xH j f),kBar,xc,xx]++[kFat,txE qE b]):=by simp
     rw[e2] at h;refine St7.more (St7.join h (by simp) (yZb _ xc xx _ ?_)) (by have:=HSZ1.out;omega);rw[HBT.out];exact zTt (by rw[uP f j (by rw[HM.out];omega)];omega) (eN f j HK.out) HB9.out
   case measure=>simp[intOf];omega
  ·obtain rfl:j=m:=by omega
   have hjz:¬(j:Int)<(j:Int):=by omega
   have hend:xH j f=f:=by rw[←HM.out];exact uO f
   have hsr:=HSR.out;unfold arY at hsr;rw[hend,if_neg (by omega)] at hsr;have cP:=wQ kEnd hB hsr (by have:=HNN.out;omega);clear hsr hend;go_wp2_with fail;refine Calls.mono cP ?_;rintro en w2 ⟨⟨x2,rfl⟩,h2⟩;have e:(Ys++[kOf,txA qE f])++[kEnd]=Z:=by rw[←HZ.out];simp
   rw[e] at h2;have H2:=Lib.hid h2;clear h2;go_wp2_with fail;go_end0;exact⟨⟨_,rfl⟩,H2.out⟩
theorem yZc (a k:ByteArray) {T:ByteArray} (h:T=⟨#[99,97,115,101,32]⟩++a++⟨#[32,111,102,32]⟩++(k++⟨#[32,101,110,100]⟩)):jL ([kCase,a]++[kOf,k,kEnd])=T.data.toList:=by
 rw[h];simp only[List.cons_append,List.nil_append,jL,List.map_cons,List.map_nil,jT,nmT,qM,List.append_assoc]
 rfl
theorem yZd (a t k:ByteArray) {T:ByteArray} (h:T=⟨#[102,111,108,100,32]⟩++a++⟨#[32,116,111,32]⟩++t++⟨#[32,111,102,32]⟩++(k++⟨#[32,101,110,100]⟩)):jL ([kFold,a]++([kTo,t]++[kOf,k,kEnd]))=T.data.toList:=by
 rw[h];simp only[List.cons_append,List.nil_append,jL,List.map_cons,List.map_nil,jT,nmT,qM,List.append_assoc]
 rfl
theorem yZe (a:Tr) (k:Fr) (hB:W.heap.size≤bw) (ea:isT B.nck B.long a 2=true) (cA:WriC W bw a 0 (12*szT a)) (h0:0<k.len) (hl:k.len≤100000) (hk:ArmOk B.nck B.long k) (hT:ArC W bw k):LoC W bw (nd 32 nob (.cons a.1 a.2 k)) (2+12*szT a+12*k.sz):=fun X w n Ys v hv hs hn=>by
 have hzz:=yZc (txE qE a) (txA qE k) (zN3 (nb:=qE) ea h0 hk);obtain⟨q,p,A,cp0,rfl,hq,k0,k1,k2,k3,k4,hcc,hkid⟩:=InT.open hv;obtain⟨kb,ko,rfl,hkb,⟨vaa,kaa,iaa⟩,hf⟩:=hkid (Nat.succ_pos _);obtain⟨qa,pa,rfl⟩:=InT.ptr iaa;have k4:W.cell? ⟨q,p+4,none⟩=some (.slice (some ⟨kb,ko,none⟩) (k.len+1) cp0):=k4;have hcc:k.len+1≤cp0:=hcc;have kaa:W.cell? ⟨kb,ko,none⟩=some (.pointer (some ⟨qa,pa,none⟩)):=kaa;have HIa:Hid (HasT W (.pointer (some ⟨qa,pa,none⟩)) (some a)):=Lib.hid iaa;have HKa:=Lib.hid kaa;have HK4:=Lib.hid k4;have HK0:=Lib.hid k0;have HF:Hid (InF W (fun q=>q<W.heap.size) k kb (ko+1)):=Lib.hid hf;have HS:=Lib.hid hs;have HN:=Lib.hid hn;have HZZ:=Lib.hid hzz;obtain⟨ZZ,hZZ⟩:∃ZZ,Ys++[txE qE (nd 32 nob (.cons a.1 a.2 k))]=ZZ:=⟨_,rfl⟩;rw[hZZ];have HZ:=Lib.hid hZZ;have HcA:=Lib.hid cA;have HcT:=Lib.hid hT;have HcK:=Lib.hid hk;have cB:=fun w3 n3 Ys3 hs3 hn3=>zEm k h0 hl HcK.out HcT.out hB w3 kb (ko+1) (cp0-1) HF.out n3 Ys3 (X:=X) hs3 hn3
 obtain⟨m,hm⟩:∃m,k.len=m:=⟨_,rfl⟩;rw[hm] at hcc HK4 cB h0 hl;have HcB:=Lib.hid cB;clear hv hs hn hzz hZZ k0 k1 k2 k3 k4 hkid kaa iaa cA hf hk hT hm cB;have k0:w.cell? ⟨q,p,none⟩=_:=HS.out.1.cell HK0.out;have b1:(1:Int)≤(m:Int)+1:=by omega
 go_enter Tryz.func75,Tryz.ntmps75
 have c0:=kA kCase a 0 _ hB HcA.out _ _ _ _ HIa.out HS.out (by have:=HN.out;omega);have m4:=HS.out.1.cell HK4.out;have ma:=HS.out.1.cell HKa.out;go_wp2_with fail;refine Calls.mono c0 ?_;rintro en w3 ⟨⟨x3,rfl⟩,h3⟩;have H3:=Lib.hid h3;clear h3 c0 m4 ma k0;have c1:=HcB.out _ _ _ H3.out (by have:=HN.out;omega);have m4:=H3.out.1.cell HK4.out;go_wp2_with fail;refine Calls.mono c1 ?_;rintro en w4 ⟨⟨x4,rfl⟩,h4⟩;have H4:=Lib.hid h4;clear h4 c1 m4;have hfin:=H4.out;rw[fE] at hfin;simp only[List.append_assoc] at hfin;have HF2:=Lib.hid (St7.more (m:=n+(2+12*szT a+12*k.sz)) (St7.join (Ys:=Ys) (Zs:=[kCase,txE qE a]++[kOf,txA qE k,kEnd]) hfin (by simp) HZZ.out) (by omega));clear hfin;go_wp2_with fail;go_end0;rw[←HZ.out];exact⟨⟨_,rfl⟩,HF2.out⟩
theorem yZf (a t:Tr) (k:Fr) (hB:W.heap.size≤bw) (hx:B.Nx W) (hp:Pl W) (hzT:szT t≤8192) (hdT:dpT t≤60) (hkT:okST t) (hTt:isT B.nck B.long t 1=true) (ea:isT B.nck B.long a 2=true) (cA:WriC W bw a 0 (12*szT a)) (h0:0<k.len) (hl:k.len≤100000) (hk:ArmOk B.nck B.long k) (hT:ArC W bw k):LoC W bw (nd 33 nob (.cons a.1 a.2 (.cons t.1 t.2 k))) (4+12*szT a+12*k.sz):=fun X w n Ys v hv hs hn=>by
 have hzz:=yZd (txE qE a) (tB (tkT t)) (txA qE k) (zN4 (nb:=qE) ea hTt h0 hk);obtain⟨q,p,A,cp0,rfl,hq,k0,k1,k2,k3,k4,hcc,hkid⟩:=InT.open hv;obtain⟨kb,ko,rfl,hkb,⟨vaa,kaa,iaa⟩,⟨vtt,ktt,itt⟩,hf⟩:=hkid (Nat.succ_pos _);obtain⟨qa,pa,rfl⟩:=InT.ptr iaa;obtain⟨qt,pt,rfl⟩:=InT.ptr itt;have k4:W.cell? ⟨q,p+4,none⟩=some (.slice (some ⟨kb,ko,none⟩) (k.len+1+1) cp0):=k4;have hcc:k.len+1+1≤cp0:=hcc;have kaa:W.cell? ⟨kb,ko,none⟩=some (.pointer (some ⟨qa,pa,none⟩)):=kaa;have ktt:W.cell? ⟨kb,ko+1,none⟩=some (.pointer (some ⟨qt,pt,none⟩)):=ktt;have HIa:Hid (HasT W (.pointer (some ⟨qa,pa,none⟩)) (some a)):=Lib.hid iaa;have HIt:Hid (HasT W (.pointer (some ⟨qt,pt,none⟩)) (some t)):=Lib.hid itt;have HKa:=Lib.hid kaa;have HKt:=Lib.hid ktt;have HK4:=Lib.hid k4;have HK0:=Lib.hid k0;have HF:Hid (InF W (fun q=>q<W.heap.size) k kb (ko+1+1)):=Lib.hid hf;have HS:=Lib.hid hs;have HN:=Lib.hid hn;have HZZ:=Lib.hid hzz;obtain⟨ZZ,hZZ⟩:∃ZZ,Ys++[txE qE (nd 33 nob (.cons a.1 a.2 (.cons t.1 t.2 k)))]=ZZ:=⟨_,rfl⟩;rw[hZZ];have HZ:=Lib.hid hZZ;have HcA:=Lib.hid cA;have HcT:=Lib.hid hT;have HcK:=Lib.hid hk;have HTY:=Lib.hid fun w3 n3 Ys3 hs3 hn3=>zEi (X:=X) kTo t hB hx hp hzT hdT hkT hTt w3 n3 Ys3 (.pointer (some ⟨qt,pt,none⟩)) HIt.out hs3 hn3
 have cB:=fun w3 n3 Ys3 hs3 hn3=>zEm k h0 hl HcK.out HcT.out hB w3 kb (ko+2) (cp0-2) HF.out n3 Ys3 (X:=X) hs3 hn3
 obtain⟨m,hm⟩:∃m,k.len=m:=⟨_,rfl⟩;rw[hm] at hcc HK4 cB h0 hl;have HcB:=Lib.hid cB;clear hv hs hn hzz hZZ k0 k1 k2 k3 k4 hkid kaa iaa ktt itt cA hf hk hT hm cB hx hp hzT hdT hkT hTt;have k0:w.cell? ⟨q,p,none⟩=_:=HS.out.1.cell HK0.out;have b1:(2:Int)≤(m:Int)+1+1:=by omega
 go_enter Tryz.func75,Tryz.ntmps75
 have c0:=kA kFold a 0 _ hB HcA.out _ _ _ _ HIa.out HS.out (by have:=HN.out;omega);have m4:=HS.out.1.cell HK4.out;have ma:=HS.out.1.cell HKa.out;go_wp2_with fail;refine Calls.mono c0 ?_;rintro en w3 ⟨⟨x3,rfl⟩,h3⟩;have H3:=Lib.hid h3;clear h3 c0 m4 ma k0;have c1:=HTY.out _ _ _ H3.out (by have:=HN.out;omega);have m4:=H3.out.1.cell HK4.out;have mt:=H3.out.1.cell HKt.out;go_wp2_with fail;refine Calls.mono c1 ?_;rintro en w4 ⟨⟨x4,rfl⟩,h4⟩;have H4:=Lib.hid h4;clear h4 c1 m4 mt;have c2:=HcB.out _ _ _ H4.out (by have:=HN.out;omega);have m4:=H4.out.1.cell HK4.out;go_wp2_with fail;refine Calls.mono c2 ?_;rintro en w5 ⟨⟨x5,rfl⟩,h5⟩;have H5:=Lib.hid h5;clear h5 c2 m4;have hfin:=H5.out;rw[fE] at hfin;simp only[List.append_assoc] at hfin;have HF2:=Lib.hid (St7.more (m:=n+(4+12*szT a+12*k.sz)) (St7.join (Ys:=Ys) (Zs:=[kFold,txE qE a]++([kTo,tB (tkT t)]++[kOf,txA qE k,kEnd])) hfin (by simp) HZZ.out) (by omega));clear hfin;go_wp2_with fail;go_end0;rw[←HZ.out];exact⟨⟨_,rfl⟩,HF2.out⟩
end
theorem zNj:∀{f:Fr} {i:Nat} {t:Tr},f.get i=some t→dpT t≤f.dp
 | .nil,_,_,h=>by cases h
 | .cons x k r,0,t,h=>by
  have h:(x,k)=t:=Option.some.inj h;subst h;unfold dpT;simp only[Fr.dp];omega
 | .cons x k r,i+1,t,h=>by
  have ih:=zNj (f:=r) (i:=i) h;simp only[Fr.dp];omega
section
variable {W:World} {bw:Nat}
theorem zEn {k:Fr} {n d:Nat} (hk:ArmOk B.nck B.long k) (ho:okS k) (hz:k.sz≤n) (hd:k.dp≤d) (ih:∀b,szT b≤n→(isT B.nck B.long b 2=true∧dpT b≤d∧okST b)→WriC W bw b 0 (12*szT b)):ArC W bw k:=fun j c x b hj=>by
 obtain⟨c',x',b',e,_,_,hb⟩:=vR (nQ hk hj);injection e with e1 e2;injection e2 with e3 e4 _;have hg:=Fr.get_sz hj;have hd2:=zNj hj;have hz2:szT ((⟨34,0,c,x⟩:Nod),fr1 b)=1+szT b:=mE _ b;have hd3:dpT (((⟨34,0,c,x⟩:Nod),fr1 b):Tr)=1+(Fr.cons b.1 b.2 .nil).dp:=rfl;have hd4:dpT b=1+b.2.dp:=rfl;have hd5:b.2.dp<(Fr.cons b.1 b.2 .nil).dp:=by simp only[Fr.dp];omega
 obtain⟨_,_,o1,o2,o3,_⟩:=fC ho hj;have hbb:isT B.nck B.long b 2=true:=by
  have e5:b=b':=Prod.ext e3 e4;rw[e5];exact hb
 exact ih b (by omega) ⟨hbb,by omega,o1,o2,o3⟩
theorem yU5 {x:Nod} {f:Fr} (hk:x.k=20):RuW W (x,f):=fun w v hv hu=>by
 have hl:((lvl x:Nat):Int)=5:=by unfold lvl;rw[hk];rfl
 show Calls _ _ _ _ fun e w'=>e = .returned (.int .i64 ((lvl x:Nat):Int))∧Up w w'
 rw[hl];obtain⟨q,p,A,c,rfl,hq,c0,-⟩:=InT.open hv;have k0:=hu.cell c0;rw[hk] at k0;clear c0 hv hk hl
 go_enter Tryz.func69,Tryz.ntmps69
 go_wp2_with fail
 go_ret
 exact⟨rfl,Up.refl _⟩
theorem yU6 {x:Nod} {f:Fr} (hk:x.k=21):RuW W (x,f):=fun w v hv hu=>by
 have hl:((lvl x:Nat):Int)=5:=by unfold lvl;rw[hk];rfl
 show Calls _ _ _ _ fun e w'=>e = .returned (.int .i64 ((lvl x:Nat):Int))∧Up w w'
 rw[hl];obtain⟨q,p,A,c,rfl,hq,c0,-⟩:=InT.open hv;have k0:=hu.cell c0;rw[hk] at k0;clear c0 hv hk hl
 go_enter Tryz.func69,Tryz.ntmps69
 go_wp2_with fail
 go_ret
 exact⟨rfl,Up.refl _⟩
theorem yU7 {x:Nod} {f:Fr} (hk:x.k=22):RuW W (x,f):=fun w v hv hu=>by
 have hl:((lvl x:Nat):Int)=5:=by unfold lvl;rw[hk];rfl
 show Calls _ _ _ _ fun e w'=>e = .returned (.int .i64 ((lvl x:Nat):Int))∧Up w w'
 rw[hl];obtain⟨q,p,A,c,rfl,hq,c0,-⟩:=InT.open hv;have k0:=hu.cell c0;rw[hk] at k0;clear c0 hv hk hl
 go_enter Tryz.func69,Tryz.ntmps69
 go_wp2_with fail
 go_ret
 exact⟨rfl,Up.refl _⟩
theorem yU8 {x:Nod} {f:Fr} (hk:x.k=24):RuW W (x,f):=fun w v hv hu=>by
 have hl:((lvl x:Nat):Int)=0:=by unfold lvl;rw[hk];rfl
 show Calls _ _ _ _ fun e w'=>e = .returned (.int .i64 ((lvl x:Nat):Int))∧Up w w'
 rw[hl];obtain⟨q,p,A,c,rfl,hq,c0,-⟩:=InT.open hv;have k0:=hu.cell c0;rw[hk] at k0;clear c0 hv hk hl
 go_enter Tryz.func69,Tryz.ntmps69
 go_wp2_with fail
 go_ret
 exact⟨rfl,Up.refl _⟩
theorem yU9 {x:Nod} {f:Fr} (hk:x.k=26):RuW W (x,f):=fun w v hv hu=>by
 have hl:((lvl x:Nat):Int)=5:=by unfold lvl;rw[hk];rfl
 show Calls _ _ _ _ fun e w'=>e = .returned (.int .i64 ((lvl x:Nat):Int))∧Up w w'
 rw[hl];obtain⟨q,p,A,c,rfl,hq,c0,-⟩:=InT.open hv;have k0:=hu.cell c0;rw[hk] at k0;clear c0 hv hk hl
 go_enter Tryz.func69,Tryz.ntmps69
 go_wp2_with fail
 go_ret
 exact⟨rfl,Up.refl _⟩
theorem yUa {x:Nod} {f:Fr} (hk:x.k=27):RuW W (x,f):=fun w v hv hu=>by
 have hl:((lvl x:Nat):Int)=5:=by unfold lvl;rw[hk];rfl
 show Calls _ _ _ _ fun e w'=>e = .returned (.int .i64 ((lvl x:Nat):Int))∧Up w w'
 rw[hl];obtain⟨q,p,A,c,rfl,hq,c0,-⟩:=InT.open hv;have k0:=hu.cell c0;rw[hk] at k0;clear c0 hv hk hl
 go_enter Tryz.func69,Tryz.ntmps69
 go_wp2_with fail
 go_ret
 exact⟨rfl,Up.refl _⟩
theorem yUb {x:Nod} {f:Fr} (hk:x.k=28):RuW W (x,f):=fun w v hv hu=>by
 have hl:((lvl x:Nat):Int)=5:=by unfold lvl;rw[hk];rfl
 show Calls _ _ _ _ fun e w'=>e = .returned (.int .i64 ((lvl x:Nat):Int))∧Up w w'
 rw[hl];obtain⟨q,p,A,c,rfl,hq,c0,-⟩:=InT.open hv;have k0:=hu.cell c0;rw[hk] at k0;clear c0 hv hk hl
 go_enter Tryz.func69,Tryz.ntmps69
 go_wp2_with fail
 go_ret
 exact⟨rfl,Up.refl _⟩
theorem yUc {x:Nod} {f:Fr} (hk:x.k=29):RuW W (x,f):=fun w v hv hu=>by
 have hl:((lvl x:Nat):Int)=0:=by unfold lvl;rw[hk];rfl
 show Calls _ _ _ _ fun e w'=>e = .returned (.int .i64 ((lvl x:Nat):Int))∧Up w w'
 rw[hl];obtain⟨q,p,A,c,rfl,hq,c0,-⟩:=InT.open hv;have k0:=hu.cell c0;rw[hk] at k0;clear c0 hv hk hl
 go_enter Tryz.func69,Tryz.ntmps69
 go_wp2_with fail
 go_ret
 exact⟨rfl,Up.refl _⟩
theorem yUd {x:Nod} {f:Fr} (hk:x.k=30):RuW W (x,f):=fun w v hv hu=>by
 have hl:((lvl x:Nat):Int)=0:=by unfold lvl;rw[hk];rfl
 show Calls _ _ _ _ fun e w'=>e = .returned (.int .i64 ((lvl x:Nat):Int))∧Up w w'
 rw[hl];obtain⟨q,p,A,c,rfl,hq,c0,-⟩:=InT.open hv;have k0:=hu.cell c0;rw[hk] at k0;clear c0 hv hk hl
 go_enter Tryz.func69,Tryz.ntmps69
 go_wp2_with fail
 go_ret
 exact⟨rfl,Up.refl _⟩
theorem yUe {x:Nod} {f:Fr} (hk:x.k=32):RuW W (x,f):=fun w v hv hu=>by
 have hl:((lvl x:Nat):Int)=0:=by unfold lvl;rw[hk];rfl
 show Calls _ _ _ _ fun e w'=>e = .returned (.int .i64 ((lvl x:Nat):Int))∧Up w w'
 rw[hl];obtain⟨q,p,A,c,rfl,hq,c0,-⟩:=InT.open hv;have k0:=hu.cell c0;rw[hk] at k0;clear c0 hv hk hl
 go_enter Tryz.func69,Tryz.ntmps69
 go_wp2_with fail
 go_ret
 exact⟨rfl,Up.refl _⟩
theorem yUf {x:Nod} {f:Fr} (hk:x.k=33):RuW W (x,f):=fun w v hv hu=>by
 have hl:((lvl x:Nat):Int)=0:=by unfold lvl;rw[hk];rfl
 show Calls _ _ _ _ fun e w'=>e = .returned (.int .i64 ((lvl x:Nat):Int))∧Up w w'
 rw[hl];obtain⟨q,p,A,c,rfl,hq,c0,-⟩:=InT.open hv;have k0:=hu.cell c0;rw[hk] at k0;clear c0 hv hk hl
 go_enter Tryz.func69,Tryz.ntmps69
 go_wp2_with fail
 go_ret
 exact⟨rfl,Up.refl _⟩
theorem zEo (hO:Op7 W) {t:Tr} (h:isT B.nck B.long t 2=true):RuW W t:=by
 cases wZ h with
 | num n h1 h2=>exact yU5 rfl
 | boo n h=>exact yU6 rfl
 | unit=>exact yU7 rfl
 | var s h=>exact zWm rfl
 | lam s h a b ha hb=>exact yU8 rfl
 | app a b ha hb=>exact zWn rfl
 | pair a b ha hb=>exact yU9 rfl
 | sel k hk a ha=>
  rcases hk with rfl | rfl
  ·exact yUa rfl
  ·exact yUb rfl
 | letE s h a b ha hb=>exact yUc rfl
 | ifE a b c ha hb hc=>exact yUd rfl
 | op k h1 h2 a b ha hb=>
  obtain⟨m,rfl⟩:∃m:Nat,k=((m+1:Nat):Int):=⟨(k-1).toNat,by omega⟩;exact zKl m (by omega) _ hO
 | caseE a ha k hk h0=>exact yUe rfl
 | foldE a t ha ht k hk h0=>exact yUf rfl
end
end Go.Proofs.YtbpijnalmakfaaaGreatDoor
