/-
  Layer 7, the program's writer: the rule of a node; operations.
-/
import Derived.Test.YtbpijnalmakfaaaGreatDoorGs32
set_option maxHeartbeats 40000000
set_option maxRecDepth 100000
namespace Go.Proofs.YtbpijnalmakfaaaGreatDoor
open Go.RowKit
theorem zFm (k:Nat) (h:k<5):opRu k=((lvl (opN ((k+1:Nat):Int)):Nat):Int):=by
 obtain rfl | rfl | rfl | rfl | rfl:k=0∨k=1∨k=2∨k=3∨k=4:=by omega
 all_goals rfl
theorem zFn (k:Nat) (h:k<5):opLe k=((lft (opN ((k+1:Nat):Int)):Nat):Int):=by
 obtain rfl | rfl | rfl | rfl | rfl:k=0∨k=1∨k=2∨k=3∨k=4:=by omega
 all_goals rfl
theorem zFo (k:Nat) (h:k<5):opRi k=((lvl (opN ((k+1:Nat):Int))+1:Nat):Int):=by
 obtain rfl | rfl | rfl | rfl | rfl:k=0∨k=1∨k=2∨k=3∨k=4:=by omega
 all_goals rfl
theorem zLw (k:Nat) (h:k<5):opSg k=signB ((k+1:Nat):Int):=by
 obtain rfl | rfl | rfl | rfl | rfl:k=0∨k=1∨k=2∨k=3∨k=4:=by omega
 all_goals rfl
def RuW (W:World) (t:Tr):Prop:=∀(w:World) (v:Value),HasT W v (some t)→Up W w→Calls Tryz.prog 69 #[v] w fun e w'=>e = .returned (.int .i64 ((lvl t.1:Nat):Int))∧Up w w'
def LoC (W:World) (bw:Nat) (t:Tr) (c:Nat):Prop:=∀(X:Nat→Obj→Prop) (w:World) (n:Nat) (Ys:List ByteArray) (v:Value),HasT W v (some t)→St7 W bw X n Ys w→n+c≤1000000→Calls Tryz.prog 75 #[.pointer (some ⟨bw,0,none⟩),v] w (WrE W bw X (n+c) (Ys++[txE qD t]))
section
variable {W:World} {bw:Nat}
theorem zLx (k:Nat) (hk:k<5) (f:Fr) (hO:Op7 W):RuW W (opN ((k+1:Nat):Int),f):=fun w v hv hu=>by
 rw[show((lvl (opN ((k+1:Nat):Int),f).1:Nat):Int)=opRu k from(zFm k hk).symm];obtain⟨tp,zp,hpl⟩:=hO.up hu;obtain⟨q,p,A,c,rfl,hq,c0,c1,-⟩:=InT.open hv;have c0:W.cell? ⟨q,p,none⟩=some (.int .i64 31):=c0;have c1:W.cell? ⟨q,p+1,none⟩=some (.int .i64 ((k+1:Nat):Int)):=c1;have k0:=hu.cell c0;have k1:=hu.cell c1;obtain⟨kk,hkk⟩:∃kk,((k+1:Nat):Int)=kk:=⟨_,rfl⟩;rw[hkk] at k1 c1;have HKK:=Lib.hid hkk;have HC1:=Lib.hid k1;clear hv hkk c0 c1
 go_enter Tryz.func69,Tryz.ntmps69
 go_wp2_with (refine wpList_load_row rfl 163 (.global 0) rfl 0 rfl tp opV zp _ hpl Tryz.underlying163 rfl (by kernel_rfl) ?_)
 generalize hA:opV=AR
 have HAR:=Lib.hid hA;clear hA hpl k0 k1
 go_loopw [20] (fun x wr=>∃j:Nat,j≤k∧x = .int .i64 (j:Int)∧Up w wr) (fun x _=>6-(intOf x).toNat)
 case atStart=>exact⟨0,Nat.zero_le _,rfl,Up.refl _⟩
 case round=>
  obtain⟨j,hj,rfl,hur⟩:=hrel;have hlt:j<5:=by omega
  have hix:∀W,(Instr.index 163 (.agg AR) (.int .i64 (j:Int))).run Tryz.prog W = .ok (.agg #[.string (opSg j),.int .i64 ((j+1:Nat):Int),.int .i64 (opRu j),.int .i64 (opLe j),.int .i64 (opRi j)]) W:=fun W=>by rw[←HAR.out];exact zRq j hlt W
  have hw1:IntKind.i64.wrap ((j:Int)+1)=((j+1:Nat):Int):=by rw[IntKind.wrap_i64];omega
  have hjz:(j:Int)<5:=by omega
  obtain⟨sg,hsg⟩:∃sg,opSg j=sg:=⟨_,rfl⟩;obtain⟨ka,hka⟩:∃ka,((j+1:Nat):Int)=ka:=⟨_,rfl⟩;obtain⟨ru,hru⟩:∃ru,opRu j=ru:=⟨_,rfl⟩;obtain⟨le,hle⟩:∃le,opLe j=le:=⟨_,rfl⟩;obtain⟨ri,hri⟩:∃ri,opRi j=ri:=⟨_,rfl⟩;rw[hsg,hka,hru,hle,hri] at hix;rw[hka] at hw1;have HSG:=Lib.hid hsg;have HKA:=Lib.hid hka;have HRU:=Lib.hid hru;have HLE:=Lib.hid hle;have HRI:=Lib.hid hri;obtain⟨Wr1,hWr1⟩:∃Wr1,wr.alloc (.cells #[.string sg,.int .i64 ka,.int .i64 ru,.int .i64 le,.int .i64 ri] 162)=Wr1:=⟨_,rfl⟩;have ur:Up wr Wr1:=by rw[←hWr1];exact(Up.refl wr).alloc _
  have b1:Wr1.heap[wr.heap.size]? = some (.cells #[.string sg,.int .i64 ka,.int .i64 ru,.int .i64 le,.int .i64 ri] 162 (0,0)):=by rw[←hWr1];exact heap_alloc_new wr _
  have x1:Wr1.cell? ⟨wr.heap.size,1,none⟩=some (.int .i64 ka):=cell_of_row _ wr.heap.size 1 _ _ _ b1;have HW1:=Lib.hid hWr1;have x2:Wr1.cell? ⟨wr.heap.size,2,none⟩=some (.int .i64 ru):=cell_of_row _ wr.heap.size 2 _ _ _ b1;have UF:=Lib.hid (hur.trans ur);have n1:Wr1.cell? ⟨q,p+1,none⟩=some (.int .i64 kk):=(hur.trans ur).cell HC1.out
  by_cases he:ka=kk
  ·have hjk:j=k:=by have:=HKK.out;have:=HKA.out;omega
   subst he;subst hjk;clear hsg hka hru hle hri hWr1 ur b1 hur;go_wp2_with fail;rw[HW1.out]
   go_quiet (fail)
   go_wp2_with fail
   go_ret
   exact⟨congrArg (fun z=>Ending.returned (.int .i64 z)) HRU.out.symm,UF.out.drewN _⟩
  ·have hjk:¬j=k:=fun e=>he (by rw[←HKA.out,←HKK.out,e])
   clear hsg hka hru hle hri hWr1 ur b1 hur;go_wp2_with fail;rw[HW1.out]
   go_quiet (fail)
   go_wp2_with fail
   go_roundw
   case rel=>exact⟨j+1,by omega,yG (by have:=HKA.out;omega),UF.out.drewN _⟩
   case measure=>simp[intOf];have:=HKA.out;omega
theorem jL_op (a s b:ByteArray) {T:ByteArray} (k:Int) (hs:s=signB k) (h:T=a++sgB k++b):jL ([a]++[s,b])=T.data.toList:=by
 rw[h,hs];simp only[List.cons_append,List.nil_append,jL,List.map_cons,List.map_nil,jT,nmT,qN,List.append_assoc,zVr]
theorem yV8 (k:Nat) (hk:k<5) (a b:Tr) (hB:W.heap.size≤bw) (hO:Op7 W) (ea:isT B.nck B.long a 2=true) (eb:isT B.nck B.long b 2=true) (cA:WriC W bw a (lft (opN ((k+1:Nat):Int))) (12*szT a)) (cB:WriC W bw b (lvl (opN ((k+1:Nat):Int))+1) (12*szT b))
  (X:Nat→Obj→Prop) (w:World) (n:Nat) (Ys:List ByteArray) (v:Value) (hv:HasT W v (some (opN ((k+1:Nat):Int),fr2 a b))) (hs:St7 W bw X n Ys w) (hn:n+(1+12*szT a+12*szT b)≤1000000) :
  Calls Tryz.prog 74 #[.pointer (some ⟨bw,0,none⟩),v] w (WrE W bw X (n+(1+12*szT a+12*szT b)) (Ys++[txE qD (opN ((k+1:Nat):Int),fr2 a b)])):=by
 have hzz:=jL_op (atX qD a (lft (opN ((k+1:Nat):Int)))) (opSg k) (atX qD b (lvl (opN ((k+1:Nat):Int))+1)) ((k+1:Nat):Int) (zLw k hk) (zZa (nb:=qD) (k:=((k+1:Nat):Int)) ea eb);obtain⟨tp,zp,hpl⟩:=hO.up hs.1;obtain⟨q,p,A,cp0,rfl,hq,k0,k1,k2,k3,k4,hcc,hkid⟩:=InT.open hv;obtain⟨kb,ko,rfl,hkb,⟨vaa,kaa,iaa⟩,⟨vbb,kbb,ibb⟩,-⟩:=hkid (by show 0<2;omega);obtain⟨qa,pa,rfl⟩:=InT.ptr iaa;obtain⟨qb,pb,rfl⟩:=InT.ptr ibb;have k1:W.cell? ⟨q,p+1,none⟩=some (.int .i64 ((k+1:Nat):Int)):=k1;have k4:W.cell? ⟨q,p+4,none⟩=some (.slice (some ⟨kb,ko,none⟩) 2 cp0):=k4;have kaa:W.cell? ⟨kb,ko,none⟩=some (.pointer (some ⟨qa,pa,none⟩)):=kaa;have kbb:W.cell? ⟨kb,ko+1,none⟩=some (.pointer (some ⟨qb,pb,none⟩)):=kbb;have HIa:Hid (HasT W (.pointer (some ⟨qa,pa,none⟩)) (some a)):=Lib.hid iaa;have HIb:Hid (HasT W (.pointer (some ⟨qb,pb,none⟩)) (some b)):=Lib.hid ibb;have HKa:=Lib.hid kaa;have HKb:=Lib.hid kbb;have HK4:=Lib.hid k4;have HS:=Lib.hid hs;have HN:=Lib.hid hn;have HZZ:=Lib.hid hzz;have HcA:=Lib.hid cA;have HcB:=Lib.hid cB;obtain⟨ZZ,hZZ⟩:∃ZZ,Ys++[txE qD (opN ((k+1:Nat):Int),fr2 a b)]=ZZ:=⟨_,rfl⟩;rw[hZZ];have HZ:=Lib.hid hZZ;obtain⟨kk,hkk⟩:∃kk,((k+1:Nat):Int)=kk:=⟨_,rfl⟩;have HKK:=Lib.hid hkk
 have HC1:Hid (W.cell? ⟨q,p+1,none⟩=some (.int .i64 kk)):=Lib.hid (by rw[←hkk];exact k1);obtain⟨CC,hCC⟩:∃CC,1+12*szT a+12*szT b=CC:=⟨_,rfl⟩;have HCC:=Lib.hid hCC;rw[hCC];have H0:Hid (St7 W bw X (if k<0 then n+CC else n) (if k<0 then ZZ else Ys) w):=Lib.hid (by rw[if_neg (Nat.not_lt_zero _),if_neg (Nat.not_lt_zero _)];exact hs);clear hv hs hn hzz hZZ k0 k1 k2 k3 k4 hkid kaa iaa kbb ibb cA cB hkk hCC
 go_enter Tryz.func74,Tryz.ntmps74
 go_wp2_with (refine wpList_load_row rfl 163 (.global 0) rfl 0 rfl tp opV zp _ hpl Tryz.underlying163 rfl (by kernel_rfl) ?_)
 generalize hA:opV=AR
 have HAR:=Lib.hid hA;clear hA hpl
 go_loopw [7] (fun x wr=>∃j:Nat,j≤5∧x = .int .i64 (j:Int)∧St7 W bw X (if k<j then n+CC else n) (if k<j then ZZ else Ys) wr) (fun x _=>6-(intOf x).toNat)
 case atStart=>exact⟨0,Nat.zero_le _,rfl,H0.out⟩
 case round=>
  obtain⟨j,hj,rfl,hsr⟩:=hrel;have HSR:=Lib.hid hsr;clear hsr
  by_cases hlt:j<5
  ·skip
   have hix:∀W,(Instr.index 163 (.agg AR) (.int .i64 (j:Int))).run Tryz.prog W = .ok (.agg #[.string (opSg j),.int .i64 ((j+1:Nat):Int),.int .i64 (opRu j),.int .i64 (opLe j),.int .i64 (opRi j)]) W:=fun W=>by rw[←HAR.out];exact zRq j hlt W
   have hw1:IntKind.i64.wrap ((j:Int)+1)=((j+1:Nat):Int):=by rw[IntKind.wrap_i64];omega
   have hjz:(j:Int)<5:=by omega
   obtain⟨sg,hsg⟩:∃sg,opSg j=sg:=⟨_,rfl⟩;obtain⟨ka,hka⟩:∃ka,((j+1:Nat):Int)=ka:=⟨_,rfl⟩;obtain⟨ru,hru⟩:∃ru,opRu j=ru:=⟨_,rfl⟩;obtain⟨le,hle⟩:∃le,opLe j=le:=⟨_,rfl⟩;obtain⟨ri,hri⟩:∃ri,opRi j=ri:=⟨_,rfl⟩;rw[hsg,hka,hru,hle,hri] at hix;rw[hka] at hw1;have HSG:=Lib.hid hsg;have HKA:=Lib.hid hka;have HRU:=Lib.hid hru;have HLE:=Lib.hid hle;have HRI:=Lib.hid hri;obtain⟨Wr1,hWr1⟩:∃Wr1,wr.alloc (.cells #[.string sg,.int .i64 ka,.int .i64 ru,.int .i64 le,.int .i64 ri] 162)=Wr1:=⟨_,rfl⟩;have ur:Up wr Wr1:=by rw[←hWr1];exact(Up.refl wr).alloc _
   have b1:Wr1.heap[wr.heap.size]? = some (.cells #[.string sg,.int .i64 ka,.int .i64 ru,.int .i64 le,.int .i64 ri] 162 (0,0)):=by rw[←hWr1];exact heap_alloc_new wr _
   have x1:Wr1.cell? ⟨wr.heap.size,1,none⟩=some (.int .i64 ka):=cell_of_row _ wr.heap.size 1 _ _ _ b1;have HW1:=Lib.hid hWr1;have x0:Wr1.cell? ⟨wr.heap.size,0,none⟩=some (.string sg):=cell_of_row _ wr.heap.size 0 _ _ _ b1;have x3:Wr1.cell? ⟨wr.heap.size,3,none⟩=some (.int .i64 le):=cell_of_row _ wr.heap.size 3 _ _ _ b1;have x4:Wr1.cell? ⟨wr.heap.size,4,none⟩=some (.int .i64 ri):=cell_of_row _ wr.heap.size 4 _ _ _ b1;have n1:Wr1.cell? ⟨q,p+1,none⟩=some (.int .i64 kk):=(HSR.out.1.trans ur).cell HC1.out;have UR:=Lib.hid ur
   by_cases he:ka=kk
   ·have hjk:j=k:=by have:=HKK.out;have:=HKA.out;omega
    have hst:=HSR.out;rw[if_neg (by omega),if_neg (by omega)] at hst;have HST:Hid (St7 W bw (fun B q=>X B q∨(B=wr.heap.size∧q = .cells #[.string sg,.int .i64 ka,.int .i64 ru,.int .i64 le,.int .i64 ri] 162)) n Ys Wr1):=Lib.hid (by rw[←hWr1];exact hst.keep _);have m4:=HST.out.1.cell HK4.out;have ma:=HST.out.1.cell HKa.out;subst he;have HJK:=Lib.hid hjk;clear hsg hka hru hle hri hWr1 ur b1 hst hjk;go_wp2_with fail;rw[HW1.out]
    go_quiet (fail)
    go_wp2_with fail;obtain⟨W2,hW2⟩:∃W2,Wr1.drewN nq=W2:=⟨_,rfl⟩;rw[hW2];have u2:Up Wr1 W2:=by rw[←hW2];exact qF (Below.refl _ _) nq
    have hle2:((lft (opN ((k+1:Nat):Int)):Nat):Int)=le:=by rw[←zFn k hk,←HJK.out,HLE.out]
    have hri2:((lvl (opN ((k+1:Nat):Int))+1:Nat):Int)=ri:=by rw[←zFo k hk,←HJK.out,HRI.out]
    have cWA:=fun w' (u:Up W2 w')=>HcA.out _ w' n Ys _ HIa.out ((HST.out.up u2).up u) (by have:=HN.out;omega)
    rw[hle2] at cWA;have CWA:=Lib.hid cWA;have m4:=u2.cell m4;have ma:=u2.cell ma;have x3:=u2.cell x3;have HRI2:=Lib.hid hri2;clear cWA hW2 u2 n1 x0 x1 x4 hle2 hri2
    go_region_held3 (fun w'=>w'.cell? ⟨q,p+4,none⟩=some (.slice (some ⟨kb,ko,none⟩) 2 cp0)∧w'.cell? ⟨kb,ko,none⟩=some (.pointer (some ⟨qa,pa,none⟩))∧w'.cell? ⟨wr.heap.size,3,none⟩=some (.int .i64 le)) (first | go_keep | (refine⟨?_,?_,?_⟩<;>assumption)) (first
     | (go_at_call 36;refine Calls.mono (CWA.out _ (by first | exact Below.refl _ _ | exact qF (Below.refl _ _) 1)) ?_;rintro e3 w3 ⟨⟨y3,rfl⟩,h3⟩;have m4:=h3.1.cell HK4.out;have ma:=h3.1.cell HKa.out;have r3:=h3.row (Or.inr ⟨rfl,rfl⟩);have x3:w3.cell? ⟨wr.heap.size,3,none⟩=some (.int .i64 le):=(cell_of_row _ wr.heap.size 3 _ _ _ r3);have H3:=Lib.hid h3;clear h3 r3 CWA))
    all_goals go_wp2_with fail
    have r3:=H3.out.row (Or.inr ⟨rfl,rfl⟩);have x0:w3.cell? ⟨wr.heap.size,0,none⟩=some (.string sg):=cell_of_row _ wr.heap.size 0 _ _ _ r3;have x4:w3.cell? ⟨wr.heap.size,4,none⟩=some (.int .i64 ri):=cell_of_row _ wr.heap.size 4 _ _ _ r3;have mb:=H3.out.1.cell HKb.out;have cWB:=fun w' (u:Up w3 w')=>yZ sg b _ _ hB HcB.out w' _ _ _ HIb.out (H3.out.up u) (by have:=HN.out;omega)
    rw[HRI2.out] at cWB;have CWB:=Lib.hid cWB;clear cWB r3 ma
    rename_i hh1
    clear hh1
    go_region_held3 (fun w'=>w'.cell? ⟨wr.heap.size,0,none⟩=some (.string sg)∧w'.cell? ⟨q,p+4,none⟩=some (.slice (some ⟨kb,ko,none⟩) 2 cp0)∧w'.cell? ⟨kb,ko+1,none⟩=some (.pointer (some ⟨qb,pb,none⟩))∧w'.cell? ⟨wr.heap.size,4,none⟩=some (.int .i64 ri)) (first | go_keep | (refine⟨?_,?_,?_,?_⟩<;>assumption)) (first
     | (go_at_call 73;refine Calls.mono (CWB.out _ (by first | exact Below.refl _ _ | exact qF (Below.refl _ _) 1)) ?_;rintro e4 w4 ⟨⟨y4,rfl⟩,h4⟩;have n4:=h4.1.cell HK4.out;have nb:=h4.1.cell HKb.out;have r4:=h4.row (Or.inr ⟨rfl,rfl⟩);have z0:w4.cell? ⟨wr.heap.size,0,none⟩=some (.string sg):=(cell_of_row _ wr.heap.size 0 _ _ _ r4);have z4:w4.cell? ⟨wr.heap.size,4,none⟩=some (.int .i64 ri):=(cell_of_row _ wr.heap.size 4 _ _ _ r4);have H4:=Lib.hid h4;clear h4 r4 CWB))
    all_goals go_wp2_with fail
    go_roundw
    case rel=>
     refine⟨j+1,by omega,yG (by have:=HKA.out;omega),?_⟩;have hjk:=HJK.out;rw[if_pos (by omega),if_pos (by omega)];have h:=H4.out.drop (X:=X) fun B o h=>Or.inl h
     have hsg:opSg k=sg:=by rw[←hjk];exact HSG.out
     rw[←hsg] at h;simp only[List.append_assoc] at h;rw[←HZ.out];exact St7.more (St7.join h (by simp) HZZ.out) (by have:=HCC.out;omega)
    case measure=>simp[intOf];have:=HKA.out;omega
   ·have hjk:¬j=k:=fun e=>he (by rw[←HKA.out,←HKK.out,e])
    clear hsg hka hru hle hri hWr1 ur b1;go_wp2_with fail;rw[HW1.out]
    go_quiet (fail)
    go_wp2_with fail
    go_roundw
    case rel=>
     refine⟨j+1,by omega,yG (by have:=HKA.out;omega),?_⟩;have h:=HSR.out.up UR.out
     by_cases hkj:k<j
     ·rw[if_pos hkj,if_pos hkj] at h;rw[if_pos (by omega),if_pos (by omega)];exact h.up (qF (Below.refl _ _) _)
     ·rw[if_neg hkj,if_neg hkj] at h;rw[if_neg (by omega),if_neg (by omega)];exact h.up (qF (Below.refl _ _) _)
    case measure=>simp[intOf];have:=HKA.out;omega
  ·obtain rfl:j=5:=by omega
   go_wp2_with fail;go_end0;have h:=HSR.out;rw[if_pos (by omega),if_pos (by omega)] at h;exact⟨⟨_,rfl⟩,h⟩
theorem wr_op (k:Nat) (hk:k<5) (a b:Tr) (hB:W.heap.size≤bw) (hO:Op7 W) (ea:isT B.nck B.long a 2=true) (eb:isT B.nck B.long b 2=true) (cA:WriC W bw a (lft (opN ((k+1:Nat):Int))) (12*szT a)) (cB:WriC W bw b (lvl (opN ((k+1:Nat):Int))+1) (12*szT b))
  (r:Nat) (hr:¬lvl (opN ((k+1:Nat):Int))<r) (RU:RuW W (opN ((k+1:Nat):Int),fr2 a b)):WriC W bw (opN ((k+1:Nat):Int),fr2 a b) r (1+12*szT a+12*szT b):=fun X w n Ys v hv hs hn=>by
 rw[fT (t:=(opN ((k+1:Nat):Int),fr2 a b)) hr];have cR:=RU w v hv hs.1;have cO:=fun w' (u:Up w w')=>yV8 k hk a b hB hO ea eb cA cB X w' n Ys v hv (hs.up u) hn
 obtain⟨q,p,A,cp0,rfl,hq,k0,-⟩:=InT.open hv;have k0:W.cell? ⟨q,p,none⟩=some (.int .i64 31):=k0;have HK0:=Lib.hid k0;have HS:=Lib.hid hs;have CO:=Lib.hid cO;obtain⟨rr,hrr⟩:∃rr:Int,(r:Int)=rr:=⟨_,rfl⟩;obtain⟨ll,hll⟩:∃ll:Int,((lvl (opN ((k+1:Nat):Int),fr2 a b).1:Nat):Int)=ll:=⟨_,rfl⟩;have hq2:¬ll<rr:=by
  have:((lvl (opN ((k+1:Nat):Int)):Nat):Int)=ll:=hll;omega
 rw[hrr];rw[hll] at cR;obtain⟨s,hss⟩:∃s,txE qD (opN ((k+1:Nat):Int),fr2 a b)=s:=⟨_,rfl⟩;rw[hss] at CO ⊢;clear hv hs hn k0 hrr hll hr RU cO hss cA cB
 go_enter Tryz.func36,Tryz.ntmps36
 go_wp2_with fail;refine Calls.mono cR ?_;rintro en w1 ⟨rfl,u1⟩;have k0:=(HS.out.up u1).1.cell HK0.out;have cN:=CO.out w1 u1;clear u1 cR;go_wp2_with fail;refine Calls.mono cN ?_;rintro en w2 ⟨⟨x2,rfl⟩,h2⟩;have H2:=Lib.hid h2;clear h2;go_wp2_with fail;go_end0;exact⟨⟨_,rfl⟩,H2.out⟩
end
section
variable {W:World} {bw:Nat}
theorem yV9 (a b:Tr) (_hB:W.heap.size≤bw) (ea:isT B.nck B.long a 2=true) (eb:isT B.nck B.long b 2=true) (cA:WriC W bw a 4 (12*szT a)) (cB:WriC W bw b 5 (12*szT b)) (r:Nat) (hr:¬4<r) (RU:RuW W (nd 25 nob (fr2 a b))):WriC W bw (nd 25 nob (fr2 a b)) r (12*szT a+12*szT b):=fun X w n Ys v hv hs hn=>by
 rw[fT (t:=(nd 25 nob (fr2 a b))) hr];have hzz:jL ([atX qD a 4]++[atX qD b 5])=(txE qD (nd 25 nob (fr2 a b))).data.toList:=by
  rw[zSm ea eb];simp only[List.cons_append,List.nil_append,jL,List.map_cons,List.map_nil,jT,nmT,qN,List.append_assoc]<;>rfl
 have cR:Calls Tryz.prog 69 #[v] w fun e w'=>e = .returned (.int .i64 4)∧Up w w':=RU w v hv hs.1
 obtain⟨q,p,A,cp0,rfl,hq,k0,k1,k2,k3,k4,hcc,hkid⟩:=InT.open hv;obtain⟨kb,ko,rfl,hkb,⟨vaa,kaa,iaa⟩,⟨vbb,kbb,ibb⟩,-⟩:=hkid (by show 0<2;omega);obtain⟨qa,pa,rfl⟩:=InT.ptr iaa;obtain⟨qb,pb,rfl⟩:=InT.ptr ibb;have k4:W.cell? ⟨q,p+4,none⟩=some (.slice (some ⟨kb,ko,none⟩) 2 cp0):=k4;have kaa:W.cell? ⟨kb,ko,none⟩=some (.pointer (some ⟨qa,pa,none⟩)):=kaa;have HIa:Hid (HasT W (.pointer (some ⟨qa,pa,none⟩)) (some a)):=Lib.hid iaa;have HKa:=Lib.hid kaa;have kbb:W.cell? ⟨kb,ko+1,none⟩=some (.pointer (some ⟨qb,pb,none⟩)):=kbb;have HIb:Hid (HasT W (.pointer (some ⟨qb,pb,none⟩)) (some b)):=Lib.hid ibb;have HKb:=Lib.hid kbb;have HK4:=Lib.hid k4;have HK0:=Lib.hid k0;have HK2:=Lib.hid k2;have HS:=Lib.hid hs;have HN:=Lib.hid hn;have HZZ:=Lib.hid hzz;obtain⟨ZZ,hZZ⟩:∃ZZ,Ys++[txE qD (nd 25 nob (fr2 a b))]=ZZ:=⟨_,rfl⟩;rw[hZZ];have HZ:=Lib.hid hZZ;have HcA:=Lib.hid cA;have HcB:=Lib.hid cB;obtain⟨rr,hrr⟩:∃rr:Int,(r:Int)=rr:=⟨_,rfl⟩;rw[hrr];have hq2:¬(4:Int)<rr:=by omega
 clear hv hs hn hzz hZZ k0 k1 k2 k3 k4 hkid kaa iaa kbb ibb cA cB hrr hr RU
 go_enter Tryz.func36,Tryz.ntmps36
 go_wp2_with fail;refine Calls.mono cR ?_;rintro en w1 ⟨rfl,u1⟩;have h1:=HS.out.up u1;have k0:=h1.1.cell HK0.out;have k2:=h1.1.cell HK2.out;have H1:=Lib.hid h1;clear u1 h1 cR;have c0:=HcA.out _ _ _ _ _ HIa.out H1.out (by have:=HN.out;omega);have m4:=H1.out.1.cell HK4.out;have ma:=H1.out.1.cell HKa.out;go_wp2_with fail;refine Calls.mono c0 ?_;rintro en w3 ⟨⟨x3,rfl⟩,h3⟩;have H3:=Lib.hid h3;clear h3 c0 m4 ma k0 k2;have c1:=HcB.out _ _ _ _ _ HIb.out H3.out (by have:=HN.out;omega);have m4:=H3.out.1.cell HK4.out;have mb:=H3.out.1.cell HKb.out;go_wp2_with fail;refine Calls.mono c1 ?_;rintro en w4 ⟨⟨x4,rfl⟩,h4⟩;have H4:=Lib.hid h4;clear h4 c1 m4 mb;have hfin:=H4.out;simp only[List.append_assoc] at hfin;have HF:=Lib.hid (St7.more (m:=n+(12*szT a+12*szT b)) (St7.join (Ys:=Ys) (Zs:=[atX qD a 4]++[atX qD b 5]) hfin (by simp) HZZ.out) (by omega));clear hfin;go_wp2_with fail;go_end0;rw[←HZ.out];exact⟨⟨_,rfl⟩,HF.out⟩
theorem zAn (a b:Tr) (hB:W.heap.size≤bw) (ea:isT B.nck B.long a 2=true) (eb:isT B.nck B.long b 2=true) (cA:WriC W bw a 0 (12*szT a)) (cB:WriC W bw b 0 (12*szT b)) (r:Nat) (hr:¬5<r) (RU:RuW W (nd 26 nob (fr2 a b))):WriC W bw (nd 26 nob (fr2 a b)) r (3+12*szT a+12*szT b):=fun X w n Ys v hv hs hn=>by
 rw[fT (t:=(nd 26 nob (fr2 a b))) hr];have hzz:jL ([kOpen,atX qD a 0]++([qJ,atX qD b 0]++[kShut]))=(txE qD (nd 26 nob (fr2 a b))).data.toList:=by
  rw[zPr ea eb,gP,gP];simp only[List.cons_append,List.nil_append,jL,List.map_cons,List.map_nil,jT,nmT,qN,List.append_assoc]<;>rfl
 have cR:Calls Tryz.prog 69 #[v] w fun e w'=>e = .returned (.int .i64 5)∧Up w w':=RU w v hv hs.1
 obtain⟨q,p,A,cp0,rfl,hq,k0,k1,k2,k3,k4,hcc,hkid⟩:=InT.open hv;obtain⟨kb,ko,rfl,hkb,⟨vaa,kaa,iaa⟩,⟨vbb,kbb,ibb⟩,-⟩:=hkid (by show 0<2;omega);obtain⟨qa,pa,rfl⟩:=InT.ptr iaa;obtain⟨qb,pb,rfl⟩:=InT.ptr ibb;have k4:W.cell? ⟨q,p+4,none⟩=some (.slice (some ⟨kb,ko,none⟩) 2 cp0):=k4;have kaa:W.cell? ⟨kb,ko,none⟩=some (.pointer (some ⟨qa,pa,none⟩)):=kaa;have HIa:Hid (HasT W (.pointer (some ⟨qa,pa,none⟩)) (some a)):=Lib.hid iaa;have HKa:=Lib.hid kaa;have kbb:W.cell? ⟨kb,ko+1,none⟩=some (.pointer (some ⟨qb,pb,none⟩)):=kbb;have HIb:Hid (HasT W (.pointer (some ⟨qb,pb,none⟩)) (some b)):=Lib.hid ibb;have HKb:=Lib.hid kbb;have HK4:=Lib.hid k4;have HK0:=Lib.hid k0;have HK2:=Lib.hid k2;have HS:=Lib.hid hs;have HN:=Lib.hid hn;have HZZ:=Lib.hid hzz;obtain⟨ZZ,hZZ⟩:∃ZZ,Ys++[txE qD (nd 26 nob (fr2 a b))]=ZZ:=⟨_,rfl⟩;rw[hZZ];have HZ:=Lib.hid hZZ;have HcA:=Lib.hid cA;have HcB:=Lib.hid cB;obtain⟨rr,hrr⟩:∃rr:Int,(r:Int)=rr:=⟨_,rfl⟩;rw[hrr];have hq2:¬(5:Int)<rr:=by omega
 clear hv hs hn hzz hZZ k0 k1 k2 k3 k4 hkid kaa iaa kbb ibb cA cB hrr hr RU
 go_enter Tryz.func36,Tryz.ntmps36
 go_wp2_with fail;refine Calls.mono cR ?_;rintro en w1 ⟨rfl,u1⟩;have h1:=HS.out.up u1;have k0:=h1.1.cell HK0.out;have k2:=h1.1.cell HK2.out;have H1:=Lib.hid h1;clear u1 h1 cR;have c0:=yZ kOpen a 0 _ hB HcA.out _ _ _ _ HIa.out H1.out (by have:=HN.out;omega);have m4:=H1.out.1.cell HK4.out;have ma:=H1.out.1.cell HKa.out;go_wp2_with fail;refine Calls.mono c0 ?_;rintro en w3 ⟨⟨x3,rfl⟩,h3⟩;have H3:=Lib.hid h3;clear h3 c0 m4 ma k0 k2;have c1:=yZ qJ b 0 _ hB HcB.out _ _ _ _ HIb.out H3.out (by have:=HN.out;omega);have m4:=H3.out.1.cell HK4.out;have mb:=H3.out.1.cell HKb.out;go_wp2_with fail;refine Calls.mono c1 ?_;rintro en w4 ⟨⟨x4,rfl⟩,h4⟩;have H4:=Lib.hid h4;clear h4 c1 m4 mb;have c2:=fC kShut hB H4.out (by have:=HN.out;omega);go_wp2_with fail;refine Calls.mono c2 ?_;rintro en w5 ⟨⟨x5,rfl⟩,h5⟩;have H5:=Lib.hid h5;clear h5 c2;have hfin:=H5.out;simp only[List.append_assoc] at hfin;have HF:=Lib.hid (St7.more (m:=n+(3+12*szT a+12*szT b)) (St7.join (Ys:=Ys) (Zs:=[kOpen,atX qD a 0]++([qJ,atX qD b 0]++[kShut])) hfin (by simp) HZZ.out) (by omega));clear hfin;go_wp2_with fail;go_end0;rw[←HZ.out];exact⟨⟨_,rfl⟩,HF.out⟩
theorem yVa (a:Tr) (hB:W.heap.size≤bw) (ea:isT B.nck B.long a 2=true) (cA:WriC W bw a 5 (12*szT a)) (r:Nat) (hr:¬5<r) (RU:RuW W (nd 27 nob (fr1 a))):WriC W bw (nd 27 nob (fr1 a)) r (1+12*szT a):=fun X w n Ys v hv hs hn=>by
 rw[fT (t:=(nd 27 nob (fr1 a))) hr];have hzz:jL ([kOne,atX qD a 5])=(txE qD (nd 27 nob (fr1 a))).data.toList:=by
  rw[zXa (.inl rfl) ea,if_pos rfl];simp only[List.cons_append,List.nil_append,jL,List.map_cons,List.map_nil,jT,nmT,qN]<;>rfl
 have cR:Calls Tryz.prog 69 #[v] w fun e w'=>e = .returned (.int .i64 5)∧Up w w':=RU w v hv hs.1
 obtain⟨q,p,A,cp0,rfl,hq,k0,k1,k2,k3,k4,hcc,hkid⟩:=InT.open hv;obtain⟨kb,ko,rfl,hkb,⟨vaa,kaa,iaa⟩,-⟩:=hkid (by show 0<1;omega);obtain⟨qa,pa,rfl⟩:=InT.ptr iaa;have k4:W.cell? ⟨q,p+4,none⟩=some (.slice (some ⟨kb,ko,none⟩) 1 cp0):=k4;have kaa:W.cell? ⟨kb,ko,none⟩=some (.pointer (some ⟨qa,pa,none⟩)):=kaa;have HIa:Hid (HasT W (.pointer (some ⟨qa,pa,none⟩)) (some a)):=Lib.hid iaa;have HKa:=Lib.hid kaa;have HK4:=Lib.hid k4;have HK0:=Lib.hid k0;have HK2:=Lib.hid k2;have HS:=Lib.hid hs;have HN:=Lib.hid hn;have HZZ:=Lib.hid hzz;obtain⟨ZZ,hZZ⟩:∃ZZ,Ys++[txE qD (nd 27 nob (fr1 a))]=ZZ:=⟨_,rfl⟩;rw[hZZ];have HZ:=Lib.hid hZZ;have HcA:=Lib.hid cA;obtain⟨rr,hrr⟩:∃rr:Int,(r:Int)=rr:=⟨_,rfl⟩;rw[hrr];have hq2:¬(5:Int)<rr:=by omega
 clear hv hs hn hzz hZZ k0 k1 k2 k3 k4 hkid kaa iaa cA hrr hr RU
 go_enter Tryz.func36,Tryz.ntmps36
 go_wp2_with fail;refine Calls.mono cR ?_;rintro en w1 ⟨rfl,u1⟩;have h1:=HS.out.up u1;have k0:=h1.1.cell HK0.out;have k2:=h1.1.cell HK2.out;have H1:=Lib.hid h1;clear u1 h1 cR;have c0:=yZ kOne a 5 _ hB HcA.out _ _ _ _ HIa.out H1.out (by have:=HN.out;omega);have m4:=H1.out.1.cell HK4.out;have ma:=H1.out.1.cell HKa.out;go_wp2_with fail;refine Calls.mono c0 ?_;rintro en w3 ⟨⟨x3,rfl⟩,h3⟩;have H3:=Lib.hid h3;clear h3 c0 m4 ma k0 k2;have hfin:=H3.out;have HF:=Lib.hid (St7.more (m:=n+(1+12*szT a)) (St7.join (Ys:=Ys) (Zs:=[kOne,atX qD a 5]) hfin (by simp) HZZ.out) (by omega));clear hfin;go_wp2_with fail;go_end0;rw[←HZ.out];exact⟨⟨_,rfl⟩,HF.out⟩
theorem yVb (a:Tr) (hB:W.heap.size≤bw) (ea:isT B.nck B.long a 2=true) (cA:WriC W bw a 5 (12*szT a)) (r:Nat) (hr:¬5<r) (RU:RuW W (nd 28 nob (fr1 a))):WriC W bw (nd 28 nob (fr1 a)) r (1+12*szT a):=fun X w n Ys v hv hs hn=>by
 rw[fT (t:=(nd 28 nob (fr1 a))) hr];have hzz:jL ([kTwo,atX qD a 5])=(txE qD (nd 28 nob (fr1 a))).data.toList:=by
  rw[zXa (.inr rfl) ea,if_neg (by decide)];simp only[List.cons_append,List.nil_append,jL,List.map_cons,List.map_nil,jT,nmT,qN]<;>rfl
 have cR:Calls Tryz.prog 69 #[v] w fun e w'=>e = .returned (.int .i64 5)∧Up w w':=RU w v hv hs.1
 obtain⟨q,p,A,cp0,rfl,hq,k0,k1,k2,k3,k4,hcc,hkid⟩:=InT.open hv;obtain⟨kb,ko,rfl,hkb,⟨vaa,kaa,iaa⟩,-⟩:=hkid (by show 0<1;omega);obtain⟨qa,pa,rfl⟩:=InT.ptr iaa;have k4:W.cell? ⟨q,p+4,none⟩=some (.slice (some ⟨kb,ko,none⟩) 1 cp0):=k4;have kaa:W.cell? ⟨kb,ko,none⟩=some (.pointer (some ⟨qa,pa,none⟩)):=kaa;have HIa:Hid (HasT W (.pointer (some ⟨qa,pa,none⟩)) (some a)):=Lib.hid iaa;have HKa:=Lib.hid kaa;have HK4:=Lib.hid k4;have HK0:=Lib.hid k0;have HK2:=Lib.hid k2;have HS:=Lib.hid hs;have HN:=Lib.hid hn;have HZZ:=Lib.hid hzz;obtain⟨ZZ,hZZ⟩:∃ZZ,Ys++[txE qD (nd 28 nob (fr1 a))]=ZZ:=⟨_,rfl⟩;rw[hZZ];have HZ:=Lib.hid hZZ;have HcA:=Lib.hid cA;obtain⟨rr,hrr⟩:∃rr:Int,(r:Int)=rr:=⟨_,rfl⟩;rw[hrr];have hq2:¬(5:Int)<rr:=by omega
 clear hv hs hn hzz hZZ k0 k1 k2 k3 k4 hkid kaa iaa cA hrr hr RU
 go_enter Tryz.func36,Tryz.ntmps36
 go_wp2_with fail;refine Calls.mono cR ?_;rintro en w1 ⟨rfl,u1⟩;have h1:=HS.out.up u1;have k0:=h1.1.cell HK0.out;have k2:=h1.1.cell HK2.out;have H1:=Lib.hid h1;clear u1 h1 cR;have c0:=yZ kTwo a 5 _ hB HcA.out _ _ _ _ HIa.out H1.out (by have:=HN.out;omega);have m4:=H1.out.1.cell HK4.out;have ma:=H1.out.1.cell HKa.out;go_wp2_with fail;refine Calls.mono c0 ?_;rintro en w3 ⟨⟨x3,rfl⟩,h3⟩;have H3:=Lib.hid h3;clear h3 c0 m4 ma k0 k2;have hfin:=H3.out;have HF:=Lib.hid (St7.more (m:=n+(1+12*szT a)) (St7.join (Ys:=Ys) (Zs:=[kTwo,atX qD a 5]) hfin (by simp) HZZ.out) (by omega));clear hfin;go_wp2_with fail;go_end0;rw[←HZ.out];exact⟨⟨_,rfl⟩,HF.out⟩
end
section
variable {W:World} {bw:Nat}
theorem yVc (s:ByteArray) (a b:Tr) (hB:W.heap.size≤bw) (hx:B.Nx W) (hp:Pl W) (hzT:szT a≤8192) (hdT:dpT a≤60) (hkT:okST a) (hT:isT B.nck B.long a 1=true) (eb:isT B.nck B.long b 2=true) (cB:WriC W bw b 0 (12*szT b)):LoC W bw (nd 24 s (fr2 a b)) (7+12*szT b):=fun X w n Ys v hv hs hn=>by
 have hzz:jL ([kFn,kOpen,s]++([zQ,tB (tkT a)]++([kShut]++[kFat,atX qD b 0])))=(txE qD (nd 24 s (fr2 a b))).data.toList:=by
  rw[zHe hT eb,gP];simp only[List.cons_append,List.nil_append,jL,List.map_cons,List.map_nil,jT,nmT,qN,List.append_assoc]<;>rfl
 obtain⟨q,p,A,cp0,rfl,hq,k0,k1,k2,k3,k4,hcc,hkid⟩:=InT.open hv;obtain⟨kb,ko,rfl,hkb,⟨vaa,kaa,iaa⟩,⟨vbb,kbb,ibb⟩,-⟩:=hkid (by show 0<2;omega);obtain⟨qa,pa,rfl⟩:=InT.ptr iaa;obtain⟨qb,pb,rfl⟩:=InT.ptr ibb;have k4:W.cell? ⟨q,p+4,none⟩=some (.slice (some ⟨kb,ko,none⟩) 2 cp0):=k4;have kaa:W.cell? ⟨kb,ko,none⟩=some (.pointer (some ⟨qa,pa,none⟩)):=kaa;have HIa:Hid (HasT W (.pointer (some ⟨qa,pa,none⟩)) (some a)):=Lib.hid iaa;have HKa:=Lib.hid kaa;have kbb:W.cell? ⟨kb,ko+1,none⟩=some (.pointer (some ⟨qb,pb,none⟩)):=kbb;have HIb:Hid (HasT W (.pointer (some ⟨qb,pb,none⟩)) (some b)):=Lib.hid ibb;have HKb:=Lib.hid kbb;have HK4:=Lib.hid k4;have HK0:=Lib.hid k0;have HK2:=Lib.hid k2;have HS:=Lib.hid hs;have HN:=Lib.hid hn;have HZZ:=Lib.hid hzz;obtain⟨ZZ,hZZ⟩:∃ZZ,Ys++[txE qD (nd 24 s (fr2 a b))]=ZZ:=⟨_,rfl⟩;rw[hZZ];have HZ:=Lib.hid hZZ;have HhzT:=Lib.hid hzT;have HhdT:=Lib.hid hdT;have HhkT:=Lib.hid hkT;have HhT:=Lib.hid hT;have HcB:=Lib.hid cB;clear hv hs hn hzz hZZ k0 k1 k2 k3 k4 hkid kaa iaa kbb ibb hzT hdT hkT hT cB;have k0:w.cell? ⟨q,p,none⟩=_:=HS.out.1.cell HK0.out;have k2:w.cell? ⟨q,p+2,none⟩=_:=HS.out.1.cell HK2.out
 go_enter Tryz.func75,Tryz.ntmps75
 have c0:=zFk kFn kOpen s hB HS.out (by have:=HN.out;omega);go_wp2_with fail;refine Calls.mono c0 ?_;rintro en w3 ⟨⟨x3,rfl⟩,h3⟩;have H3:=Lib.hid h3;clear h3 c0 k0 k2;have c1:=zFl zQ a hB hx hp HhzT.out HhdT.out HhkT.out HhT.out _ _ _ _ HIa.out H3.out (by have:=HN.out;omega);have m4:=H3.out.1.cell HK4.out;have ma:=H3.out.1.cell HKa.out;go_wp2_with fail;refine Calls.mono c1 ?_;rintro en w4 ⟨⟨x4,rfl⟩,h4⟩;have H4:=Lib.hid h4;clear h4 c1 m4 ma;have c2:=fC kShut hB H4.out (by have:=HN.out;omega);go_wp2_with fail;refine Calls.mono c2 ?_;rintro en w5 ⟨⟨x5,rfl⟩,h5⟩;have H5:=Lib.hid h5;clear h5 c2;have c3:=yZ kFat b 0 _ hB HcB.out _ _ _ _ HIb.out H5.out (by have:=HN.out;omega);have m4:=H5.out.1.cell HK4.out;have mb:=H5.out.1.cell HKb.out;go_wp2_with fail;refine Calls.mono c3 ?_;rintro en w6 ⟨⟨x6,rfl⟩,h6⟩;have H6:=Lib.hid h6;clear h6 c3 m4 mb;have hfin:=H6.out;simp only[List.append_assoc] at hfin;have HF:=Lib.hid (St7.more (m:=n+(7+12*szT b)) (St7.join (Ys:=Ys) (Zs:=[kFn,kOpen,s]++([zQ,tB (tkT a)]++([kShut]++[kFat,atX qD b 0]))) hfin (by simp) HZZ.out) (by omega));clear hfin;go_wp2_with fail;go_end0;rw[←HZ.out];exact⟨⟨_,rfl⟩,HF.out⟩
theorem yVd (s:ByteArray) (a b:Tr) (hB:W.heap.size≤bw) (ea:isT B.nck B.long a 2=true) (eb:isT B.nck B.long b 2=true) (cA:WriC W bw a 0 (12*szT a)) (cB:WriC W bw b 0 (12*szT b)):LoC W bw (nd 29 s (fr2 a b)) (5+12*szT a+12*szT b):=fun X w n Ys v hv hs hn=>by
 have hzz:jL ([kLet,s]++([kEq,atX qD a 0]++([kIn,atX qD b 0]++[kEnd])))=(txE qD (nd 29 s (fr2 a b))).data.toList:=by
  rw[zHf ea eb,gP,gP];simp only[List.cons_append,List.nil_append,jL,List.map_cons,List.map_nil,jT,nmT,qN,List.append_assoc]<;>rfl
 obtain⟨q,p,A,cp0,rfl,hq,k0,k1,k2,k3,k4,hcc,hkid⟩:=InT.open hv;obtain⟨kb,ko,rfl,hkb,⟨vaa,kaa,iaa⟩,⟨vbb,kbb,ibb⟩,-⟩:=hkid (by show 0<2;omega);obtain⟨qa,pa,rfl⟩:=InT.ptr iaa;obtain⟨qb,pb,rfl⟩:=InT.ptr ibb;have k4:W.cell? ⟨q,p+4,none⟩=some (.slice (some ⟨kb,ko,none⟩) 2 cp0):=k4;have kaa:W.cell? ⟨kb,ko,none⟩=some (.pointer (some ⟨qa,pa,none⟩)):=kaa;have HIa:Hid (HasT W (.pointer (some ⟨qa,pa,none⟩)) (some a)):=Lib.hid iaa;have HKa:=Lib.hid kaa;have kbb:W.cell? ⟨kb,ko+1,none⟩=some (.pointer (some ⟨qb,pb,none⟩)):=kbb;have HIb:Hid (HasT W (.pointer (some ⟨qb,pb,none⟩)) (some b)):=Lib.hid ibb;have HKb:=Lib.hid kbb;have HK4:=Lib.hid k4;have HK0:=Lib.hid k0;have HK2:=Lib.hid k2;have HS:=Lib.hid hs;have HN:=Lib.hid hn;have HZZ:=Lib.hid hzz;obtain⟨ZZ,hZZ⟩:∃ZZ,Ys++[txE qD (nd 29 s (fr2 a b))]=ZZ:=⟨_,rfl⟩;rw[hZZ];have HZ:=Lib.hid hZZ;have HcA:=Lib.hid cA;have HcB:=Lib.hid cB;clear hv hs hn hzz hZZ k0 k1 k2 k3 k4 hkid kaa iaa kbb ibb cA cB;have k0:w.cell? ⟨q,p,none⟩=_:=HS.out.1.cell HK0.out;have k2:w.cell? ⟨q,p+2,none⟩=_:=HS.out.1.cell HK2.out
 go_enter Tryz.func75,Tryz.ntmps75
 have c0:=zRy kLet s hB HS.out (by have:=HN.out;omega);go_wp2_with fail;refine Calls.mono c0 ?_;rintro en w3 ⟨⟨x3,rfl⟩,h3⟩;have H3:=Lib.hid h3;clear h3 c0 k0 k2;have c1:=yZ kEq a 0 _ hB HcA.out _ _ _ _ HIa.out H3.out (by have:=HN.out;omega);have m4:=H3.out.1.cell HK4.out;have ma:=H3.out.1.cell HKa.out;go_wp2_with fail;refine Calls.mono c1 ?_;rintro en w4 ⟨⟨x4,rfl⟩,h4⟩;have H4:=Lib.hid h4;clear h4 c1 m4 ma;have c2:=yZ kIn b 0 _ hB HcB.out _ _ _ _ HIb.out H4.out (by have:=HN.out;omega);have m4:=H4.out.1.cell HK4.out;have mb:=H4.out.1.cell HKb.out;go_wp2_with fail;refine Calls.mono c2 ?_;rintro en w5 ⟨⟨x5,rfl⟩,h5⟩;have H5:=Lib.hid h5;clear h5 c2 m4 mb;have c3:=fC kEnd hB H5.out (by have:=HN.out;omega);go_wp2_with fail;refine Calls.mono c3 ?_;rintro en w6 ⟨⟨x6,rfl⟩,h6⟩;have H6:=Lib.hid h6;clear h6 c3;have hfin:=H6.out;simp only[List.append_assoc] at hfin;have HF:=Lib.hid (St7.more (m:=n+(5+12*szT a+12*szT b)) (St7.join (Ys:=Ys) (Zs:=[kLet,s]++([kEq,atX qD a 0]++([kIn,atX qD b 0]++[kEnd]))) hfin (by simp) HZZ.out) (by omega));clear hfin;go_wp2_with fail;go_end0;rw[←HZ.out];exact⟨⟨_,rfl⟩,HF.out⟩
theorem lo_if (a b c:Tr) (hB:W.heap.size≤bw) (ea:isT B.nck B.long a 2=true) (eb:isT B.nck B.long b 2=true) (ec:isT B.nck B.long c 2=true) (cA:WriC W bw a 0 (12*szT a)) (cB:WriC W bw b 0 (12*szT b)) (cC:WriC W bw c 0 (12*szT c)):LoC W bw (nd 30 nob (fr3 a b c)) (3+12*szT a+12*szT b+12*szT c):=fun X w n Ys v hv hs hn=>by
 have hzz:jL ([kIf,atX qD a 0]++([kThen,atX qD b 0]++[kElse,atX qD c 0]))=(txE qD (nd 30 nob (fr3 a b c))).data.toList:=by
  rw[yYh ea eb ec,gP,gP,gP];simp only[List.cons_append,List.nil_append,jL,List.map_cons,List.map_nil,jT,nmT,qN,List.append_assoc]<;>rfl
 obtain⟨q,p,A,cp0,rfl,hq,k0,k1,k2,k3,k4,hcc,hkid⟩:=InT.open hv;obtain⟨kb,ko,rfl,hkb,⟨vaa,kaa,iaa⟩,⟨vbb,kbb,ibb⟩,⟨vcc,kcc,icc⟩,-⟩:=hkid (by show 0<3;omega);obtain⟨qa,pa,rfl⟩:=InT.ptr iaa;obtain⟨qb,pb,rfl⟩:=InT.ptr ibb;obtain⟨qc,pc,rfl⟩:=InT.ptr icc;have k4:W.cell? ⟨q,p+4,none⟩=some (.slice (some ⟨kb,ko,none⟩) 3 cp0):=k4;have kaa:W.cell? ⟨kb,ko,none⟩=some (.pointer (some ⟨qa,pa,none⟩)):=kaa;have HIa:Hid (HasT W (.pointer (some ⟨qa,pa,none⟩)) (some a)):=Lib.hid iaa;have HKa:=Lib.hid kaa;have kbb:W.cell? ⟨kb,ko+1,none⟩=some (.pointer (some ⟨qb,pb,none⟩)):=kbb;have HIb:Hid (HasT W (.pointer (some ⟨qb,pb,none⟩)) (some b)):=Lib.hid ibb;have HKb:=Lib.hid kbb;have kcc:W.cell? ⟨kb,ko+2,none⟩=some (.pointer (some ⟨qc,pc,none⟩)):=kcc;have HIc:Hid (HasT W (.pointer (some ⟨qc,pc,none⟩)) (some c)):=Lib.hid icc;have HKc:=Lib.hid kcc;have HK4:=Lib.hid k4;have HK0:=Lib.hid k0;have HK2:=Lib.hid k2;have HS:=Lib.hid hs;have HN:=Lib.hid hn;have HZZ:=Lib.hid hzz;obtain⟨ZZ,hZZ⟩:∃ZZ,Ys++[txE qD (nd 30 nob (fr3 a b c))]=ZZ:=⟨_,rfl⟩;rw[hZZ];have HZ:=Lib.hid hZZ;have HcA:=Lib.hid cA;have HcB:=Lib.hid cB;have HcC:=Lib.hid cC;clear hv hs hn hzz hZZ k0 k1 k2 k3 k4 hkid kaa iaa kbb ibb kcc icc cA cB cC;have k0:w.cell? ⟨q,p,none⟩=_:=HS.out.1.cell HK0.out;have k2:w.cell? ⟨q,p+2,none⟩=_:=HS.out.1.cell HK2.out
 go_enter Tryz.func75,Tryz.ntmps75
 have c0:=yZ kIf a 0 _ hB HcA.out _ _ _ _ HIa.out HS.out (by have:=HN.out;omega);have m4:=HS.out.1.cell HK4.out;have ma:=HS.out.1.cell HKa.out;go_wp2_with fail;refine Calls.mono c0 ?_;rintro en w3 ⟨⟨x3,rfl⟩,h3⟩;have H3:=Lib.hid h3;clear h3 c0 m4 ma k0 k2;have c1:=yZ kThen b 0 _ hB HcB.out _ _ _ _ HIb.out H3.out (by have:=HN.out;omega);have m4:=H3.out.1.cell HK4.out;have mb:=H3.out.1.cell HKb.out;go_wp2_with fail;refine Calls.mono c1 ?_;rintro en w4 ⟨⟨x4,rfl⟩,h4⟩;have H4:=Lib.hid h4;clear h4 c1 m4 mb;have c2:=yZ kElse c 0 _ hB HcC.out _ _ _ _ HIc.out H4.out (by have:=HN.out;omega);have m4:=H4.out.1.cell HK4.out;have mc:=H4.out.1.cell HKc.out;go_wp2_with fail;refine Calls.mono c2 ?_;rintro en w5 ⟨⟨x5,rfl⟩,h5⟩;have H5:=Lib.hid h5;clear h5 c2 m4 mc;have hfin:=H5.out;simp only[List.append_assoc] at hfin;have HF:=Lib.hid (St7.more (m:=n+(3+12*szT a+12*szT b+12*szT c)) (St7.join (Ys:=Ys) (Zs:=[kIf,atX qD a 0]++([kThen,atX qD b 0]++[kElse,atX qD c 0])) hfin (by simp) HZZ.out) (by omega));clear hfin;go_wp2_with fail;go_end0;rw[←HZ.out];exact⟨⟨_,rfl⟩,HF.out⟩
end
theorem yVe (s:ByteArray):jL ([kOpen]++([s]++[kShut]))=(⟨#[40,32]⟩++s++⟨#[32,41]⟩:ByteArray).data.toList:=by
 simp only[List.cons_append,List.nil_append,jL,List.map_cons,List.map_nil,jT,nmT,qN]
 rfl
section
variable {W:World} {bw:Nat} {X:Nat→Obj→Prop}
theorem zFp (t:Tr) (r c:Nat) (hB:W.heap.size≤bw) (h:lvl t.1<r) (RU:RuW W t) (c0:WriC W bw t 0 c):WriC W bw t r (c+2):=fun X w n Ys v hv hs hn=>by
 rw[zAm h];have cR:=RU w v hv hs.1;have HV:=Lib.hid hv;have HS:=Lib.hid hs;have HN:=Lib.hid hn;have HC:=Lib.hid c0;have hq2:((lvl t.1:Nat):Int)<(r:Int):=by omega
 obtain⟨rr,hrr⟩:∃rr:Int,(r:Int)=rr:=⟨_,rfl⟩;obtain⟨ll,hll⟩:∃ll:Int,((lvl t.1:Nat):Int)=ll:=⟨_,rfl⟩;rw[hrr,hll] at hq2;rw[hrr];rw[hll] at cR;obtain⟨s,hss⟩:∃s,txE qD t=s:=⟨_,rfl⟩;rw[hss];obtain⟨ZZ,hZZ⟩:∃ZZ,Ys++[⟨#[40,32]⟩++s++⟨#[32,41]⟩]=ZZ:=⟨_,rfl⟩;rw[hZZ];have HZ:=Lib.hid hZZ;have HSS:=Lib.hid hss;clear hv hs hn c0 hrr hll hss hZZ h RU
 go_enter Tryz.func36,Tryz.ntmps36
 go_wp2_with fail;refine Calls.mono cR ?_;rintro en w1 ⟨rfl,u1⟩;have cP:=fC kOpen hB (HS.out.up u1) (by have:=HN.out;omega);clear u1 cR;go_wp2_with fail;refine Calls.mono cP ?_;rintro en w2 ⟨⟨x2,rfl⟩,h2⟩;have cW:=HC.out _ w2 (n+1) (Ys++[kOpen]) v HV.out h2 (by have:=HN.out;omega);rw[gP,HSS.out] at cW;clear h2 cP;go_wp2_with fail;refine Calls.mono cW ?_;rintro en w3 ⟨⟨x3,rfl⟩,h3⟩;have cP:=fC kShut hB h3 (by have:=HN.out;omega);clear h3 cW;go_wp2_with fail;refine Calls.mono cP ?_;rintro en w4 ⟨⟨x4,rfl⟩,h4⟩;simp only[List.append_assoc] at h4;have HF:=Lib.hid (St7.more (m:=n+(c+2)) (St7.join (Ys:=Ys) (Zs:=[kOpen]++([s]++[kShut])) h4 (by simp) (yVe s)) (by omega));clear h4;go_wp2_with fail;go_end0;rw[←HZ.out];exact⟨⟨_,rfl⟩,HF.out⟩
theorem yVf (k:Int) (h1 : -1073741824≤k) (h2:k≤1073741824) (hB:W.heap.size≤bw) (hx:B.Lx W) (r:Nat) (hr:¬5<r) (RU:RuW W (⟨20,k,nob,nob⟩,.nil)):WriC W bw (⟨20,k,nob,nob⟩,.nil) r 1:=fun X w n Ys v hv hs hn=>by
 rw[fT (t:=(⟨20,k,nob,nob⟩,.nil)) hr,zHc];have cR:Calls Tryz.prog 69 #[v] w fun e w'=>e = .returned (.int .i64 5)∧Up w w':=RU w v hv hs.1
 obtain⟨q,p,A,cp0,rfl,hq,k0,k1,k2,k3,k4,hcc,hkid⟩:=InT.open hv;have k0:W.cell? ⟨q,p,none⟩=some (.int .i64 20):=k0;have k1:W.cell? ⟨q,p+1,none⟩=some (.int .i64 k):=k1;have HK0:=Lib.hid k0;have HK1:=Lib.hid k1;have HS:=Lib.hid hs;have HN:=Lib.hid hn;have HX:=Lib.hid hx;obtain⟨rr,hrr⟩:∃rr:Int,(r:Int)=rr:=⟨_,rfl⟩;rw[hrr];have hq2:¬(5:Int)<rr:=by omega
 have cN:∀w',Up W w'→Calls Tryz.prog 71 #[.int .i64 k] w' (B.bW (qD k) w'):=fun w' u=>B.sD k (by omega) (by omega) w' (B.Lx.below hx u)
 have HCN:=Lib.hid cN;obtain⟨s,hss⟩:∃s,qD k=s:=⟨_,rfl⟩;rw[hss] at HCN ⊢;clear hv hs hn hx k0 k1 k2 k3 k4 hkid hrr hr RU cN hss
 go_enter Tryz.func36,Tryz.ntmps36
 go_wp2_with fail;refine Calls.mono cR ?_;rintro en w1 ⟨rfl,u1⟩;have h1:=HS.out.up u1;have k0:=h1.1.cell HK0.out;have k1:=h1.1.cell HK1.out;have cN:=HCN.out w1 h1.1;have H1:=Lib.hid h1;clear u1 h1 cR;go_wp2_with fail;refine Calls.mono cN ?_;rintro en w2 ⟨rfl,u2⟩;have cP:=fC s hB (H1.out.up u2) (by have:=HN.out;omega);clear u2 cN k0 k1;go_wp2_with fail;refine Calls.mono cP ?_;rintro en w3 ⟨⟨x3,rfl⟩,h3⟩;have H3:=Lib.hid h3;clear h3;go_wp2_with fail;go_end0;exact⟨⟨_,rfl⟩,H3.out⟩
theorem yVg (k:Int) (hB:W.heap.size≤bw) (r:Nat) (hr:¬5<r) (RU:RuW W (⟨21,k,nob,nob⟩,.nil)):WriC W bw (⟨21,k,nob,nob⟩,.nil) r 1:=fun X w n Ys v hv hs hn=>by
 rw[fT (t:=(⟨21,k,nob,nob⟩,.nil)) hr,zSz];have cR:Calls Tryz.prog 69 #[v] w fun e w'=>e = .returned (.int .i64 5)∧Up w w':=RU w v hv hs.1
 obtain⟨q,p,A,cp0,rfl,hq,k0,k1,k2,k3,k4,hcc,hkid⟩:=InT.open hv;have k0:W.cell? ⟨q,p,none⟩=some (.int .i64 21):=k0;have k1:W.cell? ⟨q,p+1,none⟩=some (.int .i64 k):=k1;have HK0:=Lib.hid k0;have HK1:=Lib.hid k1;have HS:=Lib.hid hs;have HN:=Lib.hid hn;obtain⟨rr,hrr⟩:∃rr:Int,(r:Int)=rr:=⟨_,rfl⟩;rw[hrr];have hq2:¬(5:Int)<rr:=by omega
 obtain⟨s,hss⟩:∃s,(if k=1 then kTrue else yH)=s:=⟨_,rfl⟩;rw[hss];have HSS:=Lib.hid hss;clear hv hs hn k0 k1 k2 k3 k4 hkid hrr hr RU hss
 go_enter Tryz.func36,Tryz.ntmps36
 go_wp2_with fail;refine Calls.mono cR ?_;rintro en w1 ⟨rfl,u1⟩;have h1:=HS.out.up u1;have k0:=h1.1.cell HK0.out;have k1:=h1.1.cell HK1.out;have cN:=yV7 k hB w1 n Ys h1 (by have:=HN.out;omega);rw[HSS.out] at cN;clear u1 h1 cR;go_wp2_with fail;refine Calls.mono cN ?_;rintro en w2 ⟨⟨x2,rfl⟩,h2⟩;have H2:=Lib.hid h2;clear h2;go_wp2_with fail;go_end0;exact⟨⟨_,rfl⟩,H2.out⟩
theorem zAo (hB:W.heap.size≤bw) (r:Nat) (hr:¬5<r) (RU:RuW W (nd 22 nob .nil)):WriC W bw (nd 22 nob .nil) r 2:=fun X w n Ys v hv hs hn=>by
 rw[fT (t:=nd 22 nob .nil) hr,zPq];have cR:Calls Tryz.prog 69 #[v] w fun e w'=>e = .returned (.int .i64 5)∧Up w w':=RU w v hv hs.1
 obtain⟨q,p,A,cp0,rfl,hq,k0,k1,k2,k3,k4,hcc,hkid⟩:=InT.open hv;have k0:W.cell? ⟨q,p,none⟩=some (.int .i64 22):=k0;have HK0:=Lib.hid k0;have HS:=Lib.hid hs;have HN:=Lib.hid hn;obtain⟨rr,hrr⟩:∃rr:Int,(r:Int)=rr:=⟨_,rfl⟩;rw[hrr];have hq2:¬(5:Int)<rr:=by omega
 clear hv hs hn k0 k1 k2 k3 k4 hkid hrr hr RU
 go_enter Tryz.func36,Tryz.ntmps36
 go_wp2_with fail;refine Calls.mono cR ?_;rintro en w1 ⟨rfl,u1⟩;have h1:=HS.out.up u1;have k0:=h1.1.cell HK0.out;have cN:=zRy kOpen kShut hB h1 (by have:=HN.out;omega);clear u1 h1 cR;go_wp2_with fail;refine Calls.mono cN ?_;rintro en w2 ⟨⟨x2,rfl⟩,h2⟩;have H2:=Lib.hid (St7.join (Z:=⟨#[40,32,41]⟩) h2 (by simp) rfl);clear h2;go_wp2_with fail;go_end0;exact⟨⟨_,rfl⟩,H2.out⟩
theorem yVh (s:ByteArray) (hB:W.heap.size≤bw) (r:Nat) (hr:¬5<r) (RU:RuW W (nd 23 s .nil)):WriC W bw (nd 23 s .nil) r 1:=fun X w n Ys v hv hs hn=>by
 rw[fT (t:=nd 23 s .nil) hr,zHd];have cR:Calls Tryz.prog 69 #[v] w fun e w'=>e = .returned (.int .i64 5)∧Up w w':=RU w v hv hs.1
 obtain⟨q,p,A,cp0,rfl,hq,k0,k1,k2,k3,k4,hcc,hkid⟩:=InT.open hv;have k0:W.cell? ⟨q,p,none⟩=some (.int .i64 23):=k0;have k2:W.cell? ⟨q,p+2,none⟩=some (.string s):=k2;have HK0:=Lib.hid k0;have HK2:=Lib.hid k2;have HS:=Lib.hid hs;have HN:=Lib.hid hn;obtain⟨rr,hrr⟩:∃rr:Int,(r:Int)=rr:=⟨_,rfl⟩;rw[hrr];have hq2:¬(5:Int)<rr:=by omega
 clear hv hs hn k0 k1 k2 k3 k4 hkid hrr hr RU
 go_enter Tryz.func36,Tryz.ntmps36
 go_wp2_with fail;refine Calls.mono cR ?_;rintro en w1 ⟨rfl,u1⟩;have h1:=HS.out.up u1;have k0:=h1.1.cell HK0.out;have k2:=h1.1.cell HK2.out;have cN:=fC s hB h1 (by have:=HN.out;omega);clear u1 h1 cR;go_wp2_with fail;refine Calls.mono cN ?_;rintro en w2 ⟨⟨x2,rfl⟩,h2⟩;have H2:=Lib.hid h2;clear h2;go_wp2_with fail;go_end0;exact⟨⟨_,rfl⟩,H2.out⟩
theorem nO (t:Tr) (c:Nat) (hk:t.1.k=24∨t.1.k=29∨t.1.k=30∨t.1.k=32∨t.1.k=33) (cL:LoC W bw t c) (r:Nat) (hr:¬0<r) (RU:RuW W t):WriC W bw t r c:=fun X w n Ys v hv hs hn=>by
 have hl:lvl t.1=0:=by unfold lvl;rw[if_pos hk]
 rw[fT (t:=t) (by rw[hl];exact hr)];have cR:Calls Tryz.prog 69 #[v] w fun e w'=>e = .returned (.int .i64 ((lvl t.1:Nat):Int))∧Up w w':=RU w v hv hs.1
 rw[hl] at cR;have cR:Calls Tryz.prog 69 #[v] w fun e w'=>e = .returned (.int .i64 0)∧Up w w':=cR
 have HV:=Lib.hid hv;obtain⟨x,f⟩:=t;obtain⟨q,p,A,cp0,rfl,hq,k0,k1,k2,k3,k4,hcc,hkid⟩:=InT.open hv;have HK0:=Lib.hid k0;have HS:=Lib.hid hs;have HN:=Lib.hid hn;have HL:=Lib.hid cL;obtain⟨rr,hrr⟩:∃rr:Int,(r:Int)=rr:=⟨_,rfl⟩;rw[hrr];have hq2:¬(0:Int)<rr:=by omega
 obtain⟨s,hss⟩:∃s,txE qD (x,f)=s:=⟨_,rfl⟩;rw[hss];have HSS:=Lib.hid hss;obtain⟨kk,hkk⟩:∃kk,x.k=kk:=⟨_,rfl⟩;have hk:x.k=24∨x.k=29∨x.k=30∨x.k=32∨x.k=33:=hk;rw[hkk] at hk HK0;have n20:¬kk=20:=by omega
 have n21:¬kk=21:=by omega
 have n22:¬kk=22:=by omega
 have n23:¬kk=23:=by omega
 have n25:¬kk=25:=by omega
 have n26:¬kk=26:=by omega
 have n27:¬kk=27:=by omega
 have n28:¬kk=28:=by omega
 have n31:¬kk=31:=by omega
 clear hv hs hn k0 k1 k2 k3 k4 hkid hrr hr RU cL hss hkk hk hl
 go_enter Tryz.func36,Tryz.ntmps36
 go_wp2_with fail;refine Calls.mono cR ?_;rintro en w1 ⟨rfl,u1⟩;have h1:=HS.out.up u1;have k0:=h1.1.cell HK0.out;have cN:=HL.out _ w1 n Ys _ HV.out h1 (by have:=HN.out;omega);rw[HSS.out] at cN;clear u1 h1 cR;go_wp2_with fail;refine Calls.mono cN ?_;rintro en w2 ⟨⟨x2,rfl⟩,h2⟩;have H2:=Lib.hid h2;clear h2;go_wp2_with fail;go_end0;exact⟨⟨_,rfl⟩,H2.out⟩
end
end Go.Proofs.YtbpijnalmakfaaaGreatDoor
