/-
  The document's Text of an operator, of case, of fold.
-/
import Derived.Test.YtbpijnalmakfaaaGreatDoorGw39
import Derived.Test.YtbpijnalmakfaaaGreatDoorGw42
import Derived.Test.YtbpijnalmakfaaaGreatDoorGw53
set_option maxHeartbeats 40000000
set_option maxRecDepth 100000
namespace Go.Proofs.YtbpijnalmakfaaaGreatDoor
open Go.RowKit
theorem gP {w:World} {cs:Array Value} {ty:TypeId} {j:Nat} {x:Value} (h:cs[j]? = some x):∀u:Upw (w.alloc (.cells cs ty)),u.w.cell? ⟨w.heap.size,j,none⟩=some x:=Upw.cell (sX h)
theorem yYk (a b:Tr) (ha:zG a) (ia:isT B.nck B.long a 2=true) (za:(txE qE a).size≤100000000) (hb:zG b) (ib:isT B.nck B.long b 2=true) (zb:(txE qE b).size≤100000000):zG (opN 1,fr2 a b):=fun W w v hv hu=>by
 have HV:=Lib.hid hv;obtain⟨q,p,A,c,rfl,hq,c0,c1,c2,c3,c4,hc,hkid⟩:=InT.open hv;obtain⟨kb,ko,rfl,hkb,⟨va,ma,ja⟩,⟨vb,mb,jb⟩,-⟩:=hkid (by show 0<2;omega);obtain⟨W1,hW1⟩:∃W1,w.alloc (.cells #[.string ⟨#[]⟩,.string ⟨#[32,43,32]⟩,.string ⟨#[32,45,32]⟩,.string ⟨#[32,42,32]⟩,.string ⟨#[32,61,32]⟩,.string ⟨#[32,60,32]⟩] 9)=W1:=⟨_,rfl⟩;have u1:Up W W1:=by rw[←hW1];exact hu.alloc _
 have UW:Hid (Up W W1):=Lib.hid u1;have k0:w.cell? ⟨q,p,none⟩=some (.int .i64 31):=hu.cell c0;have k4:w.cell? ⟨q,p+4,none⟩=some (.slice (some ⟨kb,ko,none⟩) 2 c):=hu.cell c4;have cL:Calls Tryz.prog 85 #[.pointer (some ⟨q,p,none⟩)] W1 fun e w'=>e = .returned (.int .i64 2)∧w'=W1:=wJ (opN 1,fr2 a b) W W1 _ hv u1
 have HL:=Lib.hid cL;rw[zYj ia ib];have e1:lft (opN 1)=2:=rfl;have e2:lvl (opN 1)+1=3:=rfl;have e3:sgB 1=⟨#[32,43,32]⟩:=rfl;rw[e1,e2,e3];have ya:=xW (nb:=qE) (t:=a) 2 za;have yb:=xW (nb:=qE) (t:=b) 3 zb;obtain⟨sa,hsa⟩:∃s,atX qE a 2=s:=⟨_,rfl⟩;obtain⟨sb,hsb⟩:∃s,atX qE b 3=s:=⟨_,rfl⟩;have Ca:Hid (∀u:Upw W1,Calls Tryz.prog 84 #[va,.int .i64 2] u.w fun e w'=>e = .returned (.string sa)∧Up W1 w'):=Lib.hid fun u=>by rw[←hsa];exact xX ha (Nat.le_trans za (by omega)) 2 W1 u.w va (HasT.up (o:=some a) ja u1) u.h
 have Cb:Hid (∀u:Upw W1,Calls Tryz.prog 84 #[vb,.int .i64 3] u.w fun e w'=>e = .returned (.string sb)∧Up W1 w'):=Lib.hid fun u=>by rw[←hsb];exact xX hb (Nat.le_trans zb (by omega)) 3 W1 u.w vb (HasT.up (o:=some b) jb u1) u.h
 rw[hsa] at ya ⊢;rw[hsb] at yb ⊢;obtain⟨qa,pa,rfl⟩:=InT.ptr ja;obtain⟨qb,pb,rfl⟩:=InT.ptr jb;have k1u:∀u:Upw W1,u.w.cell? ⟨q,p+1,none⟩=some (.int .i64 1):=Upw.cell (u1.cell c1);have kau:∀u:Upw W1,u.w.cell? ⟨kb,ko,none⟩=some (.pointer (some ⟨qa,pa,none⟩)):=Upw.cell (u1.cell ma);have kbu:∀u:Upw W1,u.w.cell? ⟨kb,ko+1,none⟩=some (.pointer (some ⟨qb,pb,none⟩)):=Upw.cell (u1.cell mb);have ksu:∀u:Upw W1,u.w.cell? ⟨w.heap.size,1,none⟩=some (.string ⟨#[32,43,32]⟩):=by rw[←hW1];exact gP rfl
 have HW1:=Lib.hid hW1;clear c0 c1 c2 c3 c4 hc hkid hv hq hkb hu ja jb ma mb hsa hsb ha hb ia ib za zb e1 e2 e3 u1 cL hW1
 go_enter Tryz.func39,Tryz.ntmps39
 go_wp2_with fail;rw[HW1.out];refine HL.out.mono ?_;rintro e w2 ⟨rfl,rfl⟩;go_wp2_with fail;refine qF (W:=w2) (Up.refl _) (by kernel_rfl) (by kernel_rfl) ?_
 repeat (go_big_quiet_step (first
  | (go_at_call 84;first | with_reducible exact Calls.upw (Ca.out _) | with_reducible exact Calls.upw (Cb.out _))
  ))
 refine wpQuiet_nil ?_;rintro _ ⟨⟨w9,u9⟩,rfl⟩;go_wp2_with fail
 go_ret
 exact zD rfl (UW.out.trans u9)
theorem yYl (a b:Tr) (ha:zG a) (ia:isT B.nck B.long a 2=true) (za:(txE qE a).size≤100000000) (hb:zG b) (ib:isT B.nck B.long b 2=true) (zb:(txE qE b).size≤100000000):zG (opN 2,fr2 a b):=fun W w v hv hu=>by
 have HV:=Lib.hid hv;obtain⟨q,p,A,c,rfl,hq,c0,c1,c2,c3,c4,hc,hkid⟩:=InT.open hv;obtain⟨kb,ko,rfl,hkb,⟨va,ma,ja⟩,⟨vb,mb,jb⟩,-⟩:=hkid (by show 0<2;omega);obtain⟨W1,hW1⟩:∃W1,w.alloc (.cells #[.string ⟨#[]⟩,.string ⟨#[32,43,32]⟩,.string ⟨#[32,45,32]⟩,.string ⟨#[32,42,32]⟩,.string ⟨#[32,61,32]⟩,.string ⟨#[32,60,32]⟩] 9)=W1:=⟨_,rfl⟩;have u1:Up W W1:=by rw[←hW1];exact hu.alloc _
 have UW:Hid (Up W W1):=Lib.hid u1;have k0:w.cell? ⟨q,p,none⟩=some (.int .i64 31):=hu.cell c0;have k4:w.cell? ⟨q,p+4,none⟩=some (.slice (some ⟨kb,ko,none⟩) 2 c):=hu.cell c4;have cL:Calls Tryz.prog 85 #[.pointer (some ⟨q,p,none⟩)] W1 fun e w'=>e = .returned (.int .i64 2)∧w'=W1:=wJ (opN 2,fr2 a b) W W1 _ hv u1
 have HL:=Lib.hid cL;rw[zYj ia ib];have e1:lft (opN 2)=2:=rfl;have e2:lvl (opN 2)+1=3:=rfl;have e3:sgB 2=⟨#[32,45,32]⟩:=rfl;rw[e1,e2,e3];have ya:=xW (nb:=qE) (t:=a) 2 za;have yb:=xW (nb:=qE) (t:=b) 3 zb;obtain⟨sa,hsa⟩:∃s,atX qE a 2=s:=⟨_,rfl⟩;obtain⟨sb,hsb⟩:∃s,atX qE b 3=s:=⟨_,rfl⟩;have Ca:Hid (∀u:Upw W1,Calls Tryz.prog 84 #[va,.int .i64 2] u.w fun e w'=>e = .returned (.string sa)∧Up W1 w'):=Lib.hid fun u=>by rw[←hsa];exact xX ha (Nat.le_trans za (by omega)) 2 W1 u.w va (HasT.up (o:=some a) ja u1) u.h
 have Cb:Hid (∀u:Upw W1,Calls Tryz.prog 84 #[vb,.int .i64 3] u.w fun e w'=>e = .returned (.string sb)∧Up W1 w'):=Lib.hid fun u=>by rw[←hsb];exact xX hb (Nat.le_trans zb (by omega)) 3 W1 u.w vb (HasT.up (o:=some b) jb u1) u.h
 rw[hsa] at ya ⊢;rw[hsb] at yb ⊢;obtain⟨qa,pa,rfl⟩:=InT.ptr ja;obtain⟨qb,pb,rfl⟩:=InT.ptr jb;have k1u:∀u:Upw W1,u.w.cell? ⟨q,p+1,none⟩=some (.int .i64 2):=Upw.cell (u1.cell c1);have kau:∀u:Upw W1,u.w.cell? ⟨kb,ko,none⟩=some (.pointer (some ⟨qa,pa,none⟩)):=Upw.cell (u1.cell ma);have kbu:∀u:Upw W1,u.w.cell? ⟨kb,ko+1,none⟩=some (.pointer (some ⟨qb,pb,none⟩)):=Upw.cell (u1.cell mb);have ksu:∀u:Upw W1,u.w.cell? ⟨w.heap.size,2,none⟩=some (.string ⟨#[32,45,32]⟩):=by rw[←hW1];exact gP rfl
 have HW1:=Lib.hid hW1;clear c0 c1 c2 c3 c4 hc hkid hv hq hkb hu ja jb ma mb hsa hsb ha hb ia ib za zb e1 e2 e3 u1 cL hW1
 go_enter Tryz.func39,Tryz.ntmps39
 go_wp2_with fail;rw[HW1.out];refine HL.out.mono ?_;rintro e w2 ⟨rfl,rfl⟩;go_wp2_with fail;refine qF (W:=w2) (Up.refl _) (by kernel_rfl) (by kernel_rfl) ?_
 repeat (go_big_quiet_step (first
  | (go_at_call 84;first | with_reducible exact Calls.upw (Ca.out _) | with_reducible exact Calls.upw (Cb.out _))
  ))
 refine wpQuiet_nil ?_;rintro _ ⟨⟨w9,u9⟩,rfl⟩;go_wp2_with fail
 go_ret
 exact zD rfl (UW.out.trans u9)
theorem yYm (a b:Tr) (ha:zG a) (ia:isT B.nck B.long a 2=true) (za:(txE qE a).size≤100000000) (hb:zG b) (ib:isT B.nck B.long b 2=true) (zb:(txE qE b).size≤100000000):zG (opN 3,fr2 a b):=fun W w v hv hu=>by
 have HV:=Lib.hid hv;obtain⟨q,p,A,c,rfl,hq,c0,c1,c2,c3,c4,hc,hkid⟩:=InT.open hv;obtain⟨kb,ko,rfl,hkb,⟨va,ma,ja⟩,⟨vb,mb,jb⟩,-⟩:=hkid (by show 0<2;omega);obtain⟨W1,hW1⟩:∃W1,w.alloc (.cells #[.string ⟨#[]⟩,.string ⟨#[32,43,32]⟩,.string ⟨#[32,45,32]⟩,.string ⟨#[32,42,32]⟩,.string ⟨#[32,61,32]⟩,.string ⟨#[32,60,32]⟩] 9)=W1:=⟨_,rfl⟩;have u1:Up W W1:=by rw[←hW1];exact hu.alloc _
 have UW:Hid (Up W W1):=Lib.hid u1;have k0:w.cell? ⟨q,p,none⟩=some (.int .i64 31):=hu.cell c0;have k4:w.cell? ⟨q,p+4,none⟩=some (.slice (some ⟨kb,ko,none⟩) 2 c):=hu.cell c4;have cL:Calls Tryz.prog 85 #[.pointer (some ⟨q,p,none⟩)] W1 fun e w'=>e = .returned (.int .i64 3)∧w'=W1:=wJ (opN 3,fr2 a b) W W1 _ hv u1
 have HL:=Lib.hid cL;rw[zYj ia ib];have e1:lft (opN 3)=3:=rfl;have e2:lvl (opN 3)+1=4:=rfl;have e3:sgB 3=⟨#[32,42,32]⟩:=rfl;rw[e1,e2,e3];have ya:=xW (nb:=qE) (t:=a) 3 za;have yb:=xW (nb:=qE) (t:=b) 4 zb;obtain⟨sa,hsa⟩:∃s,atX qE a 3=s:=⟨_,rfl⟩;obtain⟨sb,hsb⟩:∃s,atX qE b 4=s:=⟨_,rfl⟩;have Ca:Hid (∀u:Upw W1,Calls Tryz.prog 84 #[va,.int .i64 3] u.w fun e w'=>e = .returned (.string sa)∧Up W1 w'):=Lib.hid fun u=>by rw[←hsa];exact xX ha (Nat.le_trans za (by omega)) 3 W1 u.w va (HasT.up (o:=some a) ja u1) u.h
 have Cb:Hid (∀u:Upw W1,Calls Tryz.prog 84 #[vb,.int .i64 4] u.w fun e w'=>e = .returned (.string sb)∧Up W1 w'):=Lib.hid fun u=>by rw[←hsb];exact xX hb (Nat.le_trans zb (by omega)) 4 W1 u.w vb (HasT.up (o:=some b) jb u1) u.h
 rw[hsa] at ya ⊢;rw[hsb] at yb ⊢;obtain⟨qa,pa,rfl⟩:=InT.ptr ja;obtain⟨qb,pb,rfl⟩:=InT.ptr jb;have k1u:∀u:Upw W1,u.w.cell? ⟨q,p+1,none⟩=some (.int .i64 3):=Upw.cell (u1.cell c1);have kau:∀u:Upw W1,u.w.cell? ⟨kb,ko,none⟩=some (.pointer (some ⟨qa,pa,none⟩)):=Upw.cell (u1.cell ma);have kbu:∀u:Upw W1,u.w.cell? ⟨kb,ko+1,none⟩=some (.pointer (some ⟨qb,pb,none⟩)):=Upw.cell (u1.cell mb);have ksu:∀u:Upw W1,u.w.cell? ⟨w.heap.size,3,none⟩=some (.string ⟨#[32,42,32]⟩):=by rw[←hW1];exact gP rfl
 have HW1:=Lib.hid hW1;clear c0 c1 c2 c3 c4 hc hkid hv hq hkb hu ja jb ma mb hsa hsb ha hb ia ib za zb e1 e2 e3 u1 cL hW1
 go_enter Tryz.func39,Tryz.ntmps39
 go_wp2_with fail;rw[HW1.out];refine HL.out.mono ?_;rintro e w2 ⟨rfl,rfl⟩;go_wp2_with fail;refine qF (W:=w2) (Up.refl _) (by kernel_rfl) (by kernel_rfl) ?_
 repeat (go_big_quiet_step (first
  | (go_at_call 84;first | with_reducible exact Calls.upw (Ca.out _) | with_reducible exact Calls.upw (Cb.out _))
  ))
 refine wpQuiet_nil ?_;rintro _ ⟨⟨w9,u9⟩,rfl⟩;go_wp2_with fail
 go_ret
 exact zD rfl (UW.out.trans u9)
theorem yYn (a b:Tr) (ha:zG a) (ia:isT B.nck B.long a 2=true) (za:(txE qE a).size≤100000000) (hb:zG b) (ib:isT B.nck B.long b 2=true) (zb:(txE qE b).size≤100000000):zG (opN 4,fr2 a b):=fun W w v hv hu=>by
 have HV:=Lib.hid hv;obtain⟨q,p,A,c,rfl,hq,c0,c1,c2,c3,c4,hc,hkid⟩:=InT.open hv;obtain⟨kb,ko,rfl,hkb,⟨va,ma,ja⟩,⟨vb,mb,jb⟩,-⟩:=hkid (by show 0<2;omega);obtain⟨W1,hW1⟩:∃W1,w.alloc (.cells #[.string ⟨#[]⟩,.string ⟨#[32,43,32]⟩,.string ⟨#[32,45,32]⟩,.string ⟨#[32,42,32]⟩,.string ⟨#[32,61,32]⟩,.string ⟨#[32,60,32]⟩] 9)=W1:=⟨_,rfl⟩;have u1:Up W W1:=by rw[←hW1];exact hu.alloc _
 have UW:Hid (Up W W1):=Lib.hid u1;have k0:w.cell? ⟨q,p,none⟩=some (.int .i64 31):=hu.cell c0;have k4:w.cell? ⟨q,p+4,none⟩=some (.slice (some ⟨kb,ko,none⟩) 2 c):=hu.cell c4;have cL:Calls Tryz.prog 85 #[.pointer (some ⟨q,p,none⟩)] W1 fun e w'=>e = .returned (.int .i64 1)∧w'=W1:=wJ (opN 4,fr2 a b) W W1 _ hv u1
 have HL:=Lib.hid cL;rw[zYj ia ib];have e1:lft (opN 4)=2:=rfl;have e2:lvl (opN 4)+1=2:=rfl;have e3:sgB 4=⟨#[32,61,32]⟩:=rfl;rw[e1,e2,e3];have ya:=xW (nb:=qE) (t:=a) 2 za;have yb:=xW (nb:=qE) (t:=b) 2 zb;obtain⟨sa,hsa⟩:∃s,atX qE a 2=s:=⟨_,rfl⟩;obtain⟨sb,hsb⟩:∃s,atX qE b 2=s:=⟨_,rfl⟩;have Ca:Hid (∀u:Upw W1,Calls Tryz.prog 84 #[va,.int .i64 2] u.w fun e w'=>e = .returned (.string sa)∧Up W1 w'):=Lib.hid fun u=>by rw[←hsa];exact xX ha (Nat.le_trans za (by omega)) 2 W1 u.w va (HasT.up (o:=some a) ja u1) u.h
 have Cb:Hid (∀u:Upw W1,Calls Tryz.prog 84 #[vb,.int .i64 2] u.w fun e w'=>e = .returned (.string sb)∧Up W1 w'):=Lib.hid fun u=>by rw[←hsb];exact xX hb (Nat.le_trans zb (by omega)) 2 W1 u.w vb (HasT.up (o:=some b) jb u1) u.h
 rw[hsa] at ya ⊢;rw[hsb] at yb ⊢;obtain⟨qa,pa,rfl⟩:=InT.ptr ja;obtain⟨qb,pb,rfl⟩:=InT.ptr jb;have k1u:∀u:Upw W1,u.w.cell? ⟨q,p+1,none⟩=some (.int .i64 4):=Upw.cell (u1.cell c1);have kau:∀u:Upw W1,u.w.cell? ⟨kb,ko,none⟩=some (.pointer (some ⟨qa,pa,none⟩)):=Upw.cell (u1.cell ma);have kbu:∀u:Upw W1,u.w.cell? ⟨kb,ko+1,none⟩=some (.pointer (some ⟨qb,pb,none⟩)):=Upw.cell (u1.cell mb);have ksu:∀u:Upw W1,u.w.cell? ⟨w.heap.size,4,none⟩=some (.string ⟨#[32,61,32]⟩):=by rw[←hW1];exact gP rfl
 have HW1:=Lib.hid hW1;clear c0 c1 c2 c3 c4 hc hkid hv hq hkb hu ja jb ma mb hsa hsb ha hb ia ib za zb e1 e2 e3 u1 cL hW1
 go_enter Tryz.func39,Tryz.ntmps39
 go_wp2_with fail;rw[HW1.out];refine HL.out.mono ?_;rintro e w2 ⟨rfl,rfl⟩;go_wp2_with fail;refine qF (W:=w2) (Up.refl _) (by kernel_rfl) (by kernel_rfl) ?_
 repeat (go_big_quiet_step (first
  | (go_at_call 84;first | with_reducible exact Calls.upw (Ca.out _) | with_reducible exact Calls.upw (Cb.out _))
  ))
 refine wpQuiet_nil ?_;rintro _ ⟨⟨w9,u9⟩,rfl⟩;go_wp2_with fail
 go_ret
 exact zD rfl (UW.out.trans u9)
theorem yYo (a b:Tr) (ha:zG a) (ia:isT B.nck B.long a 2=true) (za:(txE qE a).size≤100000000) (hb:zG b) (ib:isT B.nck B.long b 2=true) (zb:(txE qE b).size≤100000000):zG (opN 5,fr2 a b):=fun W w v hv hu=>by
 have HV:=Lib.hid hv;obtain⟨q,p,A,c,rfl,hq,c0,c1,c2,c3,c4,hc,hkid⟩:=InT.open hv;obtain⟨kb,ko,rfl,hkb,⟨va,ma,ja⟩,⟨vb,mb,jb⟩,-⟩:=hkid (by show 0<2;omega);obtain⟨W1,hW1⟩:∃W1,w.alloc (.cells #[.string ⟨#[]⟩,.string ⟨#[32,43,32]⟩,.string ⟨#[32,45,32]⟩,.string ⟨#[32,42,32]⟩,.string ⟨#[32,61,32]⟩,.string ⟨#[32,60,32]⟩] 9)=W1:=⟨_,rfl⟩;have u1:Up W W1:=by rw[←hW1];exact hu.alloc _
 have UW:Hid (Up W W1):=Lib.hid u1;have k0:w.cell? ⟨q,p,none⟩=some (.int .i64 31):=hu.cell c0;have k4:w.cell? ⟨q,p+4,none⟩=some (.slice (some ⟨kb,ko,none⟩) 2 c):=hu.cell c4;have cL:Calls Tryz.prog 85 #[.pointer (some ⟨q,p,none⟩)] W1 fun e w'=>e = .returned (.int .i64 1)∧w'=W1:=wJ (opN 5,fr2 a b) W W1 _ hv u1
 have HL:=Lib.hid cL;rw[zYj ia ib];have e1:lft (opN 5)=2:=rfl;have e2:lvl (opN 5)+1=2:=rfl;have e3:sgB 5=⟨#[32,60,32]⟩:=rfl;rw[e1,e2,e3];have ya:=xW (nb:=qE) (t:=a) 2 za;have yb:=xW (nb:=qE) (t:=b) 2 zb;obtain⟨sa,hsa⟩:∃s,atX qE a 2=s:=⟨_,rfl⟩;obtain⟨sb,hsb⟩:∃s,atX qE b 2=s:=⟨_,rfl⟩;have Ca:Hid (∀u:Upw W1,Calls Tryz.prog 84 #[va,.int .i64 2] u.w fun e w'=>e = .returned (.string sa)∧Up W1 w'):=Lib.hid fun u=>by rw[←hsa];exact xX ha (Nat.le_trans za (by omega)) 2 W1 u.w va (HasT.up (o:=some a) ja u1) u.h
 have Cb:Hid (∀u:Upw W1,Calls Tryz.prog 84 #[vb,.int .i64 2] u.w fun e w'=>e = .returned (.string sb)∧Up W1 w'):=Lib.hid fun u=>by rw[←hsb];exact xX hb (Nat.le_trans zb (by omega)) 2 W1 u.w vb (HasT.up (o:=some b) jb u1) u.h
 rw[hsa] at ya ⊢;rw[hsb] at yb ⊢;obtain⟨qa,pa,rfl⟩:=InT.ptr ja;obtain⟨qb,pb,rfl⟩:=InT.ptr jb;have k1u:∀u:Upw W1,u.w.cell? ⟨q,p+1,none⟩=some (.int .i64 5):=Upw.cell (u1.cell c1);have kau:∀u:Upw W1,u.w.cell? ⟨kb,ko,none⟩=some (.pointer (some ⟨qa,pa,none⟩)):=Upw.cell (u1.cell ma);have kbu:∀u:Upw W1,u.w.cell? ⟨kb,ko+1,none⟩=some (.pointer (some ⟨qb,pb,none⟩)):=Upw.cell (u1.cell mb);have ksu:∀u:Upw W1,u.w.cell? ⟨w.heap.size,5,none⟩=some (.string ⟨#[32,60,32]⟩):=by rw[←hW1];exact gP rfl
 have HW1:=Lib.hid hW1;clear c0 c1 c2 c3 c4 hc hkid hv hq hkb hu ja jb ma mb hsa hsb ha hb ia ib za zb e1 e2 e3 u1 cL hW1
 go_enter Tryz.func39,Tryz.ntmps39
 go_wp2_with fail;rw[HW1.out];refine HL.out.mono ?_;rintro e w2 ⟨rfl,rfl⟩;go_wp2_with fail;refine qF (W:=w2) (Up.refl _) (by kernel_rfl) (by kernel_rfl) ?_
 repeat (go_big_quiet_step (first
  | (go_at_call 84;first | with_reducible exact Calls.upw (Ca.out _) | with_reducible exact Calls.upw (Cb.out _))
  ))
 refine wpQuiet_nil ?_;rintro _ ⟨⟨w9,u9⟩,rfl⟩;go_wp2_with fail
 go_ret
 exact zD rfl (UW.out.trans u9)
theorem zC4 (a:Tr) (k:Fr) (ha:zG a) (ia:isT B.nck B.long a 2=true) (za:(txE qE a).size≤100000000) (h0:0<k.len) (hl:k.len≤100000) (hk:ArmOk B.nck B.long k) (hsz:1290*k.sz≤100000000) (hT:∀(j:Nat) c x b,k.get j=some (⟨34,0,c,x⟩,fr1 b)→zG b):zG (nd 32 nob (.cons a.1 a.2 k)):=fun W w v hv hu=>by
 obtain⟨q,p,A,c,rfl,hq,c0,c1,c2,c3,c4,hc,hkid⟩:=InT.open hv;obtain⟨kb,ko,rfl,hkb,⟨va,ma,ja⟩,hf⟩:=hkid (Nat.succ_pos _);have zk:=zP1 (nb:=qE) oO lD wU hk;have k0:w.cell? ⟨q,p,none⟩=some (.int .i64 32):=hu.cell c0;have k4:w.cell? ⟨q,p+4,none⟩=some (.slice (some ⟨kb,ko,none⟩) (k.len+1) c):=hu.cell c4;have hcc:k.len+1≤c:=hc;rw[zN3 ia h0 hk];obtain⟨sa,hsa⟩:∃s,txE qE a=s:=⟨_,rfl⟩;have Ca:Hid (∀u:Upw W,Calls Tryz.prog 39 #[va] u.w fun e w'=>e = .returned (.string sa)∧Up W w'):=Lib.hid fun u=>by rw[←hsa];exact ha W u.w va ja u.h
 rw[hsa] at za ⊢;have zK:(txA qE k++⟨#[32,101,110,100]⟩).size≤100000004:=by simp only[ByteArray.size_append];show _+4≤_;omega
 obtain⟨sk,hsk⟩:∃s,txA qE k++⟨#[32,101,110,100]⟩=s:=⟨_,rfl⟩;obtain⟨n,hn⟩:∃n,k.len=n:=⟨_,rfl⟩;have Ck:Hid (∀(u:Upw W) (cap:Nat),Calls Tryz.prog 86 #[.slice (some ⟨kb,ko+1,none⟩) n cap] u.w fun e w'=>e = .returned (.string sk)∧Up W w'):=Lib.hid fun u cap=>by
  rw[←hsk,←hn];exact rL k h0 hl hk hsz hT W u.w kb (ko+1) cap hf u.h
 rw[hsk] at zK ⊢;rw[hn] at k4 hcc h0 hl;obtain⟨qa,pa,rfl⟩:=InT.ptr ja;have kau:∀u:Upw W,u.w.cell? ⟨kb,ko,none⟩=some (.pointer (some ⟨qa,pa,none⟩)):=Upw.cell ma;have HU:=Lib.hid hu;clear c0 c1 c2 c3 c4 hc hkid hv hq hkb hu ja ma hsa ha ia hk hsz hT hf hsk hn zk
 go_enter Tryz.func39,Tryz.ntmps39
 go_wp2_with fail;refine qF (W:=W) HU.out (by kernel_rfl) (by kernel_rfl) ?_
 repeat (go_big_quiet_step (first
  | (go_at_call 39;with_reducible exact Calls.upw (Ca.out _))
  | (go_at_call 86;with_reducible exact Calls.upw (Ck.out _ _))
  ))
 refine wpQuiet_nil ?_;rintro _ ⟨⟨w9,u9⟩,rfl⟩;go_wp2_with fail
 go_ret
 exact zD rfl u9
theorem zC5 (a d:Tr) (k:Fr) (ha:zG a) (ia:isT B.nck B.long a 2=true) (za:(txE qE a).size≤100000000) (hd:TxtAt d) (id:isT B.nck B.long d 1=true) (zd:(tB (tkT d)).size≤100000000) (h0:0<k.len) (hl:k.len≤100000) (hk:ArmOk B.nck B.long k) (hsz:1290*k.sz≤100000000) (hT:∀(j:Nat) c x b,k.get j=some (⟨34,0,c,x⟩,fr1 b)→zG b):zG (nd 33 nob (.cons a.1 a.2 (.cons d.1 d.2 k))):=fun W w v hv hu=>by
 obtain⟨q,p,A,c,rfl,hq,c0,c1,c2,c3,c4,hc,hkid⟩:=InT.open hv;obtain⟨kb,ko,rfl,hkb,⟨va,ma,ja⟩,⟨vd,md,jd⟩,hf⟩:=hkid (Nat.succ_pos _);have zk:=zP1 (nb:=qE) oO lD wU hk;have k0:w.cell? ⟨q,p,none⟩=some (.int .i64 33):=hu.cell c0;have k4:w.cell? ⟨q,p+4,none⟩=some (.slice (some ⟨kb,ko,none⟩) (k.len+2) c):=hu.cell c4;have hcc:k.len+2≤c:=hc;rw[zN4 ia id h0 hk];obtain⟨sa,hsa⟩:∃s,txE qE a=s:=⟨_,rfl⟩;have Ca:Hid (∀u:Upw W,Calls Tryz.prog 39 #[va] u.w fun e w'=>e = .returned (.string sa)∧Up W w'):=Lib.hid fun u=>by rw[←hsa];exact ha W u.w va ja u.h
 rw[hsa] at za ⊢;obtain⟨sd,hsd⟩:∃s,tB (tkT d)=s:=⟨_,rfl⟩;have Cd:Hid (∀u:Upw W,Calls Tryz.prog 83 #[vd] u.w fun e w'=>e = .returned (.string sd)∧Up W w'):=Lib.hid fun u=>by rw[←hsd];exact hd W u.w vd jd u.h
 rw[hsd] at zd ⊢;have zK:(txA qE k++⟨#[32,101,110,100]⟩).size≤100000004:=by simp only[ByteArray.size_append];show _+4≤_;omega
 obtain⟨sk,hsk⟩:∃s,txA qE k++⟨#[32,101,110,100]⟩=s:=⟨_,rfl⟩;obtain⟨n,hn⟩:∃n,k.len=n:=⟨_,rfl⟩;have Ck:Hid (∀(u:Upw W) (cap:Nat),Calls Tryz.prog 86 #[.slice (some ⟨kb,ko+2,none⟩) n cap] u.w fun e w'=>e = .returned (.string sk)∧Up W w'):=Lib.hid fun u cap=>by
  rw[←hsk,←hn];exact rL k h0 hl hk hsz hT W u.w kb (ko+1+1) cap hf u.h
 rw[hsk] at zK ⊢;rw[hn] at k4 hcc h0 hl;obtain⟨qa,pa,rfl⟩:=InT.ptr ja;obtain⟨qd,pd,rfl⟩:=InT.ptr jd;have kau:∀u:Upw W,u.w.cell? ⟨kb,ko,none⟩=some (.pointer (some ⟨qa,pa,none⟩)):=Upw.cell ma;have kdu:∀u:Upw W,u.w.cell? ⟨kb,ko+1,none⟩=some (.pointer (some ⟨qd,pd,none⟩)):=Upw.cell md;have HU:=Lib.hid hu;clear c0 c1 c2 c3 c4 hc hkid hv hq hkb hu ja ma hsa ha ia hk hsz hT hf hsk hn zk jd md hsd hd id
 go_enter Tryz.func39,Tryz.ntmps39
 go_wp2_with fail;refine qF (W:=W) HU.out (by kernel_rfl) (by kernel_rfl) ?_
 repeat (go_big_quiet_step (first
  | (go_at_call 39;with_reducible exact Calls.upw (Ca.out _))
  | (go_at_call 83;with_reducible exact Calls.upw (Cd.out _))
  | (go_at_call 86;with_reducible exact Calls.upw (Ck.out _ _))
  ))
 refine wpQuiet_nil ?_;rintro _ ⟨⟨w9,u9⟩,rfl⟩;go_wp2_with fail
 go_ret
 exact zD rfl u9
def muB (s:ByteArray) (ts:List Tk):ByteArray:=if ts=[] then ⟨#[109,117,32]⟩++s++⟨#[32,123,32]⟩ else ⟨#[109,117,32]⟩++s++⟨#[32,123,32]⟩++tB ts
theorem zC6 {s:ByteArray} {ts:List Tk} (h:ts≠[]) (x:ByteArray) {us:List Tk} (hu:us≠[]):muB s (ts++ky kBar::(nmT x::ky kOf::us))=muB s ts++⟨#[32,124,32]⟩++x++⟨#[32,111,102,32]⟩++tB us:=by
 unfold muB;rw[if_neg h,if_neg (by simp)];have e1:ts++ky kBar::(nmT x::ky kOf::us)=ts++([ky kBar]++([nmT x]++([ky kOf]++us))):=rfl;rw[e1,xS h (by simp),xS (by simp) (by simp),xS (by simp) (by simp),xS (by simp) hu,vB,vB,vB];refine zP _ _ ?_;simp only[qM,List.append_assoc]
 rfl
theorem zJe (s x:ByteArray) {us:List Tk} (hu:us≠[]):muB s (nmT x::ky kOf::us)=muB s []++x++⟨#[32,111,102,32]⟩++tB us:=by
 unfold muB;rw[if_neg (by simp),if_pos rfl];have e1:nmT x::ky kOf::us=[nmT x]++([ky kOf]++us):=rfl;rw[e1,xS (by simp) (by simp),xS (by simp) hu,vB,vB];refine zP _ _ ?_;simp only[qM,List.append_assoc]
 rfl
theorem yYp {s:ByteArray} {ts:List Tk} (h:ts≠[]):muB s ts++⟨#[32,125]⟩=tB (ky kMu::nmT s::ky kLeft::(ts++[ky zY])):=by
 unfold muB;rw[if_neg h];have e1:ky kMu::nmT s::ky kLeft::(ts++[ky zY])=[ky kMu]++([nmT s]++([ky kLeft]++(ts++[ky zY]))):=rfl;rw[e1,xS (by simp) (by simp),xS (by simp) (by simp),xS (by simp) (by simp[h]),xS h (by simp),vB,vB,vB,vB];refine zP _ _ ?_;simp only[qM,List.append_assoc]
 rfl
theorem yYq (s:ByteArray) (f:Fr) (h0:0<f.len) (hl:f.len≤100000) (hc:∀(j:Nat) t,f.get j=some t→∃s u,t=nd 8 s (fr1 u)∧TxtAt u∧tkT u≠[]) (hz:(tB (tkT (nd 7 s f))).size≤100000000) (hm:∀j,j≤f.len→(muB s (bars ((segF f).take j))).size≤100000000):TxtAt (nd 7 s f):=fun W w v hv hu=>by
 obtain⟨q,p,A,c,rfl,hq,c0,c1,c2,c3,c4,hcc,hkid⟩:=InT.open hv;obtain⟨kb,ko,rfl,hkb,hf⟩:=hkid h0;have hqw:q<w.heap.size:=Nat.lt_of_lt_of_le hq hu.size;have c4:W.cell? ⟨q,p+4,none⟩=some (.slice (some ⟨kb,ko,none⟩) f.len c):=c4;have c2:W.cell? ⟨q,p+2,none⟩=some (.string s):=c2;have c0:W.cell? ⟨q,p,none⟩=some (.int .i64 7):=c0;have e7:tkT (nd 7 s f)=ky kMu::nmT s::ky kLeft::(bars (segF f)++[ky zY]):=lS s f;have HM:=Lib.hid hm;have HC:=Lib.hid hc;have HF:=Lib.hid hf;have HK0:=Lib.hid c0;have HK2:=Lib.hid c2;have HK4:=Lib.hid c4;have HU:=Lib.hid hu;have HE7:=Lib.hid e7;have HHZ:=Lib.hid hz;obtain⟨n,hn⟩:∃n,f.len=n:=⟨_,rfl⟩;have HN:=Lib.hid hn;rw[hn] at h0 hl;obtain⟨Z,hZ⟩:∃Z,tB (tkT (nd 7 s f))=Z:=⟨_,rfl⟩;rw[hZ];have HZ:=Lib.hid hZ;have k0:w.cell? ⟨q,p,none⟩=some (.int .i64 7):=hu.cell c0;have k2:w.cell? ⟨q,p+2,none⟩=some (.string s):=hu.cell c2;have hs0:(⟨#[109,117,32]⟩++s++⟨#[32,123,32]⟩:ByteArray)=muB s []:=(if_pos rfl).symm;have hsz:s.size≤100000000:=by
  have h:=hm 0 (Nat.zero_le _);rw[show bars ((segF f).take 0)=[] from rfl,←hs0] at h;simp only[ByteArray.size_append] at h;omega
 have HS0:=Lib.hid hs0;clear c0 c1 c2 c3 c4 hkid hv hf hc hu hn hZ hm hz e7 hs0
 go_enter Tryz.func83,Tryz.ntmps83
 go_wp2_with fail;obtain⟨W0,hW0⟩:∃W0,w.alloc (.cells #[.string ⟨#[]⟩,.string kInt,.string kBool,.string kUnit] 9)=W0:=⟨_,rfl⟩;have uA:Up W W0:=by rw[←hW0];exact HU.out.alloc _
 have UA:=Lib.hid uA
 first
  | rw[hW0]
  | (rw[show w.alloc (.cells #[.string ⟨#[]⟩,.string ⟨#[105,110,116]⟩,.string ⟨#[98,111,111,108]⟩,.string ⟨#[117,110,105,116]⟩] 9)=W0 from hW0])
 first
  | rw[HS0.out]
  | skip
 clear uA hW0 k0 k2
 go_loopw [6,7] (fun x y wr=>∃j:Nat,j≤n∧y = .int .i64 (j:Int)∧x = .string (muB s (bars ((segF f).take j)))∧Up W wr) (fun _ y _=>n+1-(intOf y).toNat)
 case atStart=>exact⟨0,Nat.zero_le _,rfl,by first | rfl | (rw[←HS0.out];rfl) | (show Value.string _=Value.string (muB s []);rw[←HS0.out]),UA.out⟩
 case round=>
  obtain⟨j,hj,rfl,rfl,hur⟩:=hrel;have HUR:=Lib.hid hur;have k4r:wr.cell? ⟨q,p+4,none⟩=some (.slice (some ⟨kb,ko,none⟩) n c):=by rw[←HN.out];exact hur.cell HK4.out
  have hqr:q<wr.heap.size:=yL k4r
  by_cases hlt:j<n
  ·have hjz:(j:Int)<(n:Int):=by omega
   have hw1:IntKind.i64.wrap ((j:Int)+1)=((j+1:Nat):Int):=by rw[IntKind.wrap_i64];omega
   obtain⟨t,ht⟩:=Fr.get_some (f:=f) (i:=j) (by rw[HN.out];exact hlt);obtain⟨xs,u,rfl,cU,hne⟩:=HC.out j t ht;obtain⟨vc,hvc,hTc⟩:=HF.out.at ht;obtain⟨q1,p1,A1,c',rfl,hq1,m0,m1,m2,m3,m4,hcc1,hkid1⟩:=InT.open hTc;obtain⟨kb2,ko2,rfl,hkb2,⟨va,ka,ia⟩,-⟩:=hkid1 (by show 0<1;omega);obtain⟨qa,pa,rfl⟩:=InT.ptr ia;have hbt:=pV ht;have hm1:=HM.out (j+1) (by rw[HN.out];omega);have hm0:=HM.out j (by rw[HN.out];omega);have k4u:∀u:Upw W,u.w.cell? ⟨q,p+4,none⟩=some (.slice (some ⟨kb,ko,none⟩) n c):=Upw.cell (by rw[←HN.out];exact HK4.out);have kcu:∀u:Upw W,u.w.cell? ⟨kb,ko+j,none⟩=some (.pointer (some ⟨q1,p1,none⟩)):=Upw.cell hvc;have knu:∀u:Upw W,u.w.cell? ⟨q1,p1+2,none⟩=some (.string xs):=Upw.cell m2;have kku:∀u:Upw W,u.w.cell? ⟨q1,p1+4,none⟩=some (.slice (some ⟨kb2,ko2,none⟩) 1 c'):=Upw.cell m4;have kau:∀u:Upw W,u.w.cell? ⟨kb2,ko2,none⟩=some (.pointer (some ⟨qa,pa,none⟩)):=Upw.cell ka;obtain⟨T,hT⟩:∃T,tB (tkT u)=T:=⟨_,rfl⟩;have cT:∀x:Upw W,Calls Tryz.prog 83 #[.pointer (some ⟨qa,pa,none⟩)] x.w fun e w'=>e = .returned (.string T)∧Up W w':=fun x=>by rw[←hT];exact cU W x.w _ ia x.h
   have HT:=Lib.hid cT;obtain⟨X,hX⟩:∃X,muB s (bars ((segF f).take j))=X:=⟨_,rfl⟩;obtain⟨Y,hY⟩:∃Y,muB s (bars ((segF f).take (j+1)))=Y:=⟨_,rfl⟩;rw[hX] at hm0 ⊢;have hYX:Y=(if j=0 then X else X++⟨#[32,124,32]⟩)++xs++⟨#[32,111,102,32]⟩++T:=by
    rw[←hY,←hX,hbt,←hT,fP]
    by_cases hj0:j=0
    ·subst hj0
     rw[if_pos rfl,if_pos rfl];exact zJe s xs hne
    ·rw[if_neg hj0,if_neg hj0]
     refine zC6 ?_ xs hne;intro h0;have e:=gL (segF f) j;have hne2:bars ((segF f).take j)≠[]:=by
      obtain⟨j',rfl⟩:∃j',j=j'+1:=⟨j-1,by omega⟩;obtain⟨t',ht'⟩:=Fr.get_some (f:=f) (i:=j') (by rw[HN.out];omega);obtain⟨s',u',rfl,_,_⟩:=HC.out j' t' ht';rw[pV ht',fP]
      split<;>simp
     exact hne2 h0
   rw[hY,hYX] at hm1;have hsz2:xs.size≤100000000∧T.size≤100000000:=by simp only[ByteArray.size_append] at hm1;omega
   obtain⟨hxs,hTs⟩:=hsz2;have HYX:=Lib.hid hYX;have HY:=Lib.hid hY;clear ht cU hne hvc hTc m0 m1 m2 m3 m4 hkid1 ka ia hbt hm1 hT cT hX hY hYX hur
   by_cases hj0:0<j
   ·have hj1:(0:Int)<(j:Int):=by omega
    go_wp2_with fail;refine qF (W:=W) HUR.out (by kernel_rfl) (by kernel_rfl) ?_
    repeat (go_big_quiet_step (first
     | (go_at_call 83;exact Calls.upw (HT.out _))))
    refine wpQuiet_nil ?_;rintro w9 ⟨⟨_,u9⟩,rfl⟩;have U9:=Lib.hid u9;clear u9;go_wp2_with fail
    go_roundw
    case rel=>exact⟨j+1,by omega,rfl,by rw[HY.out,HYX.out,if_neg (by omega)],U9.out⟩
    case measure=>simp[intOf];omega
   ·obtain rfl:j=0:=by omega
    have kcu:∀u:Upw W,u.w.cell? ⟨kb,ko,none⟩=some (.pointer (some ⟨q1,p1,none⟩)):=kcu;go_wp2_with fail;refine qF (W:=W) HUR.out (by kernel_rfl) (by kernel_rfl) ?_
    repeat (go_big_quiet_step (first
     | (go_at_call 83;exact Calls.upw (HT.out _))))
    refine wpQuiet_nil ?_;rintro w9 ⟨⟨_,u9⟩,rfl⟩;have U9:=Lib.hid u9;clear u9;go_wp2_with fail
    go_roundw
    case rel=>exact⟨1,by omega,rfl,by rw[HY.out,HYX.out,if_pos trivial],U9.out⟩
    case measure=>first | (simp[intOf];omega) | simp[intOf]
  ·obtain rfl:j=n:=by omega
   have hjz:¬(j:Int)<(j:Int):=by omega
   have hend:bars ((segF f).take j)=bars (segF f):=by rw[List.take_of_length_le (by rw[lZ,HN.out];omega)]
   have hm0:=HM.out j (by rw[HN.out];omega);have hnz:bars (segF f)≠[]:=by
    obtain⟨j',rfl⟩:∃j',j=j'+1:=⟨j-1,by omega⟩;obtain⟨t',ht'⟩:=Fr.get_some (f:=f) (i:=j') (by rw[HN.out];omega);obtain⟨s',u',rfl,_,_⟩:=HC.out j' t' ht';rw[←hend,pV ht',fP]
    split<;>simp
   have hfin:muB s (bars ((segF f).take j))++⟨#[32,125]⟩=Z:=by rw[hend,yYp hnz,←HE7.out,HZ.out]
   obtain⟨X,hX⟩:∃X,muB s (bars ((segF f).take j))=X:=⟨_,rfl⟩;rw[hX] at hfin hm0 ⊢;have HFI:=Lib.hid hfin;clear hend hnz hfin hX hur;go_wp2_with fail
   go_ret
   exact zD HFI.out.symm HUR.out
theorem zC7 {cs:List Cel} {M:Nat} (hM:∀(j:Nat) (c:Cel),cs[j]? = some c→c.ks.length≤M):∀i,i≤cs.length→(zJ (cs.take i)).length≤i*M
 | 0,_=>by simp[zJ]
 | i+1,h=>by
  rw[xG (jO (by omega)),List.length_append,Nat.succ_mul];have h1:=zC7 hM i (by omega);have h2:=hM i _ (jO (by omega));omega
theorem yYr (cs:List Cel) (w:World) (cv:Value) (hcl:Cls w w.heap.size cv cs) (hkl:∀(j:Nat) (c:Cel),cs[j]? = some c→c.ks.length≤1000000) (hlen:cs.length≤1000000000) :
  Calls Tryz.prog 15 #[.agg #[cv]] w (sU No (opR cs).1 (opR cs).2 w):=by
 have HCL:=Lib.hid hcl;have HKL:=Lib.hid hkl;obtain⟨A,c,rfl,hc,hcell⟩:=hcl;have HCELL:=Lib.hid hcell;obtain⟨N,hN⟩:∃N,cs.length=N:=⟨_,rfl⟩;have hN0:=zQm (cs:=cs);have hN1:=zNe (cs:=cs);have hbad:=zQn (cs:=cs);have hgood:=zWv (cs:=cs);have hgrow:=zM2 N cs;obtain⟨R,hR⟩:∃R,opR cs=R:=⟨_,rfl⟩;rw[hR] at hN0 hN1 hbad hgood ⊢;rw[hN] at hN0 hN1 hbad hgood hgrow hc hlen ⊢;have HNN:=Lib.hid hN;have HBAD:=Lib.hid hbad;have HGOOD:=Lib.hid hgood;have HGROW:=Lib.hid hgrow;obtain⟨CV,hCV⟩:∃CV,Value.slice A N c=CV:=⟨_,rfl⟩;have HCV:=Lib.hid hCV;rw[hN,hCV] at HCL;clear hcell hkl hR hbad hgood hgrow hN hCV
 by_cases h0:N=0
 ·have HU:=Lib.hid (hN0 h0)
  have hz:((N:Int)==0)=true:=by rw[beq_iff_eq];omega
  have hb:=(Below.refl w.heap.size w).alloc (Nat.le_refl _) (.cells #[.slice A N c] 38);clear hN0 hN1 h0
  go_enter Tryz.func15,Tryz.ntmps15
  go_wp2_with fail
  go_ret2
  exact fQ HU.out rfl hb
 ·have hz:((N:Int)==0)=false:=by rw[beq_eq_false_iff_ne];omega
  by_cases h1:8192<N
  ·have HU:=Lib.hid (hN1 h1)
   have hz1:(8192:Int)<(N:Int):=by omega
   have hb:=(Below.refl w.heap.size w).alloc (Nat.le_refl _) (.cells #[.slice A N c] 38);clear hN0 hN1
   go_enter Tryz.func15,Tryz.ntmps15
   go_wp2_with fail
   go_ret2
   exact fQ HU.out rfl hb
  ·have hz1:¬(8192:Int)<(N:Int):=by omega
   have hmk:=@run_make_row' Tryz.prog 76 3 (.int .i64 0) 8 Tryz.underlying76 zNd rfl .i64 .i64 N (by omega) (by omega);have H0:=Lib.hid h0;have H1:=Lib.hid h1;clear hN0 hN1 h0
   go_enter Tryz.func15,Tryz.ntmps15
   go_wp2_with fail;obtain⟨H,hH⟩:∃H,w.heap.size=H:=⟨_,rfl⟩;have hb1:Below H w ((w.alloc (.cells #[.slice A N c] 38)).alloc (.cells (madeCells #[.int .i64 0] N) 3)):=((Below.refl H w).alloc (by omega) _).alloc (by simp;omega) _;have hsz1:(w.alloc (.cells #[.slice A N c] 38)).heap.size=H+1:=by simp;omega
   have hrow1:((w.alloc (.cells #[.slice A N c] 38)).alloc (.cells (madeCells #[.int .i64 0] N) 3)).rowIs (H+1) 3 N (fun _=>.int .i64 0):=by rw[←hsz1];exact World.rowIs_made _ _ _ _
   have hbox1:((w.alloc (.cells #[.slice A N c] 38)).alloc (.cells (madeCells #[.int .i64 0] N) 3)).cell? ⟨H,0,none⟩=some (.slice A N c):=by
    refine cell_of_row _ H 0 #[.slice A N c] 38 (0,0) ?_;rw[Below.heap_alloc _ _ _ (by omega),←hH];exact heap_alloc_new w _
   rw[hH]
   generalize ((w.alloc (.cells #[.slice A N c] 38)).alloc (.cells (madeCells #[.int .i64 0] N) 3))=W1 at hb1 hrow1 hbox1 ⊢
   have HB1:=Lib.hid hb1;have HBOX1:=Lib.hid hbox1;have HROW1:=Lib.hid hrow1;have HH:=Lib.hid hH;clear hb1 hsz1 hrow1 hbox1 hmk hH
   go_loopw [6,7,8] (fun i _ _ wr=>∃I:Nat,I≤N∧i = .int .i64 I∧(∀(i':Nat) (c:Cel),i'<I→cs[i']? = some c→∀x∈c.ks,0≤x∧x<(i':Int))∧wr.rowIs (H+1) 3 N (fun j=>.int .i64 (((zJ (cs.take I)).count (j:Int):Nat):Int))∧Below (H+1) W1 wr) (fun i _ _ _=>N-(intOf i).toNat)
   case atStart=>exact⟨0,Nat.zero_le _,rfl,fun i' c h=>absurd h (Nat.not_lt_zero _),HROW1.out.congr fun _ _=>by simp[zJ],Below.refl _ _⟩
   case round=>
    rename World=>wa
    obtain⟨I,hI,rfl,hok,hrow,hbw⟩:=hrel;have hbox:=(hbw.cell (p:=⟨H,0,none⟩) (by simp only;omega)).trans HBOX1.out;have hbww:Below H w wa:=HB1.out.trans (hbw.mono (by omega));have HOK:=Lib.hid hok;have HROW:=Lib.hid hrow;have HBW:=Lib.hid hbw;have HBWW:=Lib.hid hbww;clear hok hrow hbw hbww
    by_cases hlt:I<N
    ·have hIz:(I:Int)<(N:Int):=by omega
     have hci:=jO (cs:=cs) (i:=I) (by rw[HNN.out];exact hlt);obtain⟨b,o,hA,hbb,g0,g1,g2,g3,kv,g4,hkv⟩:=HCELL.out I _ hci;subst hA;obtain⟨KA,kc,rfl,hkc,hkcl⟩:=hkv;have hml:=HKL.out I _ hci;obtain⟨M,hM⟩:∃M,(cel cs I).ks.length=M:=⟨_,rfl⟩;rw[hM] at hkc g4 hml;have HMM:=Lib.hid hM;have HCI:=Lib.hid hci;have HKC:=Lib.hid hkcl;have HG4:=Lib.hid g4;have hbH:b<H:=by rw[←HH.out];exact hbb
     clear hci hkcl hM g0 g1 g2 g3 g4;go_wp2_with fail
     go_loopw [7,8] (fun k _ w2=>∃K:Nat,K≤M∧k = .int .i64 K∧(∀(j:Nat) (x:Int),j<K→(cel cs I).ks[j]? = some x→0≤x∧x<(I:Int))∧w2.rowIs (H+1) 3 N (fun j=>.int .i64 ((cnK cs I K j:Nat):Int))∧Below (H+1) wa w2) (fun k _ _=>M-(intOf k).toNat)
     case atStart=>exact⟨0,Nat.zero_le _,rfl,fun j x h=>absurd h (Nat.not_lt_zero _),HROW.out.congr fun _ _=>by rw[uU],Below.refl _ _⟩
     case round=>
      obtain⟨K,hK,rfl,hkok,hrow2,hbw2⟩:=hrel;have hbox2:=(hbw2.cell (p:=⟨H,0,none⟩) (by simp only;omega)).trans hbox;have hb2w:Below H w wr:=HBWW.out.trans (hbw2.mono (by omega));have g42:wr.cell? ⟨b,o+I*5+4,none⟩=some (.slice KA M kc):=(hb2w.cell (p:=⟨b,o+I*5+4,none⟩) hbH).trans HG4.out;have HKOK:=Lib.hid hkok;have HROW2:=Lib.hid hrow2;have HBW2:=Lib.hid hbw2;have HB2W:=Lib.hid hb2w;clear hkok hrow2 hbw2 hb2w hbox
      by_cases hlt2:K<M
      ·obtain⟨x,hx⟩:∃x,(cel cs I).ks[K]? = some x:=⟨_,List.getElem?_eq_getElem (by rw[HMM.out];exact hlt2)⟩
       obtain⟨kb,ko,hKA,hkb,hxc⟩:=HKC.out K x hx;subst hKA;have hkz:(K:Int)<(M:Int):=by omega
       have hxr:=(HB2W.out.cell (p:=⟨kb,ko+K,none⟩) (by rw[←HH.out];exact hkb)).trans hxc;have HX:=Lib.hid hx;have HBADK:Hid (¬(0≤x∧x<(I:Int))→R=(none,16)):=Lib.hid fun hn=>HBAD.out H0.out (by omega) fun h=>hn (h.1 I _ HCI.out x (List.mem_of_getElem? HX.out))
       clear hx hxc
       by_cases hneg:x<0
       ·have HU:=Lib.hid (HBADK.out (by omega))
        go_wp2_with fail
        go_ret2
        exact fQ HU.out rfl (by rw[HH.out];exact HB2W.out)
       ·obtain⟨m,rfl⟩:∃m:Nat,x=(m:Int):=⟨x.toNat,by omega⟩
        by_cases hge:I≤m
        ·have HU:=Lib.hid (HBADK.out (by omega))
         have hgez:(I:Int)≤(m:Int):=by omega
         go_wp2_with fail
         go_ret2
         exact fQ HU.out rfl (by rw[HH.out];exact HB2W.out)
        ·have hgez:¬(I:Int)≤(m:Int):=by omega
         have hmN:(m:Int)<(N:Int):=by omega
         have hcm:=HROW2.out.cell (i:=m) (by omega);have hfm:=HROW2.out.frozen m;have hcb:cnK cs I K m≤10000000000:=by
          unfold cnK;have h1:=zC7 (M:=1000000) HKL.out I (by rw[HNN.out];exact hI);have h2:(zJ (cs.take I)).count (m:Int)≤_:=List.count_le_length;have h3:((cel cs I).ks.take K).count (m:Int)≤_:=List.count_le_length;rw[List.length_take,HMM.out] at h3;have h4:I*1000000≤8192*1000000:=Nat.mul_le_mul (by omega) (Nat.le_refl _);omega
         have HNX:=Lib.hid (zS3 (cs:=cs) (i:=I) HX.out);obtain⟨cc,hcc⟩:∃cc,cnK cs I K m=cc:=⟨_,rfl⟩;rw[hcc] at hcb hcm;have HCC:=Lib.hid hcc;clear hcc;go_wp2_with fail
         go_roundw
         case rel=>
          exact⟨K+1,by omega,by go_num,fun j y hj hy=>by
           rcases Nat.lt_or_ge j K with h | h
           ·exact HKOK.out j y h hy
           ·have:j=K:=by omega
            subst this;rw[HX.out] at hy;injection hy with hy;rw[←hy]
            omega,(HROW2.out.set m (.int .i64 ((cc:Int)+1))).congr fun j _=>by
            rw[HNX.out]
            by_cases e:j=m
            ·rw[if_pos e,if_pos e,e,HCC.out];rfl
            ·rw[if_neg e,if_neg e],HBW2.out.setCell (Nat.le_refl _) _⟩
         case measure=>simp[intOf];omega
      ·have hKM:K=M:=by omega
       have hkz:¬(K:Int)<(M:Int):=by omega
       have HEND:=Lib.hid (fun j=>zNf (cs:=cs) (i:=I) (by rw[HNN.out];exact hlt) j);have HKM:=Lib.hid hKM;clear hKM;go_wp2_with fail
       go_roundw
       case rel=>
        exact⟨I+1,by omega,by go_num,fun i' c hi' hc' y hy=>by
         rcases Nat.lt_or_ge i' I with h | h
         ·exact HOK.out i' c h hc' y hy
         ·have:i'=I:=by omega
          subst this;rw[HCI.out] at hc';injection hc' with hc';rw[←hc'] at hy;obtain⟨j,hj,rfl⟩:=List.getElem_of_mem hy;exact HKOK.out j _ (by rw[HKM.out,←HMM.out];exact hj) (List.getElem?_eq_getElem hj),HROW2.out.congr fun j _=>by rw[HKM.out,←HMM.out,HEND.out],HBW.out.trans HBW2.out⟩
       case measure=>simp[intOf];omega
    ·have hIN:I=N:=by omega
     subst hIN;have hIz:¬(I:Int)<(I:Int):=by omega
     have hokK:okK cs:=fun i' c hc' y hy=>HOK.out i' c (by have:=(List.getElem?_eq_some_iff.1 hc').1;rw[HNN.out] at this;exact this) hc' y hy
     have hrowN:=HROW.out;rw[show cs.take I=cs from List.take_of_length_le (by rw[HNN.out];exact Nat.le_refl _)] at hrowN;have HROWN:=Lib.hid hrowN;have HOKK:=Lib.hid hokK;have hcgrow:Calls Tryz.prog 35 #[.agg #[.slice A I c],.int .i64 ((I-1:Nat):Int)] wa (zP0 (gr cs I (I-1)) No wa):=HGROW.out (I-1) hokK (by have:=H0.out;omega) (by omega) HKL.out (by have:=H0.out;omega) wa w.heap.size (.slice A I c) (by
      rw[HCV.out];exact HCL.out.below (by rw[HH.out];exact HBWW.out)) (by have:=HBWW.out.size;exact this)
     have hsub:((I-1:Nat):Int)=(I:Int)-1:=by have:=H0.out;omega
     rw[hsub] at hcgrow;have hI0:(I:Int)-1≤8192∧0≤(I:Int)-1:=by have:=H0.out;omega
     clear hokK hrowN hsub;go_wp2_with fail
     go_loop [9] (fun i=>∃q:Nat,(q:Int)≤(I:Int)-1∧i = .int .i64 q∧(∀j,j<q→(zJ cs).count (j:Int)=1)) (fun i=>I-(intOf i).toNat)
     case atStart=>exact⟨0,by omega,rfl,fun j hj=>absurd hj (Nat.not_lt_zero _)⟩
     case round=>
      obtain⟨q,hq,rfl,hone⟩:=hrel;have HONE:=Lib.hid hone;clear hone
      by_cases hqlt:(q:Int)<(I:Int)-1
      ·have hcq:=HROWN.out.cell (i:=q) (by omega)
       obtain⟨cc,hcc⟩:∃cc,(zJ cs).count (q:Int)=cc:=⟨_,rfl⟩;rw[hcc] at hcq;have HCC:=Lib.hid hcc;clear hcc
       by_cases h1':cc=1
       ·have e1:((cc:Int)==1)=true:=by rw[beq_iff_eq];omega
        have e2:((cc:Int) != 1)=false:=by rw[bne_eq_false_iff_eq];omega
        have HCC1:=Lib.hid h1';clear h1';go_wp2_with fail
        go_round
        case rel=>exact⟨q+1,by omega,by go_num,fun j hj=>by
         rcases Nat.lt_or_ge j q with h | h
         ·exact HONE.out j h
         ·rw[show j=q by omega,HCC.out,HCC1.out]⟩
        case measure=>simp[intOf];omega
       ·have e1:((cc:Int)==1)=false:=by rw[beq_eq_false_iff_ne];omega
        have e2:((cc:Int) != 1)=true:=by rw[bne_iff_ne];omega
        have HU:=Lib.hid (HBAD.out H0.out (by omega) fun h=>h1' (by rw[←HCC.out];exact h.2 q (by rw[HNN.out];omega)));clear h1';go_wp2_with fail
        go_ret2
        exact fQ HU.out rfl (by rw[HH.out];exact HBWW.out)
      ·have HU:=Lib.hid (HGOOD.out H0.out (by omega) ⟨HOKK.out,fun i hi=>HONE.out i (by rw[HNN.out] at hi;omega)⟩)
       have hqz:¬(q:Int)<(I:Int)-1:=hqlt;go_wp2_with fail;refine hcgrow.mono ?_;rintro e w3 ⟨v3,rfl,hv3,hb3⟩;have HV3:=Lib.hid hv3;have HB3:=Lib.hid hb3;clear hv3 hb3;go_wp2_with fail
       go_ret2
       have hsz:=HBWW.out.size;rw[HH.out] at hsz;refine fQ HU.out (InT.keep HV3.out (by
        rintro q' (h | ⟨h,h2⟩)
        ·exact h.elim
        ·exact .inr ⟨by rw[HH.out];omega,h2⟩) fun _ _=>rfl) (by rw[HH.out];exact HBWW.out.trans (HB3.out.mono (by omega)))
theorem rOpen (cs:List Cel) {W w:World} {v:Value} (h:Cls W W.heap.size v cs) (hk:∀(j:Nat) (c:Cel),cs[j]? = some c→c.ks.length≤1000000) (hl:cs.length≤1000000) (u:Up W w) :
  Calls Tryz.prog 15 #[.agg #[v]] w (TrP (opR cs).1 (opR cs).2 W):=
 (yYr cs w v (h.upp u) hk (by omega)).mono fun _ _ k=>sU.trp (zFy _) u k
theorem zSq:∀(l:List (List Tk)) (j:Nat) (x:Tk),x∈bars (l.take j)→x∈bars l
 | [],j,x,h=>by simpa using h
 | [a],0,x,h=>by cases h
 | [a],j+1,x,h=>by simpa using h
 | a::b::r,0,x,h=>by cases h
 | a::b::r,1,x,h=>by
  have h:x∈a:=h
  show x∈a++ky kBar::bars (b::r)
  exact List.mem_append_left _ h
 | a::b::r,j+2,x,h=>by
  have h:x∈a++ky kBar::bars ((b::r).take (j+1)):=h
  show x∈a++ky kBar::bars (b::r)
  rcases List.mem_append.1 h with h | h
  ·exact List.mem_append_left _ h
  ·refine List.mem_append_right _ ?_
   rcases List.mem_cons.1 h with h | h
   ·exact h▸List.mem_cons_self ..
   ·exact List.mem_cons_of_mem _ (zSq (b::r) (j+1) x h)
theorem zSr:∀(n:Nat) (t:Tr),szT t≤n→n≤8192→isT B.nck B.long t 1=true→TxtAt t
 | 0,t,h,_,_=>absurd h (by unfold szT;omega)
 | n+1,t,h,hn,ht=>by
  have ih:=zSr n;have hz:=lU fS mM ht;have hf:=lT fS mM _ t (Nat.le_refl _) ht
  cases wC ht with
  | leaf k hk=>exact zJc k hk
  | name s hs=>exact zJd s
  | two k hk a b hA hB=>
   have hzz:szT (nd k nob (fr2 a b))=1+(szT a+szT b):=by unfold szT;simp only[nd,fr2,fr1,Fr.sz];omega
   have za:=lU fS mM hA;have zb:=lU fS mM hB
   rcases hk with rfl | rfl
   ·exact yTo a b (ih a (by omega) (by omega) hA) (ih b (by omega) (by omega) hB) (bV hA) (bV hB) (by omega) (by omega)
   ·exact yTr a b (ih a (by omega) (by omega) hA) (ih b (by omega) (by omega) hB) (bV hA) (bV hB) (by omega) (by omega)
  | mu s hs c hc h0=>
   have hzz:szT (nd 7 s c)=1+c.sz:=rfl;have hl:=Fr.len_le c;refine yYq s c h0 (by omega) (fun j t' hj=>?_) (by omega) fun j hj=>?_
   ·obtain⟨s',u,rfl,_,hu⟩:=wR (gM hc.1 hj)
    have hg:=Fr.get_sz hj;have hz2:szT (nd 8 s' (fr1 u))=1+szT u:=by unfold szT;simp only[nd,fr1,Fr.sz];omega
    exact⟨s',u,rfl,ih u (by omega) (by omega) hu,bV hu⟩
   ·rw[lS] at hf
    have hlen:=hf.1;simp only[List.length_cons,List.length_append,List.length_nil] at hlen;have hb:=gL (segF c) j;have hlen:(bars (segF c)).length≤5*szT (nd 7 s c):=by
     have e:(bars ((tkF c).map (·.2))).length=(bars (segF c)).length:=rfl;omega
    have h1:=zN0 (m:=128) (bars ((segF c).take j)) fun x hx=>hf.2 x (List.mem_cons_of_mem _ (List.mem_cons_of_mem _ (List.mem_cons_of_mem _ (List.mem_append_left _ (zSq _ _ _ hx)))))
    have e:(tB (bars ((segF c).take j))).size=(jT (bars ((segF c).take j))).length:=by show(jT _).toArray.size=_;simp
    have hs1:=fS s hs;unfold muB
    split
    ·simp only[ByteArray.size_append];show 3+s.size+3≤_;omega
    ·simp only[ByteArray.size_append];show 3+s.size+3+_≤_;omega
theorem zX1:∀(n:Nat) (t:Tr),szT t≤n→n≤8192→isT B.nck B.long t 2=true→zG t
 | 0,t,h,_,_=>absurd h (by unfold szT;omega)
 | n+1,t,h,hn,ht=>by
  have ih:=zX1 n;have zE:∀t:Tr,szT t≤n→isT B.nck B.long t 2=true→(txE qE t).size≤100000000:=fun t hz ht=>by have:=zQc (nb:=qE) oO lD wU ht;omega
  have zT:∀t:Tr,szT t≤n→isT B.nck B.long t 1=true→(tB (tkT t)).size≤100000000:=fun t hz ht=>by have:=lU oO lD ht;omega
  have iT:∀t:Tr,szT t≤n→isT B.nck B.long t 1=true→TxtAt t:=fun t hz ht=>zSr _ t (Nat.le_refl _) (by omega) ht
  have iA:∀k:Fr,k.sz≤n→ArmOk B.nck B.long k→∀(j:Nat) c x b,k.get j=some (⟨34,0,c,x⟩,fr1 b)→zG b:=fun k hz hk j c x b hj=>by
   obtain⟨c',x',b',e,_,_,hb⟩:=vR (nQ hk hj);injection e with e1 e2;injection e2 with e3 e4 _;have hg:=Fr.get_sz hj;have hz2:szT (⟨34,0,c,x⟩,fr1 b)=1+szT b:=mE _ b;have hbb:isT B.nck B.long b 2=true:=by
    have e5:b=b':=Prod.ext e3 e4;rw[e5];exact hb
   exact ih b (by omega) (by omega) hbb
  cases wZ ht with
  | num k h1 h2=>exact yYe k h1 h2
  | boo k hk=>exact zZ6 _ (.inl ⟨k,hk,rfl⟩)
  | unit=>exact zZ6 _ (.inr (.inl rfl))
  | var s hs=>exact zZ6 _ (.inr (.inr ⟨s,rfl⟩))
  | lam s hs a b hA hB=>
   have hz:szT (nd 24 s (fr2 a b))=1+(szT a+szT b):=zQ _ a b;exact yYj s a b (iT a (by omega) hA) hA (zT a (by omega) hA) (ih b (by omega) (by omega) hB) hB (zE b (by omega) hB) (by have:=oO s hs;omega)
  | app a b hA hB=>
   have hz:szT (nd 25 nob (fr2 a b))=1+(szT a+szT b):=zQ _ a b;exact yYf a b (ih a (by omega) (by omega) hA) hA (zE a (by omega) hA) (ih b (by omega) (by omega) hB) hB (zE b (by omega) hB)
  | pair a b hA hB=>
   have hz:szT (nd 26 nob (fr2 a b))=1+(szT a+szT b):=zQ _ a b;exact zC3 a b (ih a (by omega) (by omega) hA) hA (zE a (by omega) hA) (ih b (by omega) (by omega) hB) hB (zE b (by omega) hB)
  | sel k hk a hA=>
   have hz:szT (nd k nob (fr1 a))=1+szT a:=mE _ a
   rcases hk with rfl | rfl
   ·exact yYg a (ih a (by omega) (by omega) hA) hA (zE a (by omega) hA)
   ·exact yYh a (ih a (by omega) (by omega) hA) hA (zE a (by omega) hA)
  | letE s hs a b hA hB=>
   have hz:szT (nd 29 s (fr2 a b))=1+(szT a+szT b):=zQ _ a b;exact yYi s a b (ih a (by omega) (by omega) hA) hA (zE a (by omega) hA) (ih b (by omega) (by omega) hB) hB (zE b (by omega) hB) (by have:=oO s hs;omega)
  | ifE a b c hA hB hC=>
   have hz:szT (nd 30 nob (fr3 a b c))=1+(szT a+szT b+szT c):=dG _ a b c;exact yTs a b c (ih a (by omega) (by omega) hA) hA (zE a (by omega) hA) (ih b (by omega) (by omega) hB) hB (zE b (by omega) hB) (ih c (by omega) (by omega) hC) hC (zE c (by omega) hC)
  | op k h1 h2 a b hA hB=>
   have hz:szT (opN k,fr2 a b)=1+(szT a+szT b):=zQ _ a b;have ea:=ih a (by omega) (by omega) hA;have eb:=ih b (by omega) (by omega) hB;have za:=zE a (by omega) hA;have zb:=zE b (by omega) hB;have:k=1∨k=2∨k=3∨k=4∨k=5:=by omega
   rcases this with rfl | rfl | rfl | rfl | rfl
   ·exact yYk a b ea hA za eb hB zb
   ·exact yYl a b ea hA za eb hB zb
   ·exact yYm a b ea hA za eb hB zb
   ·exact yYn a b ea hA za eb hB zb
   ·exact yYo a b ea hA za eb hB zb
  | caseE a hA k hk h0=>
   have hz:szT (nd 32 nob (.cons a.1 a.2 k))=1+(szT a+k.sz):=rfl;have hl:=Fr.len_le k;exact zC4 a k (ih a (by omega) (by omega) hA) hA (zE a (by omega) hA) h0 (by omega) hk (by omega) (iA k (by omega) hk)
  | foldE a t hA hT k hk h0=>
   have hz:szT (nd 33 nob (.cons a.1 a.2 (.cons t.1 t.2 k)))=1+(szT a+(szT t+k.sz)):=rfl;have hl:=Fr.len_le k;exact zC5 a t k (ih a (by omega) (by omega) hA) hA (zE a (by omega) hA) (iT t (by omega) hT) hT (zT t (by omega) hT) h0 (by omega) hk (by omega) (iA k (by omega) hk)
theorem zJf (o:Option Tr) (hz:szO o≤60000) (hs:okSO o) (W w:World) (v:Value) (hv:HasT W v o) (hu:Up W w):Calls Tryz.prog 18 #[v] w (dT o W):=by
 have cS:=wE o 2 hz hs W w v hv hu;unfold dT
 by_cases hc:chk B.nck B.long o 2=0
 ·obtain⟨t,rfl,h1,h2,h3⟩:=zQq hc
  rw[hc] at cS ⊢;rw[if_pos rfl];have HS:Hid (zLb (some t)=txE qE t):=Lib.hid rfl;rw[HS.out];have cT:=zX1 _ t (Nat.le_refl _) h1 h3;have HV:=Lib.hid hv;have HT:=Lib.hid cT;clear hc hv h2 h3 hs hz cT
  go_enter Tryz.func18,Tryz.ntmps18
  go_wp2_with fail;refine cS.mono ?_;rintro en w1 ⟨rfl,u1⟩;have cW:=HT.out W w1 v HV.out u1;clear u1 cS;go_wp2_with fail;refine cW.mono ?_;rintro en w2 ⟨rfl,u2⟩;have U2:=Lib.hid u2;clear u2;go_wp2_with fail
  go_ret2
  exact⟨rfl,U2.out⟩
 ·rw[if_neg hc]
  obtain⟨z,hzz⟩:∃z,chk B.nck B.long o 2=z:=⟨_,rfl⟩;rw[hzz] at hc cS ⊢;clear hv hs hz hzz
  go_enter Tryz.func18,Tryz.ntmps18
  go_wp2_with fail;refine cS.mono ?_;rintro en w1 ⟨rfl,u1⟩;have U1:=Lib.hid u1;clear u1;go_wp2_with fail
  go_ret2
  exact⟨rfl,U1.out⟩
theorem zP2 (P:PxAll) (cs:List Cel) (w:World) (cv:Value) (hx:Vx7 w) (hcl:Cls w w.heap.size cv cs) (hfit:∀c∈cs,fitC c) :
  Calls Tryz.prog 5 #[.agg #[cv]] w (BoP true w):=by
 obtain⟨H,hH⟩:∃H,w.heap.size=H:=⟨_,rfl⟩;obtain⟨CA,cc,hcv,-,-⟩:=id hcl;have u0:Up w (w.alloc (.cells #[cv] 38)):=(Up.refl w).alloc _;obtain⟨W0,hW0⟩:∃W0,w.alloc (.cells #[cv] 38)=W0:=⟨_,rfl⟩;have hx0:W0.heap[H]? = some (.cells #[cv] 38 (0,0)):=by rw[←hW0,←hH];exact heap_alloc_new w _
 rw[hW0] at u0;have hcl0:=hcl.upp u0;have kc:W0.cell? ⟨H,0,none⟩=some cv:=cell_of_row _ H 0 _ _ _ hx0;obtain⟨o,z,ho,hs,hk,-⟩:=zEf cs;have HW0:=Lib.hid hW0;have U0:=Lib.hid u0;have HCL:=Lib.hid hcl0;have HF:=Lib.hid hfit;have HO:=Lib.hid ho;have HS:=Lib.hid hs;have HK:=Lib.hid hk;have HX:=Lib.hid hx;clear hcl u0 hW0 hcl0 hfit ho hs hk hx0 hx;subst hcv
 go_enter Tryz.func5,Tryz.ntmps5
 go_wp2_with fail;rw[HW0.out];refine(zNi cs HCL.out HF.out (Up.refl _)).mono ?_;rintro e w1 ⟨v1,rfl,h1,u1⟩;have H1:=Lib.hid h1;have U1:=Lib.hid (U0.out.trans u1);clear h1 u1 kc;go_wp2_with fail;refine(rOpen (fewL cs) H1.out (zS7 cs) (zEg cs) (Up.refl _)).mono ?_;rw[HO.out];rintro e w2 ⟨n,rfl,h2,u2⟩;have HN:=Lib.hid h2;have U2:=Lib.hid (U1.out.trans u2);clear h2 u2;go_wp2_with fail;refine(P.write o (by have:=HS.out;omega) HK.out w2 w2 n (HX.out.up U2.out) HN.out (Up.refl _)).mono ?_;unfold dT;obtain⟨S,hS⟩:∃S,(if chk B.nck B.long o 2=0 then zLb o else nob)=S:=⟨_,rfl⟩;obtain⟨Z,hZ⟩:∃Z,chk B.nck B.long o 2=Z:=⟨_,rfl⟩;have HSS:=Lib.hid hS;have HZZ:=Lib.hid hZ;rw[hS,hZ];clear hS hZ;rintro e w3 ⟨rfl,u3⟩;have U3:=Lib.hid (U2.out.trans u3);have HN3:=Lib.hid (HN.out.up u3);clear u3;go_wp2_with fail;refine(zJf o (by have:=HS.out;omega) HK.out w3 w3 n HN3.out (Up.refl _)).mono ?_;unfold dT;rw[HSS.out,HZZ.out];rintro e w4 ⟨rfl,u4⟩;have U4:=Lib.hid (U3.out.trans u4);clear u4;go_wp2_with fail;refine(uW P HX.out U4.out).mono ?_;rintro e w5 ⟨rfl,u5⟩;go_wp2_with fail
 go_ret
 exact qZ rfl u5
end Go.Proofs.YtbpijnalmakfaaaGreatDoor
