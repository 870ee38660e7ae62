/-
  Layer 5, the program's isType, isExpr: what they tell of a node, Kind by Kind (written by gsh.py).
-/
import Derived.Test.YtbpijnalmakfaaaGreatDoorGw37
import Derived.Deep.OwnRows
set_option maxHeartbeats 40000000
set_option maxRecDepth 100000
namespace Go.Proofs.YtbpijnalmakfaaaGreatDoor
open Go.RowKit
theorem zE3 (x:Nod) (f:Fr) (w:World) (v:Value) (hk:x.k=1) (hn:Nd1 x f) (hx:B.Nx w) (hv:HasT w v (some (x,f))):Calls Tryz.prog 107 #[v] w (TelB (isT B.nck B.long (x,f) 1) w):=by
 have HE:Hid (isT B.nck B.long (x,f) 1=(numB x 0 0&&seqK (IF f) [])):=Lib.hid (by show isX _ _ x (IF f) 1=_;rw[zZ hk (by rfl),jN,jS _ _ (by rfl)];rfl);rw[HE.out];obtain⟨q,p,A,c',rfl,hq,c0,c1,c2,c3,c4,hcc,hkid⟩:=InT.open hv;rw[hk] at c0;have cH:=yR x f w _ hv;have cT:∀w1,Up w w1→Calls Tryz.prog 103 #[.pointer (some ⟨q,p,none⟩),.slice none 0 0] w1 (TelB (seqK (IF f) []) w1):=fun w1 u=>zS [] x f w1 _ none 0 (Nx.up hx u) (hv.up u) hn.hf (by decide) (fun _ _ _ h=>by cases h) (fun _ _ _ _ h=>by cases h)
 obtain⟨hb,hhb⟩:∃hb,numB x 0 0=hb:=⟨_,rfl⟩;obtain⟨tb,htb⟩:∃tb,seqK (IF f) []=tb:=⟨_,rfl⟩;rw[hhb,htb];rw[hhb] at cH;rw[htb] at cT;clear HE hhb htb hv hk hn hx hq c1 c2 c3 c4 hcc hkid
 cases hb
 ·go_enter Tryz.func107,Tryz.ntmps107
  go_wp2_with fail;refine cH.mono ?_;rintro e w1 ⟨rfl,u1⟩;go_wp2_with fail
  go_ret
  exact qI rfl u1
 ·go_enter Tryz.func107,Tryz.ntmps107
  go_wp2_with fail;refine cH.mono ?_;rintro e w1 ⟨rfl,u1⟩;go_wp2_with fail;refine(cT w1 u1).mono ?_;rintro e w2 ⟨rfl,u2⟩;go_wp2_with fail
  go_ret
  exact qI (by cases tb<;>rfl) (Up.trans (u1) u2)
theorem zE4 (x:Nod) (f:Fr) (w:World) (v:Value) (hk:x.k=2) (hn:Nd1 x f) (hx:B.Nx w) (hv:HasT w v (some (x,f))):Calls Tryz.prog 107 #[v] w (TelB (isT B.nck B.long (x,f) 1) w):=by
 have HE:Hid (isT B.nck B.long (x,f) 1=(numB x 0 0&&seqK (IF f) [])):=Lib.hid (by show isX _ _ x (IF f) 1=_;rw[zZ hk (by rfl),jN,jS _ _ (by rfl)];rfl);rw[HE.out];obtain⟨q,p,A,c',rfl,hq,c0,c1,c2,c3,c4,hcc,hkid⟩:=InT.open hv;rw[hk] at c0;have cH:=yR x f w _ hv;have cT:∀w1,Up w w1→Calls Tryz.prog 103 #[.pointer (some ⟨q,p,none⟩),.slice none 0 0] w1 (TelB (seqK (IF f) []) w1):=fun w1 u=>zS [] x f w1 _ none 0 (Nx.up hx u) (hv.up u) hn.hf (by decide) (fun _ _ _ h=>by cases h) (fun _ _ _ _ h=>by cases h)
 obtain⟨hb,hhb⟩:∃hb,numB x 0 0=hb:=⟨_,rfl⟩;obtain⟨tb,htb⟩:∃tb,seqK (IF f) []=tb:=⟨_,rfl⟩;rw[hhb,htb];rw[hhb] at cH;rw[htb] at cT;clear HE hhb htb hv hk hn hx hq c1 c2 c3 c4 hcc hkid
 cases hb
 ·go_enter Tryz.func107,Tryz.ntmps107
  go_wp2_with fail;refine cH.mono ?_;rintro e w1 ⟨rfl,u1⟩;go_wp2_with fail
  go_ret
  exact qI rfl u1
 ·go_enter Tryz.func107,Tryz.ntmps107
  go_wp2_with fail;refine cH.mono ?_;rintro e w1 ⟨rfl,u1⟩;go_wp2_with fail;refine(cT w1 u1).mono ?_;rintro e w2 ⟨rfl,u2⟩;go_wp2_with fail
  go_ret
  exact qI (by cases tb<;>rfl) (Up.trans (u1) u2)
theorem zE5 (x:Nod) (f:Fr) (w:World) (v:Value) (hk:x.k=3) (hn:Nd1 x f) (hx:B.Nx w) (hv:HasT w v (some (x,f))):Calls Tryz.prog 107 #[v] w (TelB (isT B.nck B.long (x,f) 1) w):=by
 have HE:Hid (isT B.nck B.long (x,f) 1=(numB x 0 0&&seqK (IF f) [])):=Lib.hid (by show isX _ _ x (IF f) 1=_;rw[zZ hk (by rfl),jN,jS _ _ (by rfl)];rfl);rw[HE.out];obtain⟨q,p,A,c',rfl,hq,c0,c1,c2,c3,c4,hcc,hkid⟩:=InT.open hv;rw[hk] at c0;have cH:=yR x f w _ hv;have cT:∀w1,Up w w1→Calls Tryz.prog 103 #[.pointer (some ⟨q,p,none⟩),.slice none 0 0] w1 (TelB (seqK (IF f) []) w1):=fun w1 u=>zS [] x f w1 _ none 0 (Nx.up hx u) (hv.up u) hn.hf (by decide) (fun _ _ _ h=>by cases h) (fun _ _ _ _ h=>by cases h)
 obtain⟨hb,hhb⟩:∃hb,numB x 0 0=hb:=⟨_,rfl⟩;obtain⟨tb,htb⟩:∃tb,seqK (IF f) []=tb:=⟨_,rfl⟩;rw[hhb,htb];rw[hhb] at cH;rw[htb] at cT;clear HE hhb htb hv hk hn hx hq c1 c2 c3 c4 hcc hkid
 cases hb
 ·go_enter Tryz.func107,Tryz.ntmps107
  go_wp2_with fail;refine cH.mono ?_;rintro e w1 ⟨rfl,u1⟩;go_wp2_with fail
  go_ret
  exact qI rfl u1
 ·go_enter Tryz.func107,Tryz.ntmps107
  go_wp2_with fail;refine cH.mono ?_;rintro e w1 ⟨rfl,u1⟩;go_wp2_with fail;refine(cT w1 u1).mono ?_;rintro e w2 ⟨rfl,u2⟩;go_wp2_with fail
  go_ret
  exact qI (by cases tb<;>rfl) (Up.trans (u1) u2)
theorem zE6 (x:Nod) (f:Fr) (w:World) (v:Value) (hk:x.k=4) (hn:Nd1 x f) (hx:B.Nx w) (hv:HasT w v (some (x,f))):Calls Tryz.prog 107 #[v] w (TelB (isT B.nck B.long (x,f) 1) w):=by
 have HE:Hid (isT B.nck B.long (x,f) 1=(texB x B.long isEmp&&seqK (IF f) [])):=Lib.hid (by show isX _ _ x (IF f) 1=_;rw[zZ hk (by rfl),sR (A:=B.long) (M:=isEmp) (fun _=>rfl) (fun _=>rfl),jS _ _ (by rfl)];rfl);rw[HE.out];obtain⟨q,p,A,c',rfl,hq,c0,c1,c2,c3,c4,hcc,hkid⟩:=InT.open hv;rw[hk] at c0;have cH:=zY6 x f w _ hv hn.hs.1 hx;have cT:∀w1,Up w w1→Calls Tryz.prog 103 #[.pointer (some ⟨q,p,none⟩),.slice none 0 0] w1 (TelB (seqK (IF f) []) w1):=fun w1 u=>zS [] x f w1 _ none 0 (Nx.up hx u) (hv.up u) hn.hf (by decide) (fun _ _ _ h=>by cases h) (fun _ _ _ _ h=>by cases h)
 obtain⟨hb,hhb⟩:∃hb,texB x B.long isEmp=hb:=⟨_,rfl⟩;obtain⟨tb,htb⟩:∃tb,seqK (IF f) []=tb:=⟨_,rfl⟩;rw[hhb,htb];rw[hhb] at cH;rw[htb] at cT;clear HE hhb htb hv hk hn hx hq c1 c2 c3 c4 hcc hkid
 cases hb
 ·go_enter Tryz.func107,Tryz.ntmps107
  go_wp2_with fail;refine cH.mono ?_;rintro e w1 ⟨rfl,u1⟩;go_wp2_with fail
  go_ret
  exact qI rfl u1
 ·go_enter Tryz.func107,Tryz.ntmps107
  go_wp2_with fail;refine cH.mono ?_;rintro e w1 ⟨rfl,u1⟩;go_wp2_with fail;refine(cT w1 u1).mono ?_;rintro e w2 ⟨rfl,u2⟩;go_wp2_with fail
  go_ret
  exact qI (by cases tb<;>rfl) (Up.trans (u1) u2)
theorem zE7 (x:Nod) (f:Fr) (w:World) (v:Value) (hk:x.k=5) (hn:Nd1 x f) (hx:B.Nx w) (hv:HasT w v (some (x,f))):Calls Tryz.prog 107 #[v] w (TelB (isT B.nck B.long (x,f) 1) w):=by
 have HE:Hid (isT B.nck B.long (x,f) 1=(numB x 0 0&&seqK (IF f) [1,1])):=Lib.hid (by show isX _ _ x (IF f) 1=_;rw[zZ hk (by rfl),jN,jS _ _ (by rfl)];rfl);rw[HE.out];obtain⟨q,p,A,c',rfl,hq,c0,c1,c2,c3,c4,hcc,hkid⟩:=InT.open hv;rw[hk] at c0;have cH:=yR x f w _ hv;have cT:∀w1,Up w w1→Calls Tryz.prog 103 #[.pointer (some ⟨q,p,none⟩),.slice (some ⟨w1.heap.size,0,none⟩) 2 2] (w1.alloc (.cells #[.func (.func 107) #[] #[],.func (.func 107) #[] #[]] 146)) (TelB (seqK (IF f) [1,1]) (w1.alloc (.cells #[.func (.func 107) #[] #[],.func (.func 107) #[] #[]] 146))):=fun w1 u=>zS [1,1] x f _ _ _ _ (Nx.up hx (u.alloc _)) (hv.up (u.alloc _)) hn.hf (by decide) (jZ (fnsC [1,1]) (heap_alloc_new w1 _)) (yS hn (by decide))
 obtain⟨hb,hhb⟩:∃hb,numB x 0 0=hb:=⟨_,rfl⟩;obtain⟨tb,htb⟩:∃tb,seqK (IF f) [1,1]=tb:=⟨_,rfl⟩;rw[hhb,htb];rw[hhb] at cH;rw[htb] at cT;clear HE hhb htb hv hk hn hx hq c1 c2 c3 c4 hcc hkid
 cases hb
 ·go_enter Tryz.func107,Tryz.ntmps107
  go_wp2_with fail;refine cH.mono ?_;rintro e w1 ⟨rfl,u1⟩;go_wp2_with fail
  go_ret
  exact qI rfl u1
 ·go_enter Tryz.func107,Tryz.ntmps107
  go_wp2_with fail;refine cH.mono ?_;rintro e w1 ⟨rfl,u1⟩;go_wp2_with fail;refine(cT w1 u1).mono ?_;rintro e w2 ⟨rfl,u2⟩;go_wp2_with fail
  go_ret
  exact qI (by cases tb<;>rfl) (Up.trans (u1.alloc _) u2)
theorem zE8 (x:Nod) (f:Fr) (w:World) (v:Value) (hk:x.k=6) (hn:Nd1 x f) (hx:B.Nx w) (hv:HasT w v (some (x,f))):Calls Tryz.prog 107 #[v] w (TelB (isT B.nck B.long (x,f) 1) w):=by
 have HE:Hid (isT B.nck B.long (x,f) 1=(numB x 0 0&&seqK (IF f) [1,1])):=Lib.hid (by show isX _ _ x (IF f) 1=_;rw[zZ hk (by rfl),jN,jS _ _ (by rfl)];rfl);rw[HE.out];obtain⟨q,p,A,c',rfl,hq,c0,c1,c2,c3,c4,hcc,hkid⟩:=InT.open hv;rw[hk] at c0;have cH:=yR x f w _ hv;have cT:∀w1,Up w w1→Calls Tryz.prog 103 #[.pointer (some ⟨q,p,none⟩),.slice (some ⟨w1.heap.size,0,none⟩) 2 2] (w1.alloc (.cells #[.func (.func 107) #[] #[],.func (.func 107) #[] #[]] 146)) (TelB (seqK (IF f) [1,1]) (w1.alloc (.cells #[.func (.func 107) #[] #[],.func (.func 107) #[] #[]] 146))):=fun w1 u=>zS [1,1] x f _ _ _ _ (Nx.up hx (u.alloc _)) (hv.up (u.alloc _)) hn.hf (by decide) (jZ (fnsC [1,1]) (heap_alloc_new w1 _)) (yS hn (by decide))
 obtain⟨hb,hhb⟩:∃hb,numB x 0 0=hb:=⟨_,rfl⟩;obtain⟨tb,htb⟩:∃tb,seqK (IF f) [1,1]=tb:=⟨_,rfl⟩;rw[hhb,htb];rw[hhb] at cH;rw[htb] at cT;clear HE hhb htb hv hk hn hx hq c1 c2 c3 c4 hcc hkid
 cases hb
 ·go_enter Tryz.func107,Tryz.ntmps107
  go_wp2_with fail;refine cH.mono ?_;rintro e w1 ⟨rfl,u1⟩;go_wp2_with fail
  go_ret
  exact qI rfl u1
 ·go_enter Tryz.func107,Tryz.ntmps107
  go_wp2_with fail;refine cH.mono ?_;rintro e w1 ⟨rfl,u1⟩;go_wp2_with fail;refine(cT w1 u1).mono ?_;rintro e w2 ⟨rfl,u2⟩;go_wp2_with fail
  go_ret
  exact qI (by cases tb<;>rfl) (Up.trans (u1.alloc _) u2)
theorem zE9 (x:Nod) (f:Fr) (w:World) (v:Value) (hk:x.k=7) (hn:Nd1 x f) (hx:B.Nx w) (hv:HasT w v (some (x,f))):Calls Tryz.prog 107 #[v] w (TelB (isT B.nck B.long (x,f) 1) w):=by
 have HE:Hid (isT B.nck B.long (x,f) 1=(texB x B.nck isEmp&&seqOk (IF f) [67])):=Lib.hid (by show isX _ _ x (IF f) 1=_;rw[zZ hk (by rfl),sR (A:=B.nck) (M:=isEmp) (fun _=>rfl) (fun _=>rfl)]);rw[HE.out];obtain⟨q,p,A,c',rfl,hq,c0,c1,c2,c3,c4,hcc,hkid⟩:=InT.open hv;rw[hk] at c0;have cH:=pU x f w _ hv hn.hs.1;have cT:∀w1,Up w w1→Calls Tryz.prog 163 #[.pointer (some ⟨q,p,none⟩)] w1 (TelB (seqOk (IF f) [67]) w1):=fun w1 u=>zK1 x f w1 _ (Nx.up hx u) (hv.up u) hn.hs hn.hf fun i t h=>⟨(hn.ih i t h).ln,(hn.ih i t h).kk⟩
 obtain⟨hb,hhb⟩:∃hb,texB x B.nck isEmp=hb:=⟨_,rfl⟩;obtain⟨tb,htb⟩:∃tb,seqOk (IF f) [67]=tb:=⟨_,rfl⟩;rw[hhb,htb];rw[hhb] at cH;rw[htb] at cT;clear HE hhb htb hv hk hn hx hq c1 c2 c3 c4 hcc hkid
 cases hb
 ·go_enter Tryz.func107,Tryz.ntmps107
  go_wp2_with fail;refine cH.mono ?_;rintro e w1 ⟨rfl,u1⟩;go_wp2_with fail
  go_ret
  exact qI rfl u1
 ·go_enter Tryz.func107,Tryz.ntmps107
  go_wp2_with fail;refine cH.mono ?_;rintro e w1 ⟨rfl,u1⟩;go_wp2_with fail;refine(cT w1 u1).mono ?_;rintro e w2 ⟨rfl,u2⟩;go_wp2_with fail
  go_ret
  exact qI (by cases tb<;>rfl) (Up.trans (u1) u2)
theorem zQj (x:Nod) (f:Fr) (hn:Nd1 x f):TelAt 107 (isT B.nck B.long (x,f) 1) (x,f):=fun w v hx hv=>by
 by_cases n1:x.k=1
 ·exact zE3 x f w v n1 hn hx hv
 by_cases n2:x.k=2
 ·exact zE4 x f w v n2 hn hx hv
 by_cases n3:x.k=3
 ·exact zE5 x f w v n3 hn hx hv
 by_cases n4:x.k=4
 ·exact zE6 x f w v n4 hn hx hv
 by_cases n5:x.k=5
 ·exact zE7 x f w v n5 hn hx hv
 by_cases n6:x.k=6
 ·exact zE8 x f w v n6 hn hx hv
 by_cases n7:x.k=7
 ·exact zE9 x f w v n7 hn hx hv
 exact bO x f w v n1 n2 n3 n4 n5 n6 n7 hv
theorem zK2 (x:Nod) (f:Fr) (w:World) (v:Value) (hk:x.k=20) (hn:Nd1 x f) (hx:B.Nx w) (hv:HasT w v (some (x,f))):Calls Tryz.prog 46 #[v] w (TelB (isT B.nck B.long (x,f) 2) w):=by
 have HE:Hid (isT B.nck B.long (x,f) 2=(numB x (-1073741824) 1073741824&&seqK (IF f) [])):=Lib.hid (by show isX _ _ x (IF f) 2=_;rw[zZ hk (by rfl),jN,jS _ _ (by rfl)];rfl);rw[HE.out];obtain⟨q,p,A,c',rfl,hq,c0,c1,c2,c3,c4,hcc,hkid⟩:=InT.open hv;rw[hk] at c0;have cH:=xY x f (-1073741824) 1073741824 w _ hv;have cT:∀w1,Up w w1→Calls Tryz.prog 103 #[.pointer (some ⟨q,p,none⟩),.slice none 0 0] w1 (TelB (seqK (IF f) []) w1):=fun w1 u=>zS [] x f w1 _ none 0 (Nx.up hx u) (hv.up u) hn.hf (by decide) (fun _ _ _ h=>by cases h) (fun _ _ _ _ h=>by cases h)
 obtain⟨hb,hhb⟩:∃hb,numB x (-1073741824) 1073741824=hb:=⟨_,rfl⟩;obtain⟨tb,htb⟩:∃tb,seqK (IF f) []=tb:=⟨_,rfl⟩;rw[hhb,htb];rw[hhb] at cH;rw[htb] at cT;clear HE hhb htb hv hk hn hx hq c1 c2 c3 c4 hcc hkid
 cases hb
 ·go_enter Tryz.func46,Tryz.ntmps46
  go_wp2_with fail;refine cH.mono ?_;rintro e w1 ⟨rfl,u1⟩;go_wp2_with fail
  go_ret
  exact qI rfl u1
 ·go_enter Tryz.func46,Tryz.ntmps46
  go_wp2_with fail;refine cH.mono ?_;rintro e w1 ⟨rfl,u1⟩;go_wp2_with fail;refine(cT w1 u1).mono ?_;rintro e w2 ⟨rfl,u2⟩;go_wp2_with fail
  go_ret
  exact qI (by cases tb<;>rfl) (Up.trans (u1) u2)
theorem zK3 (x:Nod) (f:Fr) (w:World) (v:Value) (hk:x.k=21) (hn:Nd1 x f) (hx:B.Nx w) (hv:HasT w v (some (x,f))):Calls Tryz.prog 46 #[v] w (TelB (isT B.nck B.long (x,f) 2) w):=by
 have HE:Hid (isT B.nck B.long (x,f) 2=(numB x 0 1&&seqK (IF f) [])):=Lib.hid (by show isX _ _ x (IF f) 2=_;rw[zZ hk (by rfl),jN,jS _ _ (by rfl)];rfl);rw[HE.out];obtain⟨q,p,A,c',rfl,hq,c0,c1,c2,c3,c4,hcc,hkid⟩:=InT.open hv;rw[hk] at c0;have cH:=xY x f 0 1 w _ hv;have cT:∀w1,Up w w1→Calls Tryz.prog 103 #[.pointer (some ⟨q,p,none⟩),.slice none 0 0] w1 (TelB (seqK (IF f) []) w1):=fun w1 u=>zS [] x f w1 _ none 0 (Nx.up hx u) (hv.up u) hn.hf (by decide) (fun _ _ _ h=>by cases h) (fun _ _ _ _ h=>by cases h)
 obtain⟨hb,hhb⟩:∃hb,numB x 0 1=hb:=⟨_,rfl⟩;obtain⟨tb,htb⟩:∃tb,seqK (IF f) []=tb:=⟨_,rfl⟩;rw[hhb,htb];rw[hhb] at cH;rw[htb] at cT;clear HE hhb htb hv hk hn hx hq c1 c2 c3 c4 hcc hkid
 cases hb
 ·go_enter Tryz.func46,Tryz.ntmps46
  go_wp2_with fail;refine cH.mono ?_;rintro e w1 ⟨rfl,u1⟩;go_wp2_with fail
  go_ret
  exact qI rfl u1
 ·go_enter Tryz.func46,Tryz.ntmps46
  go_wp2_with fail;refine cH.mono ?_;rintro e w1 ⟨rfl,u1⟩;go_wp2_with fail;refine(cT w1 u1).mono ?_;rintro e w2 ⟨rfl,u2⟩;go_wp2_with fail
  go_ret
  exact qI (by cases tb<;>rfl) (Up.trans (u1) u2)
theorem zK4 (x:Nod) (f:Fr) (w:World) (v:Value) (hk:x.k=22) (hn:Nd1 x f) (hx:B.Nx w) (hv:HasT w v (some (x,f))):Calls Tryz.prog 46 #[v] w (TelB (isT B.nck B.long (x,f) 2) w):=by
 have HE:Hid (isT B.nck B.long (x,f) 2=(numB x 0 0&&seqK (IF f) [])):=Lib.hid (by show isX _ _ x (IF f) 2=_;rw[zZ hk (by rfl),jN,jS _ _ (by rfl)];rfl);rw[HE.out];obtain⟨q,p,A,c',rfl,hq,c0,c1,c2,c3,c4,hcc,hkid⟩:=InT.open hv;rw[hk] at c0;have cH:=yR x f w _ hv;have cT:∀w1,Up w w1→Calls Tryz.prog 103 #[.pointer (some ⟨q,p,none⟩),.slice none 0 0] w1 (TelB (seqK (IF f) []) w1):=fun w1 u=>zS [] x f w1 _ none 0 (Nx.up hx u) (hv.up u) hn.hf (by decide) (fun _ _ _ h=>by cases h) (fun _ _ _ _ h=>by cases h)
 obtain⟨hb,hhb⟩:∃hb,numB x 0 0=hb:=⟨_,rfl⟩;obtain⟨tb,htb⟩:∃tb,seqK (IF f) []=tb:=⟨_,rfl⟩;rw[hhb,htb];rw[hhb] at cH;rw[htb] at cT;clear HE hhb htb hv hk hn hx hq c1 c2 c3 c4 hcc hkid
 cases hb
 ·go_enter Tryz.func46,Tryz.ntmps46
  go_wp2_with fail;refine cH.mono ?_;rintro e w1 ⟨rfl,u1⟩;go_wp2_with fail
  go_ret
  exact qI rfl u1
 ·go_enter Tryz.func46,Tryz.ntmps46
  go_wp2_with fail;refine cH.mono ?_;rintro e w1 ⟨rfl,u1⟩;go_wp2_with fail;refine(cT w1 u1).mono ?_;rintro e w2 ⟨rfl,u2⟩;go_wp2_with fail
  go_ret
  exact qI (by cases tb<;>rfl) (Up.trans (u1) u2)
theorem zK5 (x:Nod) (f:Fr) (w:World) (v:Value) (hk:x.k=24) (hn:Nd1 x f) (hx:B.Nx w) (hv:HasT w v (some (x,f))):Calls Tryz.prog 46 #[v] w (TelB (isT B.nck B.long (x,f) 2) w):=by
 have HE:Hid (isT B.nck B.long (x,f) 2=(texB x B.nck isEmp&&seqK (IF f) [1,2])):=Lib.hid (by show isX _ _ x (IF f) 2=_;rw[zZ hk (by rfl),sR (A:=B.nck) (M:=isEmp) (fun _=>rfl) (fun _=>rfl),jS _ _ (by rfl)];rfl);rw[HE.out];obtain⟨q,p,A,c',rfl,hq,c0,c1,c2,c3,c4,hcc,hkid⟩:=InT.open hv;rw[hk] at c0;have cH:=pU x f w _ hv hn.hs.1;have cT:∀w1,Up w w1→Calls Tryz.prog 103 #[.pointer (some ⟨q,p,none⟩),.slice (some ⟨w1.heap.size,0,none⟩) 2 2] (w1.alloc (.cells #[.func (.func 107) #[] #[],.func (.func 46) #[] #[]] 146)) (TelB (seqK (IF f) [1,2]) (w1.alloc (.cells #[.func (.func 107) #[] #[],.func (.func 46) #[] #[]] 146))):=fun w1 u=>zS [1,2] x f _ _ _ _ (Nx.up hx (u.alloc _)) (hv.up (u.alloc _)) hn.hf (by decide) (jZ (fnsC [1,2]) (heap_alloc_new w1 _)) (yS hn (by decide))
 obtain⟨hb,hhb⟩:∃hb,texB x B.nck isEmp=hb:=⟨_,rfl⟩;obtain⟨tb,htb⟩:∃tb,seqK (IF f) [1,2]=tb:=⟨_,rfl⟩;rw[hhb,htb];rw[hhb] at cH;rw[htb] at cT;clear HE hhb htb hv hk hn hx hq c1 c2 c3 c4 hcc hkid
 cases hb
 ·go_enter Tryz.func46,Tryz.ntmps46
  go_wp2_with fail;refine cH.mono ?_;rintro e w1 ⟨rfl,u1⟩;go_wp2_with fail
  go_ret
  exact qI rfl u1
 ·go_enter Tryz.func46,Tryz.ntmps46
  go_wp2_with fail;refine cH.mono ?_;rintro e w1 ⟨rfl,u1⟩;go_wp2_with fail;refine(cT w1 u1).mono ?_;rintro e w2 ⟨rfl,u2⟩;go_wp2_with fail
  go_ret
  exact qI (by cases tb<;>rfl) (Up.trans (u1.alloc _) u2)
theorem zK6 (x:Nod) (f:Fr) (w:World) (v:Value) (hk:x.k=26) (hn:Nd1 x f) (hx:B.Nx w) (hv:HasT w v (some (x,f))):Calls Tryz.prog 46 #[v] w (TelB (isT B.nck B.long (x,f) 2) w):=by
 have HE:Hid (isT B.nck B.long (x,f) 2=(numB x 0 0&&seqK (IF f) [2,2])):=Lib.hid (by show isX _ _ x (IF f) 2=_;rw[zZ hk (by rfl),jN,jS _ _ (by rfl)];rfl);rw[HE.out];obtain⟨q,p,A,c',rfl,hq,c0,c1,c2,c3,c4,hcc,hkid⟩:=InT.open hv;rw[hk] at c0;have cH:=yR x f w _ hv;have cT:∀w1,Up w w1→Calls Tryz.prog 103 #[.pointer (some ⟨q,p,none⟩),.slice (some ⟨w1.heap.size,0,none⟩) 2 2] (w1.alloc (.cells #[.func (.func 46) #[] #[],.func (.func 46) #[] #[]] 146)) (TelB (seqK (IF f) [2,2]) (w1.alloc (.cells #[.func (.func 46) #[] #[],.func (.func 46) #[] #[]] 146))):=fun w1 u=>zS [2,2] x f _ _ _ _ (Nx.up hx (u.alloc _)) (hv.up (u.alloc _)) hn.hf (by decide) (jZ (fnsC [2,2]) (heap_alloc_new w1 _)) (yS hn (by decide))
 obtain⟨hb,hhb⟩:∃hb,numB x 0 0=hb:=⟨_,rfl⟩;obtain⟨tb,htb⟩:∃tb,seqK (IF f) [2,2]=tb:=⟨_,rfl⟩;rw[hhb,htb];rw[hhb] at cH;rw[htb] at cT;clear HE hhb htb hv hk hn hx hq c1 c2 c3 c4 hcc hkid
 cases hb
 ·go_enter Tryz.func46,Tryz.ntmps46
  go_wp2_with fail;refine cH.mono ?_;rintro e w1 ⟨rfl,u1⟩;go_wp2_with fail
  go_ret
  exact qI rfl u1
 ·go_enter Tryz.func46,Tryz.ntmps46
  go_wp2_with fail;refine cH.mono ?_;rintro e w1 ⟨rfl,u1⟩;go_wp2_with fail;refine(cT w1 u1).mono ?_;rintro e w2 ⟨rfl,u2⟩;go_wp2_with fail
  go_ret
  exact qI (by cases tb<;>rfl) (Up.trans (u1.alloc _) u2)
theorem zK7 (x:Nod) (f:Fr) (w:World) (v:Value) (hk:x.k=27) (hn:Nd1 x f) (hx:B.Nx w) (hv:HasT w v (some (x,f))):Calls Tryz.prog 46 #[v] w (TelB (isT B.nck B.long (x,f) 2) w):=by
 have HE:Hid (isT B.nck B.long (x,f) 2=(numB x 0 0&&seqK (IF f) [2])):=Lib.hid (by show isX _ _ x (IF f) 2=_;rw[zZ hk (by rfl),jN,jS _ _ (by rfl)];rfl);rw[HE.out];obtain⟨q,p,A,c',rfl,hq,c0,c1,c2,c3,c4,hcc,hkid⟩:=InT.open hv;rw[hk] at c0;have cH:=yR x f w _ hv;have cT:∀w1,Up w w1→Calls Tryz.prog 103 #[.pointer (some ⟨q,p,none⟩),.slice (some ⟨w1.heap.size,0,none⟩) 1 1] (w1.alloc (.cells #[.func (.func 46) #[] #[]] 146)) (TelB (seqK (IF f) [2]) (w1.alloc (.cells #[.func (.func 46) #[] #[]] 146))):=fun w1 u=>zS [2] x f _ _ _ _ (Nx.up hx (u.alloc _)) (hv.up (u.alloc _)) hn.hf (by decide) (jZ (fnsC [2]) (heap_alloc_new w1 _)) (yS hn (by decide))
 obtain⟨hb,hhb⟩:∃hb,numB x 0 0=hb:=⟨_,rfl⟩;obtain⟨tb,htb⟩:∃tb,seqK (IF f) [2]=tb:=⟨_,rfl⟩;rw[hhb,htb];rw[hhb] at cH;rw[htb] at cT;clear HE hhb htb hv hk hn hx hq c1 c2 c3 c4 hcc hkid
 cases hb
 ·go_enter Tryz.func46,Tryz.ntmps46
  go_wp2_with fail;refine cH.mono ?_;rintro e w1 ⟨rfl,u1⟩;go_wp2_with fail
  go_ret
  exact qI rfl u1
 ·go_enter Tryz.func46,Tryz.ntmps46
  go_wp2_with fail;refine cH.mono ?_;rintro e w1 ⟨rfl,u1⟩;go_wp2_with fail;refine(cT w1 u1).mono ?_;rintro e w2 ⟨rfl,u2⟩;go_wp2_with fail
  go_ret
  exact qI (by cases tb<;>rfl) (Up.trans (u1.alloc _) u2)
theorem zK8 (x:Nod) (f:Fr) (w:World) (v:Value) (hk:x.k=28) (hn:Nd1 x f) (hx:B.Nx w) (hv:HasT w v (some (x,f))):Calls Tryz.prog 46 #[v] w (TelB (isT B.nck B.long (x,f) 2) w):=by
 have HE:Hid (isT B.nck B.long (x,f) 2=(numB x 0 0&&seqK (IF f) [2])):=Lib.hid (by show isX _ _ x (IF f) 2=_;rw[zZ hk (by rfl),jN,jS _ _ (by rfl)];rfl);rw[HE.out];obtain⟨q,p,A,c',rfl,hq,c0,c1,c2,c3,c4,hcc,hkid⟩:=InT.open hv;rw[hk] at c0;have cH:=yR x f w _ hv;have cT:∀w1,Up w w1→Calls Tryz.prog 103 #[.pointer (some ⟨q,p,none⟩),.slice (some ⟨w1.heap.size,0,none⟩) 1 1] (w1.alloc (.cells #[.func (.func 46) #[] #[]] 146)) (TelB (seqK (IF f) [2]) (w1.alloc (.cells #[.func (.func 46) #[] #[]] 146))):=fun w1 u=>zS [2] x f _ _ _ _ (Nx.up hx (u.alloc _)) (hv.up (u.alloc _)) hn.hf (by decide) (jZ (fnsC [2]) (heap_alloc_new w1 _)) (yS hn (by decide))
 obtain⟨hb,hhb⟩:∃hb,numB x 0 0=hb:=⟨_,rfl⟩;obtain⟨tb,htb⟩:∃tb,seqK (IF f) [2]=tb:=⟨_,rfl⟩;rw[hhb,htb];rw[hhb] at cH;rw[htb] at cT;clear HE hhb htb hv hk hn hx hq c1 c2 c3 c4 hcc hkid
 cases hb
 ·go_enter Tryz.func46,Tryz.ntmps46
  go_wp2_with fail;refine cH.mono ?_;rintro e w1 ⟨rfl,u1⟩;go_wp2_with fail
  go_ret
  exact qI rfl u1
 ·go_enter Tryz.func46,Tryz.ntmps46
  go_wp2_with fail;refine cH.mono ?_;rintro e w1 ⟨rfl,u1⟩;go_wp2_with fail;refine(cT w1 u1).mono ?_;rintro e w2 ⟨rfl,u2⟩;go_wp2_with fail
  go_ret
  exact qI (by cases tb<;>rfl) (Up.trans (u1.alloc _) u2)
theorem zK9 (x:Nod) (f:Fr) (w:World) (v:Value) (hk:x.k=29) (hn:Nd1 x f) (hx:B.Nx w) (hv:HasT w v (some (x,f))):Calls Tryz.prog 46 #[v] w (TelB (isT B.nck B.long (x,f) 2) w):=by
 have HE:Hid (isT B.nck B.long (x,f) 2=(texB x B.nck isEmp&&seqK (IF f) [2,2])):=Lib.hid (by show isX _ _ x (IF f) 2=_;rw[zZ hk (by rfl),sR (A:=B.nck) (M:=isEmp) (fun _=>rfl) (fun _=>rfl),jS _ _ (by rfl)];rfl);rw[HE.out];obtain⟨q,p,A,c',rfl,hq,c0,c1,c2,c3,c4,hcc,hkid⟩:=InT.open hv;rw[hk] at c0;have cH:=pU x f w _ hv hn.hs.1;have cT:∀w1,Up w w1→Calls Tryz.prog 103 #[.pointer (some ⟨q,p,none⟩),.slice (some ⟨w1.heap.size,0,none⟩) 2 2] (w1.alloc (.cells #[.func (.func 46) #[] #[],.func (.func 46) #[] #[]] 146)) (TelB (seqK (IF f) [2,2]) (w1.alloc (.cells #[.func (.func 46) #[] #[],.func (.func 46) #[] #[]] 146))):=fun w1 u=>zS [2,2] x f _ _ _ _ (Nx.up hx (u.alloc _)) (hv.up (u.alloc _)) hn.hf (by decide) (jZ (fnsC [2,2]) (heap_alloc_new w1 _)) (yS hn (by decide))
 obtain⟨hb,hhb⟩:∃hb,texB x B.nck isEmp=hb:=⟨_,rfl⟩;obtain⟨tb,htb⟩:∃tb,seqK (IF f) [2,2]=tb:=⟨_,rfl⟩;rw[hhb,htb];rw[hhb] at cH;rw[htb] at cT;clear HE hhb htb hv hk hn hx hq c1 c2 c3 c4 hcc hkid
 cases hb
 ·go_enter Tryz.func46,Tryz.ntmps46
  go_wp2_with fail;refine cH.mono ?_;rintro e w1 ⟨rfl,u1⟩;go_wp2_with fail
  go_ret
  exact qI rfl u1
 ·go_enter Tryz.func46,Tryz.ntmps46
  go_wp2_with fail;refine cH.mono ?_;rintro e w1 ⟨rfl,u1⟩;go_wp2_with fail;refine(cT w1 u1).mono ?_;rintro e w2 ⟨rfl,u2⟩;go_wp2_with fail
  go_ret
  exact qI (by cases tb<;>rfl) (Up.trans (u1.alloc _) u2)
theorem zKa (x:Nod) (f:Fr) (w:World) (v:Value) (hk:x.k=30) (hn:Nd1 x f) (hx:B.Nx w) (hv:HasT w v (some (x,f))):Calls Tryz.prog 46 #[v] w (TelB (isT B.nck B.long (x,f) 2) w):=by
 have HE:Hid (isT B.nck B.long (x,f) 2=(numB x 0 0&&seqK (IF f) [2,2,2])):=Lib.hid (by show isX _ _ x (IF f) 2=_;rw[zZ hk (by rfl),jN,jS _ _ (by rfl)];rfl);rw[HE.out];obtain⟨q,p,A,c',rfl,hq,c0,c1,c2,c3,c4,hcc,hkid⟩:=InT.open hv;rw[hk] at c0;have cH:=yR x f w _ hv;have cT:∀w1,Up w w1→Calls Tryz.prog 103 #[.pointer (some ⟨q,p,none⟩),.slice (some ⟨w1.heap.size,0,none⟩) 3 3] (w1.alloc (.cells #[.func (.func 46) #[] #[],.func (.func 46) #[] #[],.func (.func 46) #[] #[]] 146)) (TelB (seqK (IF f) [2,2,2]) (w1.alloc (.cells #[.func (.func 46) #[] #[],.func (.func 46) #[] #[],.func (.func 46) #[] #[]] 146))):=fun w1 u=>zS [2,2,2] x f _ _ _ _ (Nx.up hx (u.alloc _)) (hv.up (u.alloc _)) hn.hf (by decide) (jZ (fnsC [2,2,2]) (heap_alloc_new w1 _)) (yS hn (by decide))
 obtain⟨hb,hhb⟩:∃hb,numB x 0 0=hb:=⟨_,rfl⟩;obtain⟨tb,htb⟩:∃tb,seqK (IF f) [2,2,2]=tb:=⟨_,rfl⟩;rw[hhb,htb];rw[hhb] at cH;rw[htb] at cT;clear HE hhb htb hv hk hn hx hq c1 c2 c3 c4 hcc hkid
 cases hb
 ·go_enter Tryz.func46,Tryz.ntmps46
  go_wp2_with fail;refine cH.mono ?_;rintro e w1 ⟨rfl,u1⟩;go_wp2_with fail
  go_ret
  exact qI rfl u1
 ·go_enter Tryz.func46,Tryz.ntmps46
  go_wp2_with fail;refine cH.mono ?_;rintro e w1 ⟨rfl,u1⟩;go_wp2_with fail;refine(cT w1 u1).mono ?_;rintro e w2 ⟨rfl,u2⟩;go_wp2_with fail
  go_ret
  exact qI (by cases tb<;>rfl) (Up.trans (u1.alloc _) u2)
theorem zKb (x:Nod) (f:Fr) (w:World) (v:Value) (hk:x.k=31) (hn:Nd1 x f) (hx:B.Nx w) (hv:HasT w v (some (x,f))):Calls Tryz.prog 46 #[v] w (TelB (isT B.nck B.long (x,f) 2) w):=by
 have HE:Hid (isT B.nck B.long (x,f) 2=(numB x 1 5&&seqK (IF f) [2,2])):=Lib.hid (by show isX _ _ x (IF f) 2=_;rw[zZ hk (by rfl),jN,jS _ _ (by rfl)];rfl);rw[HE.out];obtain⟨q,p,A,c',rfl,hq,c0,c1,c2,c3,c4,hcc,hkid⟩:=InT.open hv;rw[hk] at c0;have cH:=xY x f 1 5 w _ hv;have cT:∀w1,Up w w1→Calls Tryz.prog 103 #[.pointer (some ⟨q,p,none⟩),.slice (some ⟨w1.heap.size,0,none⟩) 2 2] (w1.alloc (.cells #[.func (.func 46) #[] #[],.func (.func 46) #[] #[]] 146)) (TelB (seqK (IF f) [2,2]) (w1.alloc (.cells #[.func (.func 46) #[] #[],.func (.func 46) #[] #[]] 146))):=fun w1 u=>zS [2,2] x f _ _ _ _ (Nx.up hx (u.alloc _)) (hv.up (u.alloc _)) hn.hf (by decide) (jZ (fnsC [2,2]) (heap_alloc_new w1 _)) (yS hn (by decide))
 obtain⟨hb,hhb⟩:∃hb,numB x 1 5=hb:=⟨_,rfl⟩;obtain⟨tb,htb⟩:∃tb,seqK (IF f) [2,2]=tb:=⟨_,rfl⟩;rw[hhb,htb];rw[hhb] at cH;rw[htb] at cT;clear HE hhb htb hv hk hn hx hq c1 c2 c3 c4 hcc hkid
 cases hb
 ·go_enter Tryz.func46,Tryz.ntmps46
  go_wp2_with fail;refine cH.mono ?_;rintro e w1 ⟨rfl,u1⟩;go_wp2_with fail
  go_ret
  exact qI rfl u1
 ·go_enter Tryz.func46,Tryz.ntmps46
  go_wp2_with fail;refine cH.mono ?_;rintro e w1 ⟨rfl,u1⟩;go_wp2_with fail;refine(cT w1 u1).mono ?_;rintro e w2 ⟨rfl,u2⟩;go_wp2_with fail
  go_ret
  exact qI (by cases tb<;>rfl) (Up.trans (u1.alloc _) u2)
theorem zKc (x:Nod) (f:Fr) (w:World) (v:Value) (hk:x.k=32) (hn:Nd1 x f) (hx:B.Nx w) (hv:HasT w v (some (x,f))):Calls Tryz.prog 46 #[v] w (TelB (isT B.nck B.long (x,f) 2) w):=by
 have HE:Hid (isT B.nck B.long (x,f) 2=(numB x 0 0&&rowB [2] 1 (fun i=>i.is 9) (IF f))):=Lib.hid (by show isX _ _ x (IF f) 2=_;rw[zZ hk (by rfl),jN,zE2]);rw[HE.out];obtain⟨q,p,A,c',rfl,hq,c0,c1,c2,c3,c4,hcc,hkid⟩:=InT.open hv;rw[hk] at c0;have cH:=yR x f w _ hv;have cT:∀w1,Up w w1→Calls Tryz.prog 108 #[.pointer (some ⟨q,p,none⟩),.int .i64 1,.func (.func 109) #[] #[],.slice (some ⟨w1.heap.size,0,none⟩) 1 1] (w1.alloc (.cells #[.func (.func 46) #[] #[]] 146)) (TelB (rowB [2] 1 (fun i=>i.is 9) (IF f)) (w1.alloc (.cells #[.func (.func 46) #[] #[]] 146))):=fun w1 u=>zNa [2] 1 109 (fun i=>i.is 9) x f _ _ _ _ (fun _ _=>by kernel_rfl) (by omega) (Nx.up hx (u.alloc _)) (hv.up (u.alloc _)) hn.hf (by decide) (zNc [2] (heap_alloc_new w1 _)) (yS hn (by decide)) (fun i t h=>(hn.ih i t h).a9)
 obtain⟨hb,hhb⟩:∃hb,numB x 0 0=hb:=⟨_,rfl⟩;obtain⟨tb,htb⟩:∃tb,rowB [2] 1 (fun i=>i.is 9) (IF f)=tb:=⟨_,rfl⟩;rw[hhb,htb];rw[hhb] at cH;rw[htb] at cT;clear HE hhb htb hv hk hn hx hq c1 c2 c3 c4 hcc hkid
 cases hb
 ·go_enter Tryz.func46,Tryz.ntmps46
  go_wp2_with fail;refine cH.mono ?_;rintro e w1 ⟨rfl,u1⟩;go_wp2_with fail
  go_ret
  exact qI rfl u1
 ·go_enter Tryz.func46,Tryz.ntmps46
  go_wp2_with fail;refine cH.mono ?_;rintro e w1 ⟨rfl,u1⟩;go_wp2_with fail;refine(cT w1 u1).mono ?_;rintro e w2 ⟨rfl,u2⟩;go_wp2_with fail
  go_ret
  exact qI (by cases tb<;>rfl) (Up.trans (u1.alloc _) u2)
theorem zKd (x:Nod) (f:Fr) (w:World) (v:Value) (hk:x.k=33) (hn:Nd1 x f) (hx:B.Nx w) (hv:HasT w v (some (x,f))):Calls Tryz.prog 46 #[v] w (TelB (isT B.nck B.long (x,f) 2) w):=by
 have HE:Hid (isT B.nck B.long (x,f) 2=(numB x 0 0&&rowB [2,1] 1 (fun i=>i.is 9) (IF f))):=Lib.hid (by show isX _ _ x (IF f) 2=_;rw[zZ hk (by rfl),jN,zLz]);rw[HE.out];obtain⟨q,p,A,c',rfl,hq,c0,c1,c2,c3,c4,hcc,hkid⟩:=InT.open hv;rw[hk] at c0;have cH:=yR x f w _ hv;have cT:∀w1,Up w w1→Calls Tryz.prog 108 #[.pointer (some ⟨q,p,none⟩),.int .i64 1,.func (.func 109) #[] #[],.slice (some ⟨w1.heap.size,0,none⟩) 2 2] (w1.alloc (.cells #[.func (.func 46) #[] #[],.func (.func 107) #[] #[]] 146)) (TelB (rowB [2,1] 1 (fun i=>i.is 9) (IF f)) (w1.alloc (.cells #[.func (.func 46) #[] #[],.func (.func 107) #[] #[]] 146))):=fun w1 u=>zNa [2,1] 1 109 (fun i=>i.is 9) x f _ _ _ _ (fun _ _=>by kernel_rfl) (by omega) (Nx.up hx (u.alloc _)) (hv.up (u.alloc _)) hn.hf (by decide) (zNc [2,1] (heap_alloc_new w1 _)) (yS hn (by decide)) (fun i t h=>(hn.ih i t h).a9)
 obtain⟨hb,hhb⟩:∃hb,numB x 0 0=hb:=⟨_,rfl⟩;obtain⟨tb,htb⟩:∃tb,rowB [2,1] 1 (fun i=>i.is 9) (IF f)=tb:=⟨_,rfl⟩;rw[hhb,htb];rw[hhb] at cH;rw[htb] at cT;clear HE hhb htb hv hk hn hx hq c1 c2 c3 c4 hcc hkid
 cases hb
 ·go_enter Tryz.func46,Tryz.ntmps46
  go_wp2_with fail;refine cH.mono ?_;rintro e w1 ⟨rfl,u1⟩;go_wp2_with fail
  go_ret
  exact qI rfl u1
 ·go_enter Tryz.func46,Tryz.ntmps46
  go_wp2_with fail;refine cH.mono ?_;rintro e w1 ⟨rfl,u1⟩;go_wp2_with fail;refine(cT w1 u1).mono ?_;rintro e w2 ⟨rfl,u2⟩;go_wp2_with fail
  go_ret
  exact qI (by cases tb<;>rfl) (Up.trans (u1.alloc _) u2)
theorem zS1:∀r∈RWS,r.cat=2→r.kind∈[(20:Int),(21:Int),(22:Int),(23:Int),(24:Int),(25:Int),(26:Int),(27:Int),(28:Int),(29:Int),(30:Int),(31:Int),(32:Int),(33:Int)]:=by decide
theorem zS2 (x:Nod) (f:Fr) (w:World) (v:Value) (n20:¬x.k=20) (n21:¬x.k=21) (n22:¬x.k=22) (n23:¬x.k=23) (n24:¬x.k=24) (n25:¬x.k=25) (n26:¬x.k=26) (n27:¬x.k=27) (n28:¬x.k=28) (n29:¬x.k=29) (n30:¬x.k=30) (n31:¬x.k=31) (n32:¬x.k=32) (n33:¬x.k=33) (hv:HasT w v (some (x,f))):Calls Tryz.prog 46 #[v] w (TelB (isT B.nck B.long (x,f) 2) w):=by
 have HE:Hid (isT B.nck B.long (x,f) 2=false):=Lib.hid (lG fun r hr hc e=>by have:=zS1 r hr hc;rw[e] at this;simp only[List.mem_cons,List.not_mem_nil,or_false] at this;omega);rw[HE.out];obtain⟨q,p,A,c',rfl,hq,c0,c1,c2,c3,c4,hcc,hkid⟩:=InT.open hv;clear hv HE hq c1 c2 c3 c4 hcc hkid
 go_enter Tryz.func46,Tryz.ntmps46
 go_wp2_with fail
 go_ret
 exact qI rfl (Up.refl _)
theorem zQk (x:Nod) (f:Fr) (hn:Nd1 x f):TelAt 46 (isT B.nck B.long (x,f) 2) (x,f):=fun w v hx hv=>by
 by_cases n20:x.k=20
 ·exact zK2 x f w v n20 hn hx hv
 by_cases n21:x.k=21
 ·exact zK3 x f w v n21 hn hx hv
 by_cases n22:x.k=22
 ·exact zK4 x f w v n22 hn hx hv
 by_cases n23:x.k=23
 ·exact zY8 x f w v n23 hn hx hv
 by_cases n24:x.k=24
 ·exact zK5 x f w v n24 hn hx hv
 by_cases n25:x.k=25
 ·exact zY9 x f w v n25 hn hx hv
 by_cases n26:x.k=26
 ·exact zK6 x f w v n26 hn hx hv
 by_cases n27:x.k=27
 ·exact zK7 x f w v n27 hn hx hv
 by_cases n28:x.k=28
 ·exact zK8 x f w v n28 hn hx hv
 by_cases n29:x.k=29
 ·exact zK9 x f w v n29 hn hx hv
 by_cases n30:x.k=30
 ·exact zKa x f w v n30 hn hx hv
 by_cases n31:x.k=31
 ·exact zKb x f w v n31 hn hx hv
 by_cases n32:x.k=32
 ·exact zKc x f w v n32 hn hx hv
 by_cases n33:x.k=33
 ·exact zKd x f w v n33 hn hx hv
 exact zS2 x f w v n20 n21 n22 n23 n24 n25 n26 n27 n28 n29 n30 n31 n32 n33 hv
theorem zQl:∀(n:Nat) (t:Tr),szT t≤n→n≤60000→okST t→Good t∧Nd1 t.1 t.2
 | 0,t,h,_,_=>absurd h (by unfold szT;omega)
 | n+1,(x,f),h,hb,hs=>by
  have h1:szT (x,f)=1+f.sz:=rfl;have h2:=Fr.len_le f;have hn:Nd1 x f:=⟨hs,by omega,fun i t hi=>(zQl n t (by have:=Fr.get_sz hi;omega) (by omega) (fC hs.2.2 hi)).1⟩;exact⟨⟨zQj x f hn,zQk x f hn,dS x f hn,hn.hf,fun j s hj=>(hn.ih j s hj).a1⟩,hn⟩
theorem zNd:(Tryz.prog.info? 3).map (fun i=>(i.zero,i.size,i.bytes))=some (some (.int .i64 0),1,8):=by kernel_rfl
noncomputable def opR (cs:List Cel):Option Tr×Int:=
 if cs.length=0 then (none,1) else if 8192<cs.length then (none,3) else @ite _ (okK cs∧okC cs) (Classical.propDecidable _) (some (gr cs cs.length (cs.length-1)),0) (none,16)
theorem zQm {cs:List Cel} (h:cs.length=0):opR cs=(none,1):=by unfold opR;rw[if_pos h]
theorem zNe {cs:List Cel} (h:8192<cs.length):opR cs=(none,3):=by unfold opR;rw[if_neg (by omega),if_pos h]
theorem zQn {cs:List Cel} (h0:cs.length≠0) (h1:¬8192<cs.length) (h:¬(okK cs∧okC cs)):opR cs=(none,16):=by unfold opR;rw[if_neg h0,if_neg h1,if_neg h]
theorem zWv {cs:List Cel} (h0:cs.length≠0) (h1:¬8192<cs.length) (h:okK cs∧okC cs):opR cs=(some (gr cs cs.length (cs.length-1)),0):=by unfold opR;rw[if_neg h0,if_neg h1,if_pos h]
theorem fQ {S:Nat→Prop} {r:Option Tr×Int} {o:Option Tr} {y:Int} {W w':World} {v:Value} (hr:r=(o,y)) (h:InO w' (Sin S W w') v o) (hb:Below W.heap.size W w'):sU S r.1 r.2 W (.returned (.tuple #[v,.int .i64 y])) w':=by subst hr;exact⟨v,rfl,h,hb⟩
def cnK (cs:List Cel) (i k:Nat) (j:Nat):Nat:=(zJ (cs.take i)).count (j:Int)+((cel cs i).ks.take k).count (j:Int)
theorem uU (cs:List Cel) (i j:Nat):cnK cs i 0 j=(zJ (cs.take i)).count (j:Int):=by unfold cnK;simp
theorem zS3 {cs:List Cel} {i k:Nat} {m:Nat} (h:(cel cs i).ks[k]? = some (m:Int)) (j:Nat):cnK cs i (k+1) j=if j=m then cnK cs i k j+1 else cnK cs i k j:=by
 unfold cnK;rw[List.take_add_one,h,List.count_append]
 by_cases e:j=m
 ·subst e;rw[if_pos rfl];simp;omega
 ·rw[if_neg e]
  have:([((m:Nat):Int)]:List Int).count (j:Int)=0:=by
   rw[List.count_eq_zero];simp;omega
  simp only[Option.toList_some,this,Nat.add_zero]
theorem zNf {cs:List Cel} {i:Nat} (h:i<cs.length) (j:Nat):cnK cs i (cel cs i).ks.length j=(zJ (cs.take (i+1))).count (j:Int):=by
 unfold cnK;rw[List.take_length,xG (jO h),List.count_append]
theorem zKe (b n c:Nat) (f:Nat→Int) (w:World) (hn:n≤1000000) (hc:∀j,j<n→w.cell? ⟨b,j,none⟩=some (.int .i64 (f j))) (z:Bool) (hz:z=true↔∃j,j<n∧f j=0) :
  Calls Tryz.prog 147 #[.slice (some ⟨b,0,none⟩) n c,.int .i64 0] w fun e w'=>(∃m:Int,e = .returned (.int .i64 m)∧decide (0≤m)=z)∧w=w':=by
 have HC:=Lib.hid hc;have HZ:=Lib.hid hz;clear hc hz
 go_enter Tryz.func147,Tryz.ntmps147
 go_wp2_with fail
 go_loop [5,8] (fun _ i=>∃k:Nat,i = .int .i64 k∧k≤n∧∀j,j<k→f j≠0) (fun _ i=>n-(intOf i).toNat)
 case atStart=>exact⟨0,rfl,Nat.zero_le _,fun j h=>absurd h (Nat.not_lt_zero _)⟩
 case round=>
  obtain⟨k,rfl,hk,hno⟩:=hrel;have HNO:=Lib.hid hno;clear hno
  by_cases hlt:k<n
  ·have hkz:(k:Int)<(n:Int):=by omega
   have hcell:=HC.out k hlt
   by_cases h0:f k=0
   ·have HE:Hid (z=true):=Lib.hid (HZ.out.2 ⟨k,hlt,h0⟩)
    have e1:((0:Int)==f k)=true:=by rw[h0];rfl
    rw[h0] at hcell;clear h0 e1;go_wp2_with fail
    go_ret
    exact⟨⟨_,rfl,by rw[HE.out];simp⟩,rfl⟩
   ·have e1:((0:Int)==f k)=false:=by rw[beq_eq_false_iff_ne];exact fun e=>h0 e.symm
    obtain⟨y,hy⟩:∃y,f k=y:=⟨_,rfl⟩;rw[hy] at e1 hcell;have HY:Hid (f k≠0):=Lib.hid h0;clear hy h0;go_wp2_with fail
    go_round
    case rel=>exact⟨k+1,by go_num,by omega,fun j hj=>by
     rcases Nat.lt_or_ge j k with h | h
     ·exact HNO.out j h
     ·have:j=k:=by omega
      rw[this];exact HY.out⟩
    case measure=>simp[intOf];omega
  ·have hkz:¬(k:Int)<(n:Int):=by omega
   have HE:Hid (z=false):=Lib.hid (by
    cases z with
    | false=>rfl
    | true=>
     obtain⟨j,hj,h⟩:=HZ.out.1 rfl;exact absurd h (HNO.out j (by omega)))
   go_wp2_with fail
   go_ret
   exact⟨⟨_,rfl,by rw[HE.out];rfl⟩,rfl⟩
theorem zWw (b n c:Nat) (f:Nat→Int) (w:World) (hn:n≤1000000) (hc:∀j,j<n→w.cell? ⟨b,j,none⟩=some (.int .i64 (f j))) (z:Bool) (hz:z=true↔∃j,j<n∧f j=0) :
  Calls Tryz.prog 87 #[.slice (some ⟨b,0,none⟩) n c,.int .i64 0] w fun e w'=>e = .returned (.bool z)∧w=w':=by
 have cI:=zKe b n c f w hn hc z hz;clear hc hz
 go_enter Tryz.func87,Tryz.ntmps87
 go_wp2_with fail;refine cI.mono ?_;rintro e w1 ⟨⟨m,rfl,hm⟩,rfl⟩;have HM:=Lib.hid hm;clear hm;go_wp2_with fail
 go_ret
 exact⟨kN HM.out.symm,rfl⟩
theorem yZ2 {cs:List Cel} {i K:Nat} (h:i<cs.length) (j:Nat):cnK cs i K j≤(zJ cs).count (j:Int):=by
 have e:zJ cs=zJ (cs.take i)++((cel cs i).ks.take K++((cel cs i).ks.drop K++zJ (cs.drop (i+1)))):=by
  rw[←List.append_assoc ((cel cs i).ks.take K),List.take_append_drop,←List.append_assoc,←xG (jO h)];unfold zJ;rw[←List.flatMap_append,List.take_append_drop]
 rw[e];simp only[List.count_append];unfold cnK;omega
def zEa (b:Bool) (w:World) (e:Ending) (w':World):Prop:=e = .returned (.bool b)∧Below w.heap.size w w'
theorem zWx {a b:Bool} {w w':World} (h:b=a) (hb:Below w.heap.size w w'):zEa b w (.returned (.bool a)) w':=⟨by rw[h],hb⟩
theorem zKf (cs:List Cel) (w:World) (cv:Value) (hcl:Cls w w.heap.size cv cs) (hkl:∀(j:Nat) (c:Cel),cs[j]? = some c→c.ks.length≤1000000) (h0:0<cs.length) (hlen:cs.length≤8192) (b:Bool) (hb:b=true↔okK cs∧okC cs) :
  Calls Tryz.prog 40 #[cv] w (zEa b w):=by
 have HCL:=Lib.hid hcl;have HKL:=Lib.hid hkl;have HBB:=Lib.hid hb;obtain⟨A,c,rfl,hc,hcell⟩:=hcl;have HCELL:=Lib.hid hcell;obtain⟨N,hN⟩:∃N,cs.length=N:=⟨_,rfl⟩;rw[hN] at hc hlen h0 ⊢;have HNN:=Lib.hid hN;have hmk:=@run_make_row' Tryz.prog 76 3 (.int .i64 0) 8 Tryz.underlying76 zNd rfl .i64 .i64 N (by omega) (by omega);obtain⟨H,hH⟩:∃H,w.heap.size=H:=⟨_,rfl⟩;have hrow0:(w.alloc (.cells (madeCells #[.int .i64 0] N) 3)).rowIs H 3 N (fun _=>.int .i64 0):=by rw[←hH];exact World.rowIs_made _ _ _ _
 have hb0:Below H w (w.alloc (.cells (madeCells #[.int .i64 0] N) 3)):=(Below.refl H w).alloc (by omega) _;have HH:=Lib.hid hH;have HROW0:=Lib.hid hrow0;have HB0:=Lib.hid hb0;clear hcell hkl hb hN hH hrow0 hb0
 go_enter Tryz.func40,Tryz.ntmps40
 go_wp2_with fail;rw[HH.out];clear hmk
 go_loopw [4,5,7,13] (fun _ _ _ i wr=>∃I:Nat,I≤N∧i = .int .i64 I∧(∀(i':Nat) (c:Cel),i'<I→cs[i']? = some c→∀x∈c.ks,0≤x∧x<(i':Int))∧wr.rowIs H 3 N (fun j=>.int .i64 (((zJ (cs.take I)).count (j:Int):Nat):Int))∧(∀j:Nat,(zJ (cs.take I)).count (j:Int)≤1)∧Below H w wr) (fun _ _ _ i _=>N-(intOf i).toNat)
 case atStart=>exact⟨0,Nat.zero_le _,rfl,fun i' c h=>absurd h (Nat.not_lt_zero _),HROW0.out.congr fun _ _=>by simp[zJ],by simp[zJ],HB0.out⟩
 case round=>
  rename World=>wa
  obtain⟨I,hI,rfl,hok,hrow,hone,hbw⟩:=hrel;have hHa:H<wa.heap.size:=by
   have:=hrow.cell (i:=0) h0;exact yL this
  have HOK:=Lib.hid hok;have HROW:=Lib.hid hrow;have HONE:=Lib.hid hone;have HBW:=Lib.hid hbw;clear hok hrow hone
  by_cases hlt:I<N
  ·have hIz:(I:Int)<(N:Int):=by omega
   have hci:=jO (cs:=cs) (i:=I) (by rw[HNN.out];exact hlt);obtain⟨b2,o,hA,hbb,g0',g1',g2',g3',kv,g4',hkv⟩:=HCELL.out I _ hci;subst hA;rw[HH.out] at hbb;obtain⟨KA,kc,rfl,hkc,hkcl⟩:=hkv;have hml:=HKL.out I _ hci;obtain⟨M,hM⟩:∃M,(cel cs I).ks.length=M:=⟨_,rfl⟩;rw[hM] at hkc g4' hml;have g0:=(hbw.cell (p:=⟨b2,o+I*5,none⟩) hbb).trans g0';have g1:=(hbw.cell (p:=⟨b2,o+I*5+1,none⟩) hbb).trans g1';have g2:=(hbw.cell (p:=⟨b2,o+I*5+2,none⟩) hbb).trans g2';have g3:=(hbw.cell (p:=⟨b2,o+I*5+3,none⟩) hbb).trans g3';have g4:=(hbw.cell (p:=⟨b2,o+I*5+4,none⟩) hbb).trans g4';obtain⟨XK,hXK⟩:∃XK,(cel cs I).x.k=XK:=⟨_,rfl⟩;obtain⟨XN,hXN⟩:∃XN,(cel cs I).x.n=XN:=⟨_,rfl⟩;obtain⟨XA,hXA⟩:∃XA,(cel cs I).x.a=XA:=⟨_,rfl⟩;obtain⟨XM,hXM⟩:∃XM,(cel cs I).x.m=XM:=⟨_,rfl⟩;rw[hXK] at g0;rw[hXN] at g1;rw[hXA] at g2;rw[hXM] at g3;have HMM:=Lib.hid hM;have HCI:=Lib.hid hci;have HKC:=Lib.hid hkcl;clear hci hkcl hM g0' g1' g2' g3' g4' hbw hXK hXN hXA hXM;go_wp2_with fail;have hb1:Below wa.heap.size wa (wa.alloc (.cells #[.int .i64 XK,.int .i64 XN,.string XA,.string XM,.slice KA M kc] 78)):=(Below.refl _ _).alloc (Nat.le_refl _) _
   have hrow1:(wa.alloc (.cells #[.int .i64 XK,.int .i64 XN,.string XA,.string XM,.slice KA M kc] 78)).rowIs H 3 N (fun j=>.int .i64 ((cnK cs I 0 j:Nat):Int)):=(HROW.out.alloc _).congr fun _ _=>by rw[uU]
   have HROW1:=Lib.hid hrow1;have HB1:=Lib.hid (HBW.out.trans (hb1.mono (by omega)));clear hb1 hrow1
   go_loopw [7,21] (fun _ k w2=>∃K:Nat,K≤M∧k = .int .i64 K∧(∀(j:Nat) (x:Int),j<K→(cel cs I).ks[j]? = some x→0≤x∧x<(I:Int))∧w2.rowIs H 3 N (fun j=>.int .i64 ((cnK cs I K j:Nat):Int))∧(∀j:Nat,cnK cs I K j≤1)∧Below H w w2) (fun _ k _=>M-(intOf k).toNat)
   case atStart=>exact⟨0,Nat.zero_le _,rfl,fun j x h=>absurd h (Nat.not_lt_zero _),HROW1.out,fun j=>by rw[uU];exact HONE.out j,HB1.out⟩
   case round=>
    obtain⟨K,hK,rfl,hkok,hrow2,hone2,hbw2⟩:=hrel;have HKOK:=Lib.hid hkok;have HROW2:=Lib.hid hrow2;have HONE2:=Lib.hid hone2;have HBW2:=Lib.hid hbw2;clear hkok hrow2 hone2
    by_cases hlt2:K<M
    ·obtain⟨x,hx⟩:∃x,(cel cs I).ks[K]? = some x:=⟨_,List.getElem?_eq_getElem (by rw[HMM.out];exact hlt2)⟩
     obtain⟨kb,ko,hKA,hkb,hxc⟩:=HKC.out K x hx;subst hKA;rw[HH.out] at hkb;have hkz:(K:Int)<(M:Int):=by omega
     have hxr:=(hbw2.cell (p:=⟨kb,ko+K,none⟩) hkb).trans hxc;have HX:=Lib.hid hx;have HBADK:Hid (¬(0≤x∧x<(I:Int))→b=false):=Lib.hid fun hn=>yM HBB.out fun h=>hn (h.1 I _ HCI.out x (List.mem_of_getElem? HX.out))
     clear hx hxc hbw2
     by_cases hneg:x<0
     ·have HU:=Lib.hid (HBADK.out (by omega))
      have e1:decide (x<0)=true:=by simpa using hneg
      go_wp2_with fail
      go_ret
      exact zWx HU.out (by rw[HH.out];exact HBW2.out)
     ·obtain⟨m,rfl⟩:∃m:Nat,x=(m:Int):=⟨x.toNat,by omega⟩
      have e1:decide ((m:Int)<0)=false:=by simp
      by_cases hge:I≤m
      ·have HU:=Lib.hid (HBADK.out (by omega))
       have hgez:(I:Int)≤(m:Int):=by omega
       have e2:decide ((I:Int)≤(m:Int))=true:=by simpa using hge
       go_wp2_with fail
       go_ret
       exact zWx HU.out (by rw[HH.out];exact HBW2.out)
      ·have hgez:¬(I:Int)≤(m:Int):=by omega
       have e2:decide ((I:Int)≤(m:Int))=false:=by simp;omega
       have hmN:(m:Int)<(N:Int):=by omega
       have hcm:=HROW2.out.cell (i:=m) (by omega);have hfm:=HROW2.out.frozen m;have hc1:=HONE2.out m;have HNX:=Lib.hid (zS3 (cs:=cs) (i:=I) HX.out);obtain⟨cc,hcc⟩:∃cc,cnK cs I K m=cc:=⟨_,rfl⟩;rw[hcc] at hc1 hcm
       by_cases hc0:0<cc
       ·have e3:decide (0<(cc:Int))=true:=by simp;omega
        have HU:Hid (b=false):=Lib.hid (yM HBB.out fun h=>by
         have h1:=h.2 m (by rw[HNN.out];omega);have h2:=yZ2 (cs:=cs) (i:=I) (K:=K+1) (by rw[HNN.out];exact hlt) m;rw[HNX.out,if_pos rfl] at h2
         omega)
        have hcz:(0:Int)<(cc:Int):=by omega
        clear hcc;go_wp2_with fail
        go_ret
        exact zWx HU.out (by rw[HH.out];exact HBW2.out)
       ·obtain rfl:cc=0:=by omega
        have HCC:=Lib.hid hcc;clear hcc hc0 hc1;go_wp2_with fail
        go_roundw
        case rel=>
         exact⟨K+1,by omega,by go_num,fun j y hj hy=>by
          rcases Nat.lt_or_ge j K with h | h
          ·exact HKOK.out j y h hy
          ·have:j=K:=by omega
           subst this;rw[HX.out] at hy;injection hy with hy;rw[←hy]
           omega,(HROW2.out.set m (.int .i64 1)).congr fun j _=>by
           rw[HNX.out]
           by_cases e:j=m
           ·rw[if_pos e,if_pos e,e,HCC.out];rfl
           ·rw[if_neg e,if_neg e],fun j=>by
           rw[HNX.out]
           by_cases e:j=m
           ·rw[if_pos e,e,HCC.out];omega
           ·rw[if_neg e];exact HONE2.out j,HBW2.out.setCell (Nat.le_refl _) _⟩
        case measure=>simp[intOf];omega
    ·have hKM:K=M:=by omega
     have hkz:¬(K:Int)<(M:Int):=by omega
     have HEND:=Lib.hid (fun j=>zNf (cs:=cs) (i:=I) (by rw[HNN.out];exact hlt) j);have HKM:=Lib.hid hKM;clear hKM hbw2;go_wp2_with fail
     go_roundw
     case rel=>
      exact⟨I+1,by omega,by go_num,fun i' c hi' hc' y hy=>by
       rcases Nat.lt_or_ge i' I with h | h
       ·exact HOK.out i' c h hc' y hy
       ·have:i'=I:=by omega
        subst this;rw[HCI.out] at hc';injection hc' with hc';rw[←hc'] at hy;obtain⟨j,hj,rfl⟩:=List.getElem_of_mem hy;exact HKOK.out j _ (by rw[HKM.out,←HMM.out];exact hj) (List.getElem?_eq_getElem hj),HROW2.out.congr fun j _=>by rw[HKM.out,←HMM.out,HEND.out],fun j=>by rw[←HEND.out,HMM.out,←HKM.out];exact HONE2.out j,HBW2.out⟩
     case measure=>simp[intOf];omega
  ·have hIN:I=N:=by omega
   subst hIN;have hIz:¬(I:Int)<(I:Int):=by omega
   have hokK:okK cs:=fun i' c hc' y hy=>HOK.out i' c (by have:=(List.getElem?_eq_some_iff.1 hc').1;rw[HNN.out] at this;exact this) hc' y hy
   have hrowN:=HROW.out;have honeN:=HONE.out;rw[show cs.take I=cs from List.take_of_length_le (by rw[HNN.out];exact Nat.le_refl _)] at hrowN honeN;obtain⟨z,hz⟩:=zOy (∃j,j<I-1∧(fun j:Nat=>(((zJ cs).count (j:Int):Nat):Int)) j=0);have cC:=zWw H (I-1) I (fun j:Nat=>(((zJ cs).count (j:Int):Nat):Int)) wa (by omega) (fun j hj=>hrowN.cell (by omega)) z hz;have HE:Hid (b = !z):=Lib.hid (by
    cases z with
    | true=>
     obtain⟨j,hj,h⟩:=hz.1 rfl;refine yM HBB.out fun hb=>?_
     have:=hb.2 j (by rw[HNN.out];omega);simp only at h;omega
    | false=>
     refine HBB.out.2 ⟨hokK,fun j hj=>?_⟩;rw[HNN.out] at hj;have h1:=honeN j
     rcases Nat.eq_zero_or_pos ((zJ cs).count (j:Int)) with h | h
     ·have:=hz.2 ⟨j,by omega,by simp only;omega⟩
      cases this
     ·omega)
   have hsub:((I-1:Nat):Int)=(I:Int)-1:=by omega
   have hI1:(0:Int)≤(I:Int)-1∧(I:Int)-1≤(I:Int):=by omega
   have htn:((I:Int)-1).toNat=I-1:=by omega
   clear hokK hrowN honeN hz hbw;go_wp2_with fail;refine cC.mono ?_;rintro e w1 ⟨rfl,rfl⟩;go_wp2_with fail
   go_ret
   exact zWx HE.out (by rw[HH.out];exact HBW.out)
end Go.Proofs.YtbpijnalmakfaaaGreatDoor
