/-
  Layer 5, the program's isType, isExpr: what they tell of a node, Kind by Kind (written by gsh.py).
-/
import Derived.Test.YtbpijnalmakfaaaGreatDoorGs21
set_option maxHeartbeats 40000000
set_option maxRecDepth 100000
namespace Go.Proofs.YtbpijnalmakfaaaGreatDoor
open Go.RowKit
theorem zGd (x:Nod) (f:Fr) (w:World) (v:Value) (hk:x.k=1) (hn:Nd1 x f) (hx:B.Nx w) (hv:HasT w v (some (x,f))):Calls Tryz.prog 107 #[v] w (TelB (isT B.nck B.long (x,f) 1) w):=by
 have HE:Hid (isT B.nck B.long (x,f) 1=(numB x 0 0&&seqK (IF f) [])):=Lib.hid (by show isX _ _ x (IF f) 1=_;rw[yB hk (by rfl),jR,jY _ _ (by rfl)];rfl);rw[HE.out];obtain⟨q,p,A,c',rfl,hq,c0,c1,c2,c3,c4,hcc,hkid⟩:=InT.open hv;rw[hk] at c0;have cH:=yV x f w _ hv;have cT:∀w1,Up w w1→Calls Tryz.prog 103 #[.pointer (some ⟨q,p,none⟩),.slice none 0 0] w1 (TelB (seqK (IF f) []) w1):=fun w1 u=>zW [] x f w1 _ none 0 (Nx.up hx u) (hv.up u) hn.hf (by decide) (fun _ _ _ h=>by cases h) (fun _ _ _ _ h=>by cases h)
 obtain⟨hb,hhb⟩:∃hb,numB x 0 0=hb:=⟨_,rfl⟩;obtain⟨tb,htb⟩:∃tb,seqK (IF f) []=tb:=⟨_,rfl⟩;rw[hhb,htb];rw[hhb] at cH;rw[htb] at cT;clear HE hhb htb hv hk hn hx hq c1 c2 c3 c4 hcc hkid
 cases hb
 ·go_enter Tryz.func107,Tryz.ntmps107
  go_wp2_with fail;refine cH.mono ?_;rintro e w1 ⟨rfl,u1⟩;go_wp2_with fail
  go_ret
  exact qI rfl u1
 ·go_enter Tryz.func107,Tryz.ntmps107
  go_wp2_with fail;refine cH.mono ?_;rintro e w1 ⟨rfl,u1⟩;go_wp2_with fail;refine(cT w1 u1).mono ?_;rintro e w2 ⟨rfl,u2⟩;go_wp2_with fail
  go_ret
  exact qI (by cases tb<;>rfl) (Up.trans (u1) u2)
theorem zGe (x:Nod) (f:Fr) (w:World) (v:Value) (hk:x.k=2) (hn:Nd1 x f) (hx:B.Nx w) (hv:HasT w v (some (x,f))):Calls Tryz.prog 107 #[v] w (TelB (isT B.nck B.long (x,f) 1) w):=by
 have HE:Hid (isT B.nck B.long (x,f) 1=(numB x 0 0&&seqK (IF f) [])):=Lib.hid (by show isX _ _ x (IF f) 1=_;rw[yB hk (by rfl),jR,jY _ _ (by rfl)];rfl);rw[HE.out];obtain⟨q,p,A,c',rfl,hq,c0,c1,c2,c3,c4,hcc,hkid⟩:=InT.open hv;rw[hk] at c0;have cH:=yV x f w _ hv;have cT:∀w1,Up w w1→Calls Tryz.prog 103 #[.pointer (some ⟨q,p,none⟩),.slice none 0 0] w1 (TelB (seqK (IF f) []) w1):=fun w1 u=>zW [] x f w1 _ none 0 (Nx.up hx u) (hv.up u) hn.hf (by decide) (fun _ _ _ h=>by cases h) (fun _ _ _ _ h=>by cases h)
 obtain⟨hb,hhb⟩:∃hb,numB x 0 0=hb:=⟨_,rfl⟩;obtain⟨tb,htb⟩:∃tb,seqK (IF f) []=tb:=⟨_,rfl⟩;rw[hhb,htb];rw[hhb] at cH;rw[htb] at cT;clear HE hhb htb hv hk hn hx hq c1 c2 c3 c4 hcc hkid
 cases hb
 ·go_enter Tryz.func107,Tryz.ntmps107
  go_wp2_with fail;refine cH.mono ?_;rintro e w1 ⟨rfl,u1⟩;go_wp2_with fail
  go_ret
  exact qI rfl u1
 ·go_enter Tryz.func107,Tryz.ntmps107
  go_wp2_with fail;refine cH.mono ?_;rintro e w1 ⟨rfl,u1⟩;go_wp2_with fail;refine(cT w1 u1).mono ?_;rintro e w2 ⟨rfl,u2⟩;go_wp2_with fail
  go_ret
  exact qI (by cases tb<;>rfl) (Up.trans (u1) u2)
theorem zGf (x:Nod) (f:Fr) (w:World) (v:Value) (hk:x.k=3) (hn:Nd1 x f) (hx:B.Nx w) (hv:HasT w v (some (x,f))):Calls Tryz.prog 107 #[v] w (TelB (isT B.nck B.long (x,f) 1) w):=by
 have HE:Hid (isT B.nck B.long (x,f) 1=(numB x 0 0&&seqK (IF f) [])):=Lib.hid (by show isX _ _ x (IF f) 1=_;rw[yB hk (by rfl),jR,jY _ _ (by rfl)];rfl);rw[HE.out];obtain⟨q,p,A,c',rfl,hq,c0,c1,c2,c3,c4,hcc,hkid⟩:=InT.open hv;rw[hk] at c0;have cH:=yV x f w _ hv;have cT:∀w1,Up w w1→Calls Tryz.prog 103 #[.pointer (some ⟨q,p,none⟩),.slice none 0 0] w1 (TelB (seqK (IF f) []) w1):=fun w1 u=>zW [] x f w1 _ none 0 (Nx.up hx u) (hv.up u) hn.hf (by decide) (fun _ _ _ h=>by cases h) (fun _ _ _ _ h=>by cases h)
 obtain⟨hb,hhb⟩:∃hb,numB x 0 0=hb:=⟨_,rfl⟩;obtain⟨tb,htb⟩:∃tb,seqK (IF f) []=tb:=⟨_,rfl⟩;rw[hhb,htb];rw[hhb] at cH;rw[htb] at cT;clear HE hhb htb hv hk hn hx hq c1 c2 c3 c4 hcc hkid
 cases hb
 ·go_enter Tryz.func107,Tryz.ntmps107
  go_wp2_with fail;refine cH.mono ?_;rintro e w1 ⟨rfl,u1⟩;go_wp2_with fail
  go_ret
  exact qI rfl u1
 ·go_enter Tryz.func107,Tryz.ntmps107
  go_wp2_with fail;refine cH.mono ?_;rintro e w1 ⟨rfl,u1⟩;go_wp2_with fail;refine(cT w1 u1).mono ?_;rintro e w2 ⟨rfl,u2⟩;go_wp2_with fail
  go_ret
  exact qI (by cases tb<;>rfl) (Up.trans (u1) u2)
theorem zGg (x:Nod) (f:Fr) (w:World) (v:Value) (hk:x.k=4) (hn:Nd1 x f) (hx:B.Nx w) (hv:HasT w v (some (x,f))):Calls Tryz.prog 107 #[v] w (TelB (isT B.nck B.long (x,f) 1) w):=by
 have HE:Hid (isT B.nck B.long (x,f) 1=(texB x B.long isEmp&&seqK (IF f) [])):=Lib.hid (by show isX _ _ x (IF f) 1=_;rw[yB hk (by rfl),sJ (A:=B.long) (M:=isEmp) (fun _=>rfl) (fun _=>rfl),jY _ _ (by rfl)];rfl);rw[HE.out];obtain⟨q,p,A,c',rfl,hq,c0,c1,c2,c3,c4,hcc,hkid⟩:=InT.open hv;rw[hk] at c0;have cH:=zZh x f w _ hv hn.hs.1 hx;have cT:∀w1,Up w w1→Calls Tryz.prog 103 #[.pointer (some ⟨q,p,none⟩),.slice none 0 0] w1 (TelB (seqK (IF f) []) w1):=fun w1 u=>zW [] x f w1 _ none 0 (Nx.up hx u) (hv.up u) hn.hf (by decide) (fun _ _ _ h=>by cases h) (fun _ _ _ _ h=>by cases h)
 obtain⟨hb,hhb⟩:∃hb,texB x B.long isEmp=hb:=⟨_,rfl⟩;obtain⟨tb,htb⟩:∃tb,seqK (IF f) []=tb:=⟨_,rfl⟩;rw[hhb,htb];rw[hhb] at cH;rw[htb] at cT;clear HE hhb htb hv hk hn hx hq c1 c2 c3 c4 hcc hkid
 cases hb
 ·go_enter Tryz.func107,Tryz.ntmps107
  go_wp2_with fail;refine cH.mono ?_;rintro e w1 ⟨rfl,u1⟩;go_wp2_with fail
  go_ret
  exact qI rfl u1
 ·go_enter Tryz.func107,Tryz.ntmps107
  go_wp2_with fail;refine cH.mono ?_;rintro e w1 ⟨rfl,u1⟩;go_wp2_with fail;refine(cT w1 u1).mono ?_;rintro e w2 ⟨rfl,u2⟩;go_wp2_with fail
  go_ret
  exact qI (by cases tb<;>rfl) (Up.trans (u1) u2)
theorem zGh (x:Nod) (f:Fr) (w:World) (v:Value) (hk:x.k=5) (hn:Nd1 x f) (hx:B.Nx w) (hv:HasT w v (some (x,f))):Calls Tryz.prog 107 #[v] w (TelB (isT B.nck B.long (x,f) 1) w):=by
 have HE:Hid (isT B.nck B.long (x,f) 1=(numB x 0 0&&seqK (IF f) [1,1])):=Lib.hid (by show isX _ _ x (IF f) 1=_;rw[yB hk (by rfl),jR,jY _ _ (by rfl)];rfl);rw[HE.out];obtain⟨q,p,A,c',rfl,hq,c0,c1,c2,c3,c4,hcc,hkid⟩:=InT.open hv;rw[hk] at c0;have cH:=yV x f w _ hv;have cT:∀w1,Up w w1→Calls Tryz.prog 103 #[.pointer (some ⟨q,p,none⟩),.slice (some ⟨w1.heap.size,0,none⟩) 2 2] (w1.alloc (.cells #[.func (.func 107) #[] #[],.func (.func 107) #[] #[]] 146)) (TelB (seqK (IF f) [1,1]) (w1.alloc (.cells #[.func (.func 107) #[] #[],.func (.func 107) #[] #[]] 146))):=fun w1 u=>zW [1,1] x f _ _ _ _ (Nx.up hx (u.alloc _)) (hv.up (u.alloc _)) hn.hf (by decide) (xF (fnsC [1,1]) (heap_alloc_new w1 _)) (yW hn (by decide))
 obtain⟨hb,hhb⟩:∃hb,numB x 0 0=hb:=⟨_,rfl⟩;obtain⟨tb,htb⟩:∃tb,seqK (IF f) [1,1]=tb:=⟨_,rfl⟩;rw[hhb,htb];rw[hhb] at cH;rw[htb] at cT;clear HE hhb htb hv hk hn hx hq c1 c2 c3 c4 hcc hkid
 cases hb
 ·go_enter Tryz.func107,Tryz.ntmps107
  go_wp2_with fail;refine cH.mono ?_;rintro e w1 ⟨rfl,u1⟩;go_wp2_with fail
  go_ret
  exact qI rfl u1
 ·go_enter Tryz.func107,Tryz.ntmps107
  go_wp2_with fail;refine cH.mono ?_;rintro e w1 ⟨rfl,u1⟩;go_wp2_with fail;refine(cT w1 u1).mono ?_;rintro e w2 ⟨rfl,u2⟩;go_wp2_with fail
  go_ret
  exact qI (by cases tb<;>rfl) (Up.trans (u1.alloc _) u2)
theorem zGi (x:Nod) (f:Fr) (w:World) (v:Value) (hk:x.k=6) (hn:Nd1 x f) (hx:B.Nx w) (hv:HasT w v (some (x,f))):Calls Tryz.prog 107 #[v] w (TelB (isT B.nck B.long (x,f) 1) w):=by
 have HE:Hid (isT B.nck B.long (x,f) 1=(numB x 0 0&&seqK (IF f) [1,1])):=Lib.hid (by show isX _ _ x (IF f) 1=_;rw[yB hk (by rfl),jR,jY _ _ (by rfl)];rfl);rw[HE.out];obtain⟨q,p,A,c',rfl,hq,c0,c1,c2,c3,c4,hcc,hkid⟩:=InT.open hv;rw[hk] at c0;have cH:=yV x f w _ hv;have cT:∀w1,Up w w1→Calls Tryz.prog 103 #[.pointer (some ⟨q,p,none⟩),.slice (some ⟨w1.heap.size,0,none⟩) 2 2] (w1.alloc (.cells #[.func (.func 107) #[] #[],.func (.func 107) #[] #[]] 146)) (TelB (seqK (IF f) [1,1]) (w1.alloc (.cells #[.func (.func 107) #[] #[],.func (.func 107) #[] #[]] 146))):=fun w1 u=>zW [1,1] x f _ _ _ _ (Nx.up hx (u.alloc _)) (hv.up (u.alloc _)) hn.hf (by decide) (xF (fnsC [1,1]) (heap_alloc_new w1 _)) (yW hn (by decide))
 obtain⟨hb,hhb⟩:∃hb,numB x 0 0=hb:=⟨_,rfl⟩;obtain⟨tb,htb⟩:∃tb,seqK (IF f) [1,1]=tb:=⟨_,rfl⟩;rw[hhb,htb];rw[hhb] at cH;rw[htb] at cT;clear HE hhb htb hv hk hn hx hq c1 c2 c3 c4 hcc hkid
 cases hb
 ·go_enter Tryz.func107,Tryz.ntmps107
  go_wp2_with fail;refine cH.mono ?_;rintro e w1 ⟨rfl,u1⟩;go_wp2_with fail
  go_ret
  exact qI rfl u1
 ·go_enter Tryz.func107,Tryz.ntmps107
  go_wp2_with fail;refine cH.mono ?_;rintro e w1 ⟨rfl,u1⟩;go_wp2_with fail;refine(cT w1 u1).mono ?_;rintro e w2 ⟨rfl,u2⟩;go_wp2_with fail
  go_ret
  exact qI (by cases tb<;>rfl) (Up.trans (u1.alloc _) u2)
theorem zGj (x:Nod) (f:Fr) (w:World) (v:Value) (hk:x.k=7) (hn:Nd1 x f) (hx:B.Nx w) (hv:HasT w v (some (x,f))):Calls Tryz.prog 107 #[v] w (TelB (isT B.nck B.long (x,f) 1) w):=by
 have HE:Hid (isT B.nck B.long (x,f) 1=(texB x B.nck isEmp&&seqOk (IF f) [67])):=Lib.hid (by show isX _ _ x (IF f) 1=_;rw[yB hk (by rfl),sJ (A:=B.nck) (M:=isEmp) (fun _=>rfl) (fun _=>rfl)]);rw[HE.out];obtain⟨q,p,A,c',rfl,hq,c0,c1,c2,c3,c4,hcc,hkid⟩:=InT.open hv;rw[hk] at c0;have cH:=pE x f w _ hv hn.hs.1;have cT:∀w1,Up w w1→Calls Tryz.prog 163 #[.pointer (some ⟨q,p,none⟩)] w1 (TelB (seqOk (IF f) [67]) w1):=fun w1 u=>zMx x f w1 _ (Nx.up hx u) (hv.up u) hn.hs hn.hf fun i t h=>⟨(hn.ih i t h).ln,(hn.ih i t h).kk⟩
 obtain⟨hb,hhb⟩:∃hb,texB x B.nck isEmp=hb:=⟨_,rfl⟩;obtain⟨tb,htb⟩:∃tb,seqOk (IF f) [67]=tb:=⟨_,rfl⟩;rw[hhb,htb];rw[hhb] at cH;rw[htb] at cT;clear HE hhb htb hv hk hn hx hq c1 c2 c3 c4 hcc hkid
 cases hb
 ·go_enter Tryz.func107,Tryz.ntmps107
  go_wp2_with fail;refine cH.mono ?_;rintro e w1 ⟨rfl,u1⟩;go_wp2_with fail
  go_ret
  exact qI rfl u1
 ·go_enter Tryz.func107,Tryz.ntmps107
  go_wp2_with fail;refine cH.mono ?_;rintro e w1 ⟨rfl,u1⟩;go_wp2_with fail;refine(cT w1 u1).mono ?_;rintro e w2 ⟨rfl,u2⟩;go_wp2_with fail
  go_ret
  exact qI (by cases tb<;>rfl) (Up.trans (u1) u2)
theorem zUi:∀r∈RWS,r.cat=1→r.kind∈[(1:Int),(2:Int),(3:Int),(4:Int),(5:Int),(6:Int),(7:Int)]:=by decide
theorem zUj (x:Nod) (f:Fr) (w:World) (v:Value) (n1:¬x.k=1) (n2:¬x.k=2) (n3:¬x.k=3) (n4:¬x.k=4) (n5:¬x.k=5) (n6:¬x.k=6) (n7:¬x.k=7) (hv:HasT w v (some (x,f))):Calls Tryz.prog 107 #[v] w (TelB (isT B.nck B.long (x,f) 1) w):=by
 have HE:Hid (isT B.nck B.long (x,f) 1=false):=Lib.hid (tZ fun r hr hc e=>by have:=zUi r hr hc;rw[e] at this;simp only[List.mem_cons,List.not_mem_nil,or_false] at this;omega);rw[HE.out];obtain⟨q,p,A,c',rfl,hq,c0,c1,c2,c3,c4,hcc,hkid⟩:=InT.open hv;clear hv HE hq c1 c2 c3 c4 hcc hkid
 go_enter Tryz.func107,Tryz.ntmps107
 go_wp2_with fail
 go_ret
 exact qI rfl (Up.refl _)
theorem zRh (x:Nod) (f:Fr) (hn:Nd1 x f):TelAt 107 (isT B.nck B.long (x,f) 1) (x,f):=fun w v hx hv=>by
 by_cases n1:x.k=1
 ·exact zGd x f w v n1 hn hx hv
 by_cases n2:x.k=2
 ·exact zGe x f w v n2 hn hx hv
 by_cases n3:x.k=3
 ·exact zGf x f w v n3 hn hx hv
 by_cases n4:x.k=4
 ·exact zGg x f w v n4 hn hx hv
 by_cases n5:x.k=5
 ·exact zGh x f w v n5 hn hx hv
 by_cases n6:x.k=6
 ·exact zGi x f w v n6 hn hx hv
 by_cases n7:x.k=7
 ·exact zGj x f w v n7 hn hx hv
 exact zUj x f w v n1 n2 n3 n4 n5 n6 n7 hv
theorem zMy (x:Nod) (f:Fr) (w:World) (v:Value) (hk:x.k=20) (hn:Nd1 x f) (hx:B.Nx w) (hv:HasT w v (some (x,f))):Calls Tryz.prog 46 #[v] w (TelB (isT B.nck B.long (x,f) 2) w):=by
 have HE:Hid (isT B.nck B.long (x,f) 2=(numB x (-1073741824) 1073741824&&seqK (IF f) [])):=Lib.hid (by show isX _ _ x (IF f) 2=_;rw[yB hk (by rfl),jR,jY _ _ (by rfl)];rfl);rw[HE.out];obtain⟨q,p,A,c',rfl,hq,c0,c1,c2,c3,c4,hcc,hkid⟩:=InT.open hv;rw[hk] at c0;have cH:=vE x f (-1073741824) 1073741824 w _ hv;have cT:∀w1,Up w w1→Calls Tryz.prog 103 #[.pointer (some ⟨q,p,none⟩),.slice none 0 0] w1 (TelB (seqK (IF f) []) w1):=fun w1 u=>zW [] x f w1 _ none 0 (Nx.up hx u) (hv.up u) hn.hf (by decide) (fun _ _ _ h=>by cases h) (fun _ _ _ _ h=>by cases h)
 obtain⟨hb,hhb⟩:∃hb,numB x (-1073741824) 1073741824=hb:=⟨_,rfl⟩;obtain⟨tb,htb⟩:∃tb,seqK (IF f) []=tb:=⟨_,rfl⟩;rw[hhb,htb];rw[hhb] at cH;rw[htb] at cT;clear HE hhb htb hv hk hn hx hq c1 c2 c3 c4 hcc hkid
 cases hb
 ·go_enter Tryz.func46,Tryz.ntmps46
  go_wp2_with fail;refine cH.mono ?_;rintro e w1 ⟨rfl,u1⟩;go_wp2_with fail
  go_ret
  exact qI rfl u1
 ·go_enter Tryz.func46,Tryz.ntmps46
  go_wp2_with fail;refine cH.mono ?_;rintro e w1 ⟨rfl,u1⟩;go_wp2_with fail;refine(cT w1 u1).mono ?_;rintro e w2 ⟨rfl,u2⟩;go_wp2_with fail
  go_ret
  exact qI (by cases tb<;>rfl) (Up.trans (u1) u2)
theorem zMz (x:Nod) (f:Fr) (w:World) (v:Value) (hk:x.k=21) (hn:Nd1 x f) (hx:B.Nx w) (hv:HasT w v (some (x,f))):Calls Tryz.prog 46 #[v] w (TelB (isT B.nck B.long (x,f) 2) w):=by
 have HE:Hid (isT B.nck B.long (x,f) 2=(numB x 0 1&&seqK (IF f) [])):=Lib.hid (by show isX _ _ x (IF f) 2=_;rw[yB hk (by rfl),jR,jY _ _ (by rfl)];rfl);rw[HE.out];obtain⟨q,p,A,c',rfl,hq,c0,c1,c2,c3,c4,hcc,hkid⟩:=InT.open hv;rw[hk] at c0;have cH:=vE x f 0 1 w _ hv;have cT:∀w1,Up w w1→Calls Tryz.prog 103 #[.pointer (some ⟨q,p,none⟩),.slice none 0 0] w1 (TelB (seqK (IF f) []) w1):=fun w1 u=>zW [] x f w1 _ none 0 (Nx.up hx u) (hv.up u) hn.hf (by decide) (fun _ _ _ h=>by cases h) (fun _ _ _ _ h=>by cases h)
 obtain⟨hb,hhb⟩:∃hb,numB x 0 1=hb:=⟨_,rfl⟩;obtain⟨tb,htb⟩:∃tb,seqK (IF f) []=tb:=⟨_,rfl⟩;rw[hhb,htb];rw[hhb] at cH;rw[htb] at cT;clear HE hhb htb hv hk hn hx hq c1 c2 c3 c4 hcc hkid
 cases hb
 ·go_enter Tryz.func46,Tryz.ntmps46
  go_wp2_with fail;refine cH.mono ?_;rintro e w1 ⟨rfl,u1⟩;go_wp2_with fail
  go_ret
  exact qI rfl u1
 ·go_enter Tryz.func46,Tryz.ntmps46
  go_wp2_with fail;refine cH.mono ?_;rintro e w1 ⟨rfl,u1⟩;go_wp2_with fail;refine(cT w1 u1).mono ?_;rintro e w2 ⟨rfl,u2⟩;go_wp2_with fail
  go_ret
  exact qI (by cases tb<;>rfl) (Up.trans (u1) u2)
theorem zL0 (x:Nod) (f:Fr) (w:World) (v:Value) (hk:x.k=22) (hn:Nd1 x f) (hx:B.Nx w) (hv:HasT w v (some (x,f))):Calls Tryz.prog 46 #[v] w (TelB (isT B.nck B.long (x,f) 2) w):=by
 have HE:Hid (isT B.nck B.long (x,f) 2=(numB x 0 0&&seqK (IF f) [])):=Lib.hid (by show isX _ _ x (IF f) 2=_;rw[yB hk (by rfl),jR,jY _ _ (by rfl)];rfl);rw[HE.out];obtain⟨q,p,A,c',rfl,hq,c0,c1,c2,c3,c4,hcc,hkid⟩:=InT.open hv;rw[hk] at c0;have cH:=yV x f w _ hv;have cT:∀w1,Up w w1→Calls Tryz.prog 103 #[.pointer (some ⟨q,p,none⟩),.slice none 0 0] w1 (TelB (seqK (IF f) []) w1):=fun w1 u=>zW [] x f w1 _ none 0 (Nx.up hx u) (hv.up u) hn.hf (by decide) (fun _ _ _ h=>by cases h) (fun _ _ _ _ h=>by cases h)
 obtain⟨hb,hhb⟩:∃hb,numB x 0 0=hb:=⟨_,rfl⟩;obtain⟨tb,htb⟩:∃tb,seqK (IF f) []=tb:=⟨_,rfl⟩;rw[hhb,htb];rw[hhb] at cH;rw[htb] at cT;clear HE hhb htb hv hk hn hx hq c1 c2 c3 c4 hcc hkid
 cases hb
 ·go_enter Tryz.func46,Tryz.ntmps46
  go_wp2_with fail;refine cH.mono ?_;rintro e w1 ⟨rfl,u1⟩;go_wp2_with fail
  go_ret
  exact qI rfl u1
 ·go_enter Tryz.func46,Tryz.ntmps46
  go_wp2_with fail;refine cH.mono ?_;rintro e w1 ⟨rfl,u1⟩;go_wp2_with fail;refine(cT w1 u1).mono ?_;rintro e w2 ⟨rfl,u2⟩;go_wp2_with fail
  go_ret
  exact qI (by cases tb<;>rfl) (Up.trans (u1) u2)
theorem zL1 (x:Nod) (f:Fr) (w:World) (v:Value) (hk:x.k=23) (hn:Nd1 x f) (hx:B.Nx w) (hv:HasT w v (some (x,f))):Calls Tryz.prog 46 #[v] w (TelB (isT B.nck B.long (x,f) 2) w):=by
 have HE:Hid (isT B.nck B.long (x,f) 2=(texB x B.long isEmp&&seqK (IF f) [])):=Lib.hid (by show isX _ _ x (IF f) 2=_;rw[yB hk (by rfl),sJ (A:=B.long) (M:=isEmp) (fun _=>rfl) (fun _=>rfl),jY _ _ (by rfl)];rfl);rw[HE.out];obtain⟨q,p,A,c',rfl,hq,c0,c1,c2,c3,c4,hcc,hkid⟩:=InT.open hv;rw[hk] at c0;have cH:=zZh x f w _ hv hn.hs.1 hx;have cT:∀w1,Up w w1→Calls Tryz.prog 103 #[.pointer (some ⟨q,p,none⟩),.slice none 0 0] w1 (TelB (seqK (IF f) []) w1):=fun w1 u=>zW [] x f w1 _ none 0 (Nx.up hx u) (hv.up u) hn.hf (by decide) (fun _ _ _ h=>by cases h) (fun _ _ _ _ h=>by cases h)
 obtain⟨hb,hhb⟩:∃hb,texB x B.long isEmp=hb:=⟨_,rfl⟩;obtain⟨tb,htb⟩:∃tb,seqK (IF f) []=tb:=⟨_,rfl⟩;rw[hhb,htb];rw[hhb] at cH;rw[htb] at cT;clear HE hhb htb hv hk hn hx hq c1 c2 c3 c4 hcc hkid
 cases hb
 ·go_enter Tryz.func46,Tryz.ntmps46
  go_wp2_with fail;refine cH.mono ?_;rintro e w1 ⟨rfl,u1⟩;go_wp2_with fail
  go_ret
  exact qI rfl u1
 ·go_enter Tryz.func46,Tryz.ntmps46
  go_wp2_with fail;refine cH.mono ?_;rintro e w1 ⟨rfl,u1⟩;go_wp2_with fail;refine(cT w1 u1).mono ?_;rintro e w2 ⟨rfl,u2⟩;go_wp2_with fail
  go_ret
  exact qI (by cases tb<;>rfl) (Up.trans (u1) u2)
theorem zL2 (x:Nod) (f:Fr) (w:World) (v:Value) (hk:x.k=24) (hn:Nd1 x f) (hx:B.Nx w) (hv:HasT w v (some (x,f))):Calls Tryz.prog 46 #[v] w (TelB (isT B.nck B.long (x,f) 2) w):=by
 have HE:Hid (isT B.nck B.long (x,f) 2=(texB x B.nck isEmp&&seqK (IF f) [1,2])):=Lib.hid (by show isX _ _ x (IF f) 2=_;rw[yB hk (by rfl),sJ (A:=B.nck) (M:=isEmp) (fun _=>rfl) (fun _=>rfl),jY _ _ (by rfl)];rfl);rw[HE.out];obtain⟨q,p,A,c',rfl,hq,c0,c1,c2,c3,c4,hcc,hkid⟩:=InT.open hv;rw[hk] at c0;have cH:=pE x f w _ hv hn.hs.1;have cT:∀w1,Up w w1→Calls Tryz.prog 103 #[.pointer (some ⟨q,p,none⟩),.slice (some ⟨w1.heap.size,0,none⟩) 2 2] (w1.alloc (.cells #[.func (.func 107) #[] #[],.func (.func 46) #[] #[]] 146)) (TelB (seqK (IF f) [1,2]) (w1.alloc (.cells #[.func (.func 107) #[] #[],.func (.func 46) #[] #[]] 146))):=fun w1 u=>zW [1,2] x f _ _ _ _ (Nx.up hx (u.alloc _)) (hv.up (u.alloc _)) hn.hf (by decide) (xF (fnsC [1,2]) (heap_alloc_new w1 _)) (yW hn (by decide))
 obtain⟨hb,hhb⟩:∃hb,texB x B.nck isEmp=hb:=⟨_,rfl⟩;obtain⟨tb,htb⟩:∃tb,seqK (IF f) [1,2]=tb:=⟨_,rfl⟩;rw[hhb,htb];rw[hhb] at cH;rw[htb] at cT;clear HE hhb htb hv hk hn hx hq c1 c2 c3 c4 hcc hkid
 cases hb
 ·go_enter Tryz.func46,Tryz.ntmps46
  go_wp2_with fail;refine cH.mono ?_;rintro e w1 ⟨rfl,u1⟩;go_wp2_with fail
  go_ret
  exact qI rfl u1
 ·go_enter Tryz.func46,Tryz.ntmps46
  go_wp2_with fail;refine cH.mono ?_;rintro e w1 ⟨rfl,u1⟩;go_wp2_with fail;refine(cT w1 u1).mono ?_;rintro e w2 ⟨rfl,u2⟩;go_wp2_with fail
  go_ret
  exact qI (by cases tb<;>rfl) (Up.trans (u1.alloc _) u2)
theorem zL3 (x:Nod) (f:Fr) (w:World) (v:Value) (hk:x.k=25) (hn:Nd1 x f) (hx:B.Nx w) (hv:HasT w v (some (x,f))):Calls Tryz.prog 46 #[v] w (TelB (isT B.nck B.long (x,f) 2) w):=by
 have HE:Hid (isT B.nck B.long (x,f) 2=(numB x 0 0&&seqK (IF f) [2,2])):=Lib.hid (by show isX _ _ x (IF f) 2=_;rw[yB hk (by rfl),jR,jY _ _ (by rfl)];rfl);rw[HE.out];obtain⟨q,p,A,c',rfl,hq,c0,c1,c2,c3,c4,hcc,hkid⟩:=InT.open hv;rw[hk] at c0;have cH:=yV x f w _ hv;have cT:∀w1,Up w w1→Calls Tryz.prog 103 #[.pointer (some ⟨q,p,none⟩),.slice (some ⟨w1.heap.size,0,none⟩) 2 2] (w1.alloc (.cells #[.func (.func 46) #[] #[],.func (.func 46) #[] #[]] 146)) (TelB (seqK (IF f) [2,2]) (w1.alloc (.cells #[.func (.func 46) #[] #[],.func (.func 46) #[] #[]] 146))):=fun w1 u=>zW [2,2] x f _ _ _ _ (Nx.up hx (u.alloc _)) (hv.up (u.alloc _)) hn.hf (by decide) (xF (fnsC [2,2]) (heap_alloc_new w1 _)) (yW hn (by decide))
 obtain⟨hb,hhb⟩:∃hb,numB x 0 0=hb:=⟨_,rfl⟩;obtain⟨tb,htb⟩:∃tb,seqK (IF f) [2,2]=tb:=⟨_,rfl⟩;rw[hhb,htb];rw[hhb] at cH;rw[htb] at cT;clear HE hhb htb hv hk hn hx hq c1 c2 c3 c4 hcc hkid
 cases hb
 ·go_enter Tryz.func46,Tryz.ntmps46
  go_wp2_with fail;refine cH.mono ?_;rintro e w1 ⟨rfl,u1⟩;go_wp2_with fail
  go_ret
  exact qI rfl u1
 ·go_enter Tryz.func46,Tryz.ntmps46
  go_wp2_with fail;refine cH.mono ?_;rintro e w1 ⟨rfl,u1⟩;go_wp2_with fail;refine(cT w1 u1).mono ?_;rintro e w2 ⟨rfl,u2⟩;go_wp2_with fail
  go_ret
  exact qI (by cases tb<;>rfl) (Up.trans (u1.alloc _) u2)
theorem zL4 (x:Nod) (f:Fr) (w:World) (v:Value) (hk:x.k=26) (hn:Nd1 x f) (hx:B.Nx w) (hv:HasT w v (some (x,f))):Calls Tryz.prog 46 #[v] w (TelB (isT B.nck B.long (x,f) 2) w):=by
 have HE:Hid (isT B.nck B.long (x,f) 2=(numB x 0 0&&seqK (IF f) [2,2])):=Lib.hid (by show isX _ _ x (IF f) 2=_;rw[yB hk (by rfl),jR,jY _ _ (by rfl)];rfl);rw[HE.out];obtain⟨q,p,A,c',rfl,hq,c0,c1,c2,c3,c4,hcc,hkid⟩:=InT.open hv;rw[hk] at c0;have cH:=yV x f w _ hv;have cT:∀w1,Up w w1→Calls Tryz.prog 103 #[.pointer (some ⟨q,p,none⟩),.slice (some ⟨w1.heap.size,0,none⟩) 2 2] (w1.alloc (.cells #[.func (.func 46) #[] #[],.func (.func 46) #[] #[]] 146)) (TelB (seqK (IF f) [2,2]) (w1.alloc (.cells #[.func (.func 46) #[] #[],.func (.func 46) #[] #[]] 146))):=fun w1 u=>zW [2,2] x f _ _ _ _ (Nx.up hx (u.alloc _)) (hv.up (u.alloc _)) hn.hf (by decide) (xF (fnsC [2,2]) (heap_alloc_new w1 _)) (yW hn (by decide))
 obtain⟨hb,hhb⟩:∃hb,numB x 0 0=hb:=⟨_,rfl⟩;obtain⟨tb,htb⟩:∃tb,seqK (IF f) [2,2]=tb:=⟨_,rfl⟩;rw[hhb,htb];rw[hhb] at cH;rw[htb] at cT;clear HE hhb htb hv hk hn hx hq c1 c2 c3 c4 hcc hkid
 cases hb
 ·go_enter Tryz.func46,Tryz.ntmps46
  go_wp2_with fail;refine cH.mono ?_;rintro e w1 ⟨rfl,u1⟩;go_wp2_with fail
  go_ret
  exact qI rfl u1
 ·go_enter Tryz.func46,Tryz.ntmps46
  go_wp2_with fail;refine cH.mono ?_;rintro e w1 ⟨rfl,u1⟩;go_wp2_with fail;refine(cT w1 u1).mono ?_;rintro e w2 ⟨rfl,u2⟩;go_wp2_with fail
  go_ret
  exact qI (by cases tb<;>rfl) (Up.trans (u1.alloc _) u2)
theorem zL5 (x:Nod) (f:Fr) (w:World) (v:Value) (hk:x.k=27) (hn:Nd1 x f) (hx:B.Nx w) (hv:HasT w v (some (x,f))):Calls Tryz.prog 46 #[v] w (TelB (isT B.nck B.long (x,f) 2) w):=by
 have HE:Hid (isT B.nck B.long (x,f) 2=(numB x 0 0&&seqK (IF f) [2])):=Lib.hid (by show isX _ _ x (IF f) 2=_;rw[yB hk (by rfl),jR,jY _ _ (by rfl)];rfl);rw[HE.out];obtain⟨q,p,A,c',rfl,hq,c0,c1,c2,c3,c4,hcc,hkid⟩:=InT.open hv;rw[hk] at c0;have cH:=yV x f w _ hv;have cT:∀w1,Up w w1→Calls Tryz.prog 103 #[.pointer (some ⟨q,p,none⟩),.slice (some ⟨w1.heap.size,0,none⟩) 1 1] (w1.alloc (.cells #[.func (.func 46) #[] #[]] 146)) (TelB (seqK (IF f) [2]) (w1.alloc (.cells #[.func (.func 46) #[] #[]] 146))):=fun w1 u=>zW [2] x f _ _ _ _ (Nx.up hx (u.alloc _)) (hv.up (u.alloc _)) hn.hf (by decide) (xF (fnsC [2]) (heap_alloc_new w1 _)) (yW hn (by decide))
 obtain⟨hb,hhb⟩:∃hb,numB x 0 0=hb:=⟨_,rfl⟩;obtain⟨tb,htb⟩:∃tb,seqK (IF f) [2]=tb:=⟨_,rfl⟩;rw[hhb,htb];rw[hhb] at cH;rw[htb] at cT;clear HE hhb htb hv hk hn hx hq c1 c2 c3 c4 hcc hkid
 cases hb
 ·go_enter Tryz.func46,Tryz.ntmps46
  go_wp2_with fail;refine cH.mono ?_;rintro e w1 ⟨rfl,u1⟩;go_wp2_with fail
  go_ret
  exact qI rfl u1
 ·go_enter Tryz.func46,Tryz.ntmps46
  go_wp2_with fail;refine cH.mono ?_;rintro e w1 ⟨rfl,u1⟩;go_wp2_with fail;refine(cT w1 u1).mono ?_;rintro e w2 ⟨rfl,u2⟩;go_wp2_with fail
  go_ret
  exact qI (by cases tb<;>rfl) (Up.trans (u1.alloc _) u2)
theorem zL6 (x:Nod) (f:Fr) (w:World) (v:Value) (hk:x.k=28) (hn:Nd1 x f) (hx:B.Nx w) (hv:HasT w v (some (x,f))):Calls Tryz.prog 46 #[v] w (TelB (isT B.nck B.long (x,f) 2) w):=by
 have HE:Hid (isT B.nck B.long (x,f) 2=(numB x 0 0&&seqK (IF f) [2])):=Lib.hid (by show isX _ _ x (IF f) 2=_;rw[yB hk (by rfl),jR,jY _ _ (by rfl)];rfl);rw[HE.out];obtain⟨q,p,A,c',rfl,hq,c0,c1,c2,c3,c4,hcc,hkid⟩:=InT.open hv;rw[hk] at c0;have cH:=yV x f w _ hv;have cT:∀w1,Up w w1→Calls Tryz.prog 103 #[.pointer (some ⟨q,p,none⟩),.slice (some ⟨w1.heap.size,0,none⟩) 1 1] (w1.alloc (.cells #[.func (.func 46) #[] #[]] 146)) (TelB (seqK (IF f) [2]) (w1.alloc (.cells #[.func (.func 46) #[] #[]] 146))):=fun w1 u=>zW [2] x f _ _ _ _ (Nx.up hx (u.alloc _)) (hv.up (u.alloc _)) hn.hf (by decide) (xF (fnsC [2]) (heap_alloc_new w1 _)) (yW hn (by decide))
 obtain⟨hb,hhb⟩:∃hb,numB x 0 0=hb:=⟨_,rfl⟩;obtain⟨tb,htb⟩:∃tb,seqK (IF f) [2]=tb:=⟨_,rfl⟩;rw[hhb,htb];rw[hhb] at cH;rw[htb] at cT;clear HE hhb htb hv hk hn hx hq c1 c2 c3 c4 hcc hkid
 cases hb
 ·go_enter Tryz.func46,Tryz.ntmps46
  go_wp2_with fail;refine cH.mono ?_;rintro e w1 ⟨rfl,u1⟩;go_wp2_with fail
  go_ret
  exact qI rfl u1
 ·go_enter Tryz.func46,Tryz.ntmps46
  go_wp2_with fail;refine cH.mono ?_;rintro e w1 ⟨rfl,u1⟩;go_wp2_with fail;refine(cT w1 u1).mono ?_;rintro e w2 ⟨rfl,u2⟩;go_wp2_with fail
  go_ret
  exact qI (by cases tb<;>rfl) (Up.trans (u1.alloc _) u2)
theorem zL7 (x:Nod) (f:Fr) (w:World) (v:Value) (hk:x.k=29) (hn:Nd1 x f) (hx:B.Nx w) (hv:HasT w v (some (x,f))):Calls Tryz.prog 46 #[v] w (TelB (isT B.nck B.long (x,f) 2) w):=by
 have HE:Hid (isT B.nck B.long (x,f) 2=(texB x B.nck isEmp&&seqK (IF f) [2,2])):=Lib.hid (by show isX _ _ x (IF f) 2=_;rw[yB hk (by rfl),sJ (A:=B.nck) (M:=isEmp) (fun _=>rfl) (fun _=>rfl),jY _ _ (by rfl)];rfl);rw[HE.out];obtain⟨q,p,A,c',rfl,hq,c0,c1,c2,c3,c4,hcc,hkid⟩:=InT.open hv;rw[hk] at c0;have cH:=pE x f w _ hv hn.hs.1;have cT:∀w1,Up w w1→Calls Tryz.prog 103 #[.pointer (some ⟨q,p,none⟩),.slice (some ⟨w1.heap.size,0,none⟩) 2 2] (w1.alloc (.cells #[.func (.func 46) #[] #[],.func (.func 46) #[] #[]] 146)) (TelB (seqK (IF f) [2,2]) (w1.alloc (.cells #[.func (.func 46) #[] #[],.func (.func 46) #[] #[]] 146))):=fun w1 u=>zW [2,2] x f _ _ _ _ (Nx.up hx (u.alloc _)) (hv.up (u.alloc _)) hn.hf (by decide) (xF (fnsC [2,2]) (heap_alloc_new w1 _)) (yW hn (by decide))
 obtain⟨hb,hhb⟩:∃hb,texB x B.nck isEmp=hb:=⟨_,rfl⟩;obtain⟨tb,htb⟩:∃tb,seqK (IF f) [2,2]=tb:=⟨_,rfl⟩;rw[hhb,htb];rw[hhb] at cH;rw[htb] at cT;clear HE hhb htb hv hk hn hx hq c1 c2 c3 c4 hcc hkid
 cases hb
 ·go_enter Tryz.func46,Tryz.ntmps46
  go_wp2_with fail;refine cH.mono ?_;rintro e w1 ⟨rfl,u1⟩;go_wp2_with fail
  go_ret
  exact qI rfl u1
 ·go_enter Tryz.func46,Tryz.ntmps46
  go_wp2_with fail;refine cH.mono ?_;rintro e w1 ⟨rfl,u1⟩;go_wp2_with fail;refine(cT w1 u1).mono ?_;rintro e w2 ⟨rfl,u2⟩;go_wp2_with fail
  go_ret
  exact qI (by cases tb<;>rfl) (Up.trans (u1.alloc _) u2)
theorem zL8 (x:Nod) (f:Fr) (w:World) (v:Value) (hk:x.k=30) (hn:Nd1 x f) (hx:B.Nx w) (hv:HasT w v (some (x,f))):Calls Tryz.prog 46 #[v] w (TelB (isT B.nck B.long (x,f) 2) w):=by
 have HE:Hid (isT B.nck B.long (x,f) 2=(numB x 0 0&&seqK (IF f) [2,2,2])):=Lib.hid (by show isX _ _ x (IF f) 2=_;rw[yB hk (by rfl),jR,jY _ _ (by rfl)];rfl);rw[HE.out];obtain⟨q,p,A,c',rfl,hq,c0,c1,c2,c3,c4,hcc,hkid⟩:=InT.open hv;rw[hk] at c0;have cH:=yV x f w _ hv;have cT:∀w1,Up w w1→Calls Tryz.prog 103 #[.pointer (some ⟨q,p,none⟩),.slice (some ⟨w1.heap.size,0,none⟩) 3 3] (w1.alloc (.cells #[.func (.func 46) #[] #[],.func (.func 46) #[] #[],.func (.func 46) #[] #[]] 146)) (TelB (seqK (IF f) [2,2,2]) (w1.alloc (.cells #[.func (.func 46) #[] #[],.func (.func 46) #[] #[],.func (.func 46) #[] #[]] 146))):=fun w1 u=>zW [2,2,2] x f _ _ _ _ (Nx.up hx (u.alloc _)) (hv.up (u.alloc _)) hn.hf (by decide) (xF (fnsC [2,2,2]) (heap_alloc_new w1 _)) (yW hn (by decide))
 obtain⟨hb,hhb⟩:∃hb,numB x 0 0=hb:=⟨_,rfl⟩;obtain⟨tb,htb⟩:∃tb,seqK (IF f) [2,2,2]=tb:=⟨_,rfl⟩;rw[hhb,htb];rw[hhb] at cH;rw[htb] at cT;clear HE hhb htb hv hk hn hx hq c1 c2 c3 c4 hcc hkid
 cases hb
 ·go_enter Tryz.func46,Tryz.ntmps46
  go_wp2_with fail;refine cH.mono ?_;rintro e w1 ⟨rfl,u1⟩;go_wp2_with fail
  go_ret
  exact qI rfl u1
 ·go_enter Tryz.func46,Tryz.ntmps46
  go_wp2_with fail;refine cH.mono ?_;rintro e w1 ⟨rfl,u1⟩;go_wp2_with fail;refine(cT w1 u1).mono ?_;rintro e w2 ⟨rfl,u2⟩;go_wp2_with fail
  go_ret
  exact qI (by cases tb<;>rfl) (Up.trans (u1.alloc _) u2)
theorem zL9 (x:Nod) (f:Fr) (w:World) (v:Value) (hk:x.k=31) (hn:Nd1 x f) (hx:B.Nx w) (hv:HasT w v (some (x,f))):Calls Tryz.prog 46 #[v] w (TelB (isT B.nck B.long (x,f) 2) w):=by
 have HE:Hid (isT B.nck B.long (x,f) 2=(numB x 1 5&&seqK (IF f) [2,2])):=Lib.hid (by show isX _ _ x (IF f) 2=_;rw[yB hk (by rfl),jR,jY _ _ (by rfl)];rfl);rw[HE.out];obtain⟨q,p,A,c',rfl,hq,c0,c1,c2,c3,c4,hcc,hkid⟩:=InT.open hv;rw[hk] at c0;have cH:=vE x f 1 5 w _ hv;have cT:∀w1,Up w w1→Calls Tryz.prog 103 #[.pointer (some ⟨q,p,none⟩),.slice (some ⟨w1.heap.size,0,none⟩) 2 2] (w1.alloc (.cells #[.func (.func 46) #[] #[],.func (.func 46) #[] #[]] 146)) (TelB (seqK (IF f) [2,2]) (w1.alloc (.cells #[.func (.func 46) #[] #[],.func (.func 46) #[] #[]] 146))):=fun w1 u=>zW [2,2] x f _ _ _ _ (Nx.up hx (u.alloc _)) (hv.up (u.alloc _)) hn.hf (by decide) (xF (fnsC [2,2]) (heap_alloc_new w1 _)) (yW hn (by decide))
 obtain⟨hb,hhb⟩:∃hb,numB x 1 5=hb:=⟨_,rfl⟩;obtain⟨tb,htb⟩:∃tb,seqK (IF f) [2,2]=tb:=⟨_,rfl⟩;rw[hhb,htb];rw[hhb] at cH;rw[htb] at cT;clear HE hhb htb hv hk hn hx hq c1 c2 c3 c4 hcc hkid
 cases hb
 ·go_enter Tryz.func46,Tryz.ntmps46
  go_wp2_with fail;refine cH.mono ?_;rintro e w1 ⟨rfl,u1⟩;go_wp2_with fail
  go_ret
  exact qI rfl u1
 ·go_enter Tryz.func46,Tryz.ntmps46
  go_wp2_with fail;refine cH.mono ?_;rintro e w1 ⟨rfl,u1⟩;go_wp2_with fail;refine(cT w1 u1).mono ?_;rintro e w2 ⟨rfl,u2⟩;go_wp2_with fail
  go_ret
  exact qI (by cases tb<;>rfl) (Up.trans (u1.alloc _) u2)
theorem zLa (x:Nod) (f:Fr) (w:World) (v:Value) (hk:x.k=32) (hn:Nd1 x f) (hx:B.Nx w) (hv:HasT w v (some (x,f))):Calls Tryz.prog 46 #[v] w (TelB (isT B.nck B.long (x,f) 2) w):=by
 have HE:Hid (isT B.nck B.long (x,f) 2=(numB x 0 0&&rowB [2] 1 (fun i=>i.is 9) (IF f))):=Lib.hid (by show isX _ _ x (IF f) 2=_;rw[yB hk (by rfl),jR,zG9]);rw[HE.out];obtain⟨q,p,A,c',rfl,hq,c0,c1,c2,c3,c4,hcc,hkid⟩:=InT.open hv;rw[hk] at c0;have cH:=yV x f w _ hv;have cT:∀w1,Up w w1→Calls Tryz.prog 108 #[.pointer (some ⟨q,p,none⟩),.int .i64 1,.func (.func 109) #[] #[],.slice (some ⟨w1.heap.size,0,none⟩) 1 1] (w1.alloc (.cells #[.func (.func 46) #[] #[]] 146)) (TelB (rowB [2] 1 (fun i=>i.is 9) (IF f)) (w1.alloc (.cells #[.func (.func 46) #[] #[]] 146))):=fun w1 u=>zO7 [2] 1 109 (fun i=>i.is 9) x f _ _ _ _ (fun _ _=>by kernel_rfl) (by omega) (Nx.up hx (u.alloc _)) (hv.up (u.alloc _)) hn.hf (by decide) (zOa [2] (heap_alloc_new w1 _)) (yW hn (by decide)) (fun i t h=>(hn.ih i t h).a9)
 obtain⟨hb,hhb⟩:∃hb,numB x 0 0=hb:=⟨_,rfl⟩;obtain⟨tb,htb⟩:∃tb,rowB [2] 1 (fun i=>i.is 9) (IF f)=tb:=⟨_,rfl⟩;rw[hhb,htb];rw[hhb] at cH;rw[htb] at cT;clear HE hhb htb hv hk hn hx hq c1 c2 c3 c4 hcc hkid
 cases hb
 ·go_enter Tryz.func46,Tryz.ntmps46
  go_wp2_with fail;refine cH.mono ?_;rintro e w1 ⟨rfl,u1⟩;go_wp2_with fail
  go_ret
  exact qI rfl u1
 ·go_enter Tryz.func46,Tryz.ntmps46
  go_wp2_with fail;refine cH.mono ?_;rintro e w1 ⟨rfl,u1⟩;go_wp2_with fail;refine(cT w1 u1).mono ?_;rintro e w2 ⟨rfl,u2⟩;go_wp2_with fail
  go_ret
  exact qI (by cases tb<;>rfl) (Up.trans (u1.alloc _) u2)
theorem zLb (x:Nod) (f:Fr) (w:World) (v:Value) (hk:x.k=33) (hn:Nd1 x f) (hx:B.Nx w) (hv:HasT w v (some (x,f))):Calls Tryz.prog 46 #[v] w (TelB (isT B.nck B.long (x,f) 2) w):=by
 have HE:Hid (isT B.nck B.long (x,f) 2=(numB x 0 0&&rowB [2,1] 1 (fun i=>i.is 9) (IF f))):=Lib.hid (by show isX _ _ x (IF f) 2=_;rw[yB hk (by rfl),jR,zMu]);rw[HE.out];obtain⟨q,p,A,c',rfl,hq,c0,c1,c2,c3,c4,hcc,hkid⟩:=InT.open hv;rw[hk] at c0;have cH:=yV x f w _ hv;have cT:∀w1,Up w w1→Calls Tryz.prog 108 #[.pointer (some ⟨q,p,none⟩),.int .i64 1,.func (.func 109) #[] #[],.slice (some ⟨w1.heap.size,0,none⟩) 2 2] (w1.alloc (.cells #[.func (.func 46) #[] #[],.func (.func 107) #[] #[]] 146)) (TelB (rowB [2,1] 1 (fun i=>i.is 9) (IF f)) (w1.alloc (.cells #[.func (.func 46) #[] #[],.func (.func 107) #[] #[]] 146))):=fun w1 u=>zO7 [2,1] 1 109 (fun i=>i.is 9) x f _ _ _ _ (fun _ _=>by kernel_rfl) (by omega) (Nx.up hx (u.alloc _)) (hv.up (u.alloc _)) hn.hf (by decide) (zOa [2,1] (heap_alloc_new w1 _)) (yW hn (by decide)) (fun i t h=>(hn.ih i t h).a9)
 obtain⟨hb,hhb⟩:∃hb,numB x 0 0=hb:=⟨_,rfl⟩;obtain⟨tb,htb⟩:∃tb,rowB [2,1] 1 (fun i=>i.is 9) (IF f)=tb:=⟨_,rfl⟩;rw[hhb,htb];rw[hhb] at cH;rw[htb] at cT;clear HE hhb htb hv hk hn hx hq c1 c2 c3 c4 hcc hkid
 cases hb
 ·go_enter Tryz.func46,Tryz.ntmps46
  go_wp2_with fail;refine cH.mono ?_;rintro e w1 ⟨rfl,u1⟩;go_wp2_with fail
  go_ret
  exact qI rfl u1
 ·go_enter Tryz.func46,Tryz.ntmps46
  go_wp2_with fail;refine cH.mono ?_;rintro e w1 ⟨rfl,u1⟩;go_wp2_with fail;refine(cT w1 u1).mono ?_;rintro e w2 ⟨rfl,u2⟩;go_wp2_with fail
  go_ret
  exact qI (by cases tb<;>rfl) (Up.trans (u1.alloc _) u2)
theorem zUk:∀r∈RWS,r.cat=2→r.kind∈[(20:Int),(21:Int),(22:Int),(23:Int),(24:Int),(25:Int),(26:Int),(27:Int),(28:Int),(29:Int),(30:Int),(31:Int),(32:Int),(33:Int)]:=by decide
theorem zUl (x:Nod) (f:Fr) (w:World) (v:Value) (n20:¬x.k=20) (n21:¬x.k=21) (n22:¬x.k=22) (n23:¬x.k=23) (n24:¬x.k=24) (n25:¬x.k=25) (n26:¬x.k=26) (n27:¬x.k=27) (n28:¬x.k=28) (n29:¬x.k=29) (n30:¬x.k=30) (n31:¬x.k=31) (n32:¬x.k=32) (n33:¬x.k=33) (hv:HasT w v (some (x,f))):Calls Tryz.prog 46 #[v] w (TelB (isT B.nck B.long (x,f) 2) w):=by
 have HE:Hid (isT B.nck B.long (x,f) 2=false):=Lib.hid (tZ fun r hr hc e=>by have:=zUk r hr hc;rw[e] at this;simp only[List.mem_cons,List.not_mem_nil,or_false] at this;omega);rw[HE.out];obtain⟨q,p,A,c',rfl,hq,c0,c1,c2,c3,c4,hcc,hkid⟩:=InT.open hv;clear hv HE hq c1 c2 c3 c4 hcc hkid
 go_enter Tryz.func46,Tryz.ntmps46
 go_wp2_with fail
 go_ret
 exact qI rfl (Up.refl _)
theorem zRi (x:Nod) (f:Fr) (hn:Nd1 x f):TelAt 46 (isT B.nck B.long (x,f) 2) (x,f):=fun w v hx hv=>by
 by_cases n20:x.k=20
 ·exact zMy x f w v n20 hn hx hv
 by_cases n21:x.k=21
 ·exact zMz x f w v n21 hn hx hv
 by_cases n22:x.k=22
 ·exact zL0 x f w v n22 hn hx hv
 by_cases n23:x.k=23
 ·exact zL1 x f w v n23 hn hx hv
 by_cases n24:x.k=24
 ·exact zL2 x f w v n24 hn hx hv
 by_cases n25:x.k=25
 ·exact zL3 x f w v n25 hn hx hv
 by_cases n26:x.k=26
 ·exact zL4 x f w v n26 hn hx hv
 by_cases n27:x.k=27
 ·exact zL5 x f w v n27 hn hx hv
 by_cases n28:x.k=28
 ·exact zL6 x f w v n28 hn hx hv
 by_cases n29:x.k=29
 ·exact zL7 x f w v n29 hn hx hv
 by_cases n30:x.k=30
 ·exact zL8 x f w v n30 hn hx hv
 by_cases n31:x.k=31
 ·exact zL9 x f w v n31 hn hx hv
 by_cases n32:x.k=32
 ·exact zLa x f w v n32 hn hx hv
 by_cases n33:x.k=33
 ·exact zLb x f w v n33 hn hx hv
 exact zUl x f w v n20 n21 n22 n23 n24 n25 n26 n27 n28 n29 n30 n31 n32 n33 hv
theorem yWb:∀r∈RWS,r.cat=9→r.kind=34:=by decide
theorem zLc (x:Nod) (f:Fr) (hn:Nd1 x f):TelAt 109 (isT B.nck B.long (x,f) 9) (x,f):=fun w v hx hv=>by
 by_cases hk:x.k=34
 ·have HE:Hid (isT B.nck B.long (x,f) 9=(texB x B.nck B.nck&&seqK (IF f) [2])):=Lib.hid (by show isX _ _ x (IF f) 9=_;rw[yB hk (by rfl),sJ (A:=B.nck) (M:=B.nck) (fun _=>rfl) (fun _=>rfl),jY _ _ (by rfl)];rfl)
  rw[HE.out];obtain⟨q,p,A,c',rfl,hq,c0,c1,c2,c3,c4,hcc,hkid⟩:=InT.open hv;rw[hk] at c0;have cH:=zR9 x f w _ hv hn.hs.1 hn.hs.2.1;have cT:∀w1,Up w w1→Calls Tryz.prog 103 #[.pointer (some ⟨q,p,none⟩),.slice (some ⟨w1.heap.size,0,none⟩) 1 1] (w1.alloc (.cells #[.func (.func 46) #[] #[]] 146)) (TelB (seqK (IF f) [2]) (w1.alloc (.cells #[.func (.func 46) #[] #[]] 146))):=fun w1 u=>zW [2] x f _ _ _ _ (Nx.up hx (u.alloc _)) (hv.up (u.alloc _)) hn.hf (by decide) (xF (fnsC [2]) (heap_alloc_new w1 _)) (yW hn (by decide))
  obtain⟨hb,hhb⟩:∃hb,texB x B.nck B.nck=hb:=⟨_,rfl⟩;obtain⟨tb,htb⟩:∃tb,seqK (IF f) [2]=tb:=⟨_,rfl⟩;rw[hhb,htb];rw[hhb] at cH;rw[htb] at cT;clear HE hhb htb hv hk hn hx hq c1 c2 c3 c4 hcc hkid
  cases hb
  ·go_enter Tryz.func109,Tryz.ntmps109
   go_wp2_with fail;refine cH.mono ?_;rintro e w1 ⟨rfl,u1⟩;go_wp2_with fail
   go_ret
   exact qI rfl u1
  ·go_enter Tryz.func109,Tryz.ntmps109
   go_wp2_with fail;refine cH.mono ?_;rintro e w1 ⟨rfl,u1⟩;go_wp2_with fail;refine(cT w1 u1).mono ?_;rintro e w2 ⟨rfl,u2⟩;go_wp2_with fail
   go_ret
   exact qI (by cases tb<;>rfl) (Up.trans (u1.alloc _) u2)
 ·have HE:Hid (isT B.nck B.long (x,f) 9=false):=Lib.hid (tZ fun r hr hc e=>hk (by rw[←e];exact yWb r hr hc))
  rw[HE.out];obtain⟨q,p,A,c',rfl,hq,c0,c1,c2,c3,c4,hcc,hkid⟩:=InT.open hv;clear hv HE hq c1 c2 c3 c4 hcc hkid
  go_enter Tryz.func109,Tryz.ntmps109
  go_wp2_with fail
  go_ret
  exact qI rfl (Up.refl _)
theorem zRj:∀(n:Nat) (t:Tr),szT t≤n→n≤60000→okST t→Good t∧Nd1 t.1 t.2
 | 0,t,h,_,_=>absurd h (by unfold szT;omega)
 | n+1,(x,f),h,hb,hs=>by
  have h1:szT (x,f)=1+f.sz:=rfl;have h2:=Fr.len_le f;have hn:Nd1 x f:=⟨hs,by omega,fun i t hi=>(zRj n t (by have:=Fr.get_sz hi;omega) (by omega) (mK hs.2.2 hi)).1⟩;exact⟨⟨zRh x f hn,zRi x f hn,zLc x f hn,hn.hf,fun j s hj=>(hn.ih j s hj).a1⟩,hn⟩
def Sb (B:Nat) (X:Nat→Prop) (w:World) (v:Value) (q:Nat):Prop:=B≤q∧q<w.heap.size∧v.ownBlock≠some q∧¬X q
def PkSt (w:World) (lb cb B:Nat) (X:Nat→Prop) (vo:Value) (cs:List Cel):Prop:=
 w.heap[lb]? = some (.cells #[.func (.func 158) #[] #[.pointer (some ⟨lb,0,none⟩),.pointer (some ⟨cb,0,none⟩)]] 116 (0,0))∧w.heap[cb]? = some (.cells #[vo] 36 (0,0))∧
  (vo.ownBlock≠some lb∧vo.ownBlock≠some cb)∧∃vs,w.ownsRow B 78 5 vo cs.length (flat cs vs)∧CsF w (Sb B X w vo) vs cs
def PkEnd (w w':World) (cb:Nat) (vo vo':Value):Prop:=
 w'.os=w.os∧w'.tape=w.tape∧w'.output=w.output∧w.heap.size≤w'.heap.size∧(∀b,b<w.heap.size→b≠cb→vo.ownBlock≠some b→w'.heap[b]? = w.heap[b]?)∧(vo'.ownBlock=vo.ownBlock∨∀g,vo'.ownBlock=some g→w.heap.size≤g)
def yWc (t:Tr) (lb cb B:Nat) (X:Nat→Prop) (vo:Value) (cs:List Cel) (w:World) (e:Ending) (w':World):Prop:=
 e = .returned (.int .i64 ((cs.length+t.2.sz:Nat):Int))∧∃vo',PkSt w' lb cb B X vo' (cs++celT t cs.length)∧PkEnd w w' cb vo vo'
theorem PkEnd.refl (w:World) (cb:Nat) (vo:Value):PkEnd w w cb vo vo:=⟨rfl,rfl,rfl,Nat.le_refl _,fun _ _ _ _=>rfl,.inl rfl⟩
theorem PkEnd.trans {a b c:World} {cb:Nat} {u v x:Value} (h:PkEnd a b cb u v) (k:PkEnd b c cb v x):PkEnd a c cb u x:=by
 obtain⟨h1,h2,h3,h4,h5,h6⟩:=h;obtain⟨k1,k2,k3,k4,k5,k6⟩:=k;refine⟨k1.trans h1,k2.trans h2,k3.trans h3,Nat.le_trans h4 k4,fun i hi hc hv=>?_,?_⟩
 ·refine(k5 i (by omega) hc ?_).trans (h5 i hi hc hv)
  rcases h6 with h | h
  ·rw[h];exact hv
  ·intro e;have:=h i e;omega
 ·rcases k6 with k | k
  ·rw[k]
   exact h6
  ·exact .inr fun g hg=>by have:=k g hg;omega
theorem PkEnd.below {a b c:World} {cb:Nat} {u v:Value} (h:PkEnd a b cb u v) (k:Below b.heap.size b c):PkEnd a c cb u v:=h.trans ⟨k.os,k.tape,k.output,k.size,fun i hi _ _=>k.block i hi,.inl rfl⟩
def Xc (X:Nat→Prop) (C:Nat) (vk:Value) (q:Nat):Prop:=X q∨q=C∨vk.ownBlock=some q
def LaRel (w:World) (lb cb B C:Nat) (X:Nat→Prop) (vo0 vo vk:Value) (x:Nod) (CS:List Cel) (RS:List Int) (wr:World):Prop:=
 PkSt wr lb cb B (Xc X C vk) vo CS∧wr.ownsRow (C+1) 3 1 vk RS.length (ints RS)∧wr.heap[C]? = some (.cells #[.int .i64 x.k,.int .i64 x.n,.string x.a,.string x.m,vk] 78 (0,0))∧PkEnd w wr cb vo0 vo∧
  (∀g,vo.ownBlock=some g→g≠C∧vk.ownBlock≠some g)
theorem LaRel.step {w wr w2 w6:World} {lb cb B C:Nat} {X:Nat→Prop} {vo0 vo vo2 vk v6:Value} {x:Nod} {CS CS2:List Cel} {RS:List Int} {z:Int} {ob:Obj} (hC:w.heap.size=C) (hlc:lb<C∧cb<C∧B≤C)
  (h:LaRel w lb cb B C X vo0 vo vk x CS RS wr) (h2:PkSt w2 lb cb B (Xc X C vk) vo2 CS2) (he:PkEnd wr w2 cb vo vo2)
  (ho6:w6.ownsRow (C+1) 3 1 v6 (RS.length+1) (ints RS++[.int .i64 z])) (hg6:(w2.alloc ob).grownBy w6 vk.ownBlock) (hat6:v6.ownBlock=vk.ownBlock∨v6.ownBlock=some (w2.heap.size+1)) :
  LaRel w lb cb B C X vo0 vo2 v6 x CS2 (RS++[z]) (w6.setCell ⟨C,4,none⟩ v6)∧(∀b,b<wr.heap.size→b≠cb→vo.ownBlock≠some b→b≠C→vk.ownBlock≠some b→(w6.setCell ⟨C,4,none⟩ v6).heap[b]? = wr.heap[b]?):=by
 obtain⟨⟨_,_,_,vs,ho,hf⟩,hk,hc,hend,hap⟩:=h;obtain⟨g1,g2,g3,vs2,ho2,hf2⟩:=h2;obtain⟨e1,e2,e3,hs2,hst,hvo⟩:=he;have hCr:=qC hc;have hkl:=hk.lt;have h6l:=ho6.lt;have hol2:=ho2.lt;have hsa:(w2.alloc ob).heap.size=w2.heap.size+1:=by simp
 have hs6:=hg6.size;have hsz7:(w6.setCell ⟨C,4,none⟩ v6).heap.size=w6.heap.size:=by simp[World.setCell]
 have hw:w.heap.size≤wr.heap.size:=hend.2.2.2.1;have hap2:∀g,vo2.ownBlock=some g→g≠C∧vk.ownBlock≠some g:=by
  intro g hg
  rcases hvo with h | h
  ·exact hap g (by rw[←h];exact hg)
  ·have h1:=h g hg
   exact⟨by omega,fun e=>by have:=(hkl g e).2;omega⟩
 have hcC:cb≠C:=by omega
 have hlC:lb≠C:=by omega
 have hck:vk.ownBlock≠some cb:=fun e=>by have:=(hkl cb e).1;omega
 have hlk:vk.ownBlock≠some lb:=fun e=>by have:=(hkl lb e).1;omega
 have h67:∀b,b<w2.heap.size→b≠C→vk.ownBlock≠some b→(w6.setCell ⟨C,4,none⟩ v6).heap[b]? = w2.heap[b]?:=by
  intro b h1 h2 h3;rw[Below.heap_setCell _ _ _ _ h2,hg6.block b (by omega) (fun e=>h3 e.symm),Below.heap_alloc _ _ _ h1]
 have hC2:w2.heap[C]? = some (.cells #[.int .i64 x.k,.int .i64 x.n,.string x.a,.string x.m,vk] 78 (0,0)):=(hst C hCr (by omega) (fun e=>(hap C e).1 rfl)).trans hc;have hC6:w6.heap[C]? = some (.cells #[.int .i64 x.k,.int .i64 x.n,.string x.a,.string x.m,vk] 78 (0,0)):=by
  rw[hg6.block C (by omega) (fun e=>by have:=(hkl C e.symm).1;omega),Below.heap_alloc _ _ _ (by omega)];exact hC2
 refine⟨⟨⟨?_,?_,g3,vs2,?_,?_⟩,?_,?_,?_,?_⟩,?_⟩
 ·rw[h67 lb (qC g1) hlC hlk];exact g1
 ·rw[h67 cb (qC g2) hcC hck];exact g2
 ·have h1:w6.ownsRow B 78 5 vo2 CS2.length (flat CS2 vs2):=(ho2.alloc ob).kept hg6 (by
   cases hv:vo2.ownBlock with
   | none=>exact .inl rfl
   | some g=>exact .inr fun e=>(hap2 g hv).2 e.symm)
  exact zG h1 _ _ fun g hg=>(hap2 g hg).1
 ·refine hf2.keep (fun q hq=>?_) fun b hb=>?_
  ·obtain⟨q1,q2,q3,q4⟩:=hq
   refine⟨q1,by omega,q3,fun hx=>q4 ?_⟩
   rcases hx with hx | hx | hx
   ·exact .inl hx
   ·exact .inr (.inl hx)
   ·rcases hat6 with h | h
    ·exact .inr (.inr (by rw[←h];exact hx))
    ·rw[h] at hx;injection hx with hx;omega
  ·obtain⟨q1,q2,q3,q4⟩:=hb
   exact h67 b q2 (fun e=>q4 (.inr (.inl e))) (fun e=>q4 (.inr (.inr e)))
 ·rw[zZk,List.length_append]
  exact zG ho6 _ _ fun g hg=>by have:=(h6l g hg).1;simp only;omega
 ·rw[yU _ hC6];rfl
 ·obtain⟨d1,d2,d3,d4,d5,d6⟩:=hend
  have hend2:PkEnd w w2 cb vo0 vo2:=PkEnd.trans ⟨d1,d2,d3,d4,d5,d6⟩ ⟨e1,e2,e3,hs2,hst,hvo⟩;obtain⟨m1,m2,m3,m4,m5,m6⟩:=hend2;refine⟨(show w6.os=_ from hg6.os.trans m1),(show w6.tape=_ from hg6.tape.trans m2),(show w6.output=_ from hg6.output.trans m3),by omega,fun b hb hbc hbv=>?_,m6⟩;rw[h67 b (by omega) (by omega) (fun e=>by have:=(hkl b e).1;omega)];exact m5 b hb hbc hbv
 ·intro g hg
  refine⟨(hap2 g hg).1,?_⟩
  rcases hat6 with h | h
  ·rw[h];exact(hap2 g hg).2
  ·rw[h];intro e;injection e with e;have:=(hol2 g hg).2;omega
 ·intro b hb hbc hbv hbC hbk
  rw[h67 b (by omega) hbC hbk];exact hst b hb hbc hbv
theorem LaRel.end {w wr w4:World} {lb cb B C:Nat} {X:Nat→Prop} {vo0 vo vk v4:Value} {x:Nod} {CS:List Cel} {RS:List Int} {ob:Obj} {vs:List Value} (hC:w.heap.size=C) (hlc:lb<C∧cb<C∧B≤C) (hX:∀q,X q→q<C) (hXc:X cb) (hne:lb≠cb) (hvo:vo.ownBlock≠some lb∧vo.ownBlock≠some cb)
  (g1:wr.heap[lb]? = some (.cells #[.func (.func 158) #[] #[.pointer (some ⟨lb,0,none⟩),.pointer (some ⟨cb,0,none⟩)]] 116 (0,0))) (g2:wr.heap[cb]? = some (.cells #[vo] 36 (0,0)))
  (hf:CsF wr (Sb B (Xc X C vk) wr vo) vs CS)
  (hk:wr.ownsRow (C+1) 3 1 vk RS.length (ints RS)) (hend:PkEnd w wr cb vo0 vo) (hap:∀g,vo.ownBlock=some g→g≠C∧vk.ownBlock≠some g)
  (ho4:w4.ownsRow B 78 5 v4 (CS.length+1) (flat CS vs++[.int .i64 x.k,.int .i64 x.n,.string x.a,.string x.m,vk])) (hg4:(wr.alloc ob).grownBy w4 vo.ownBlock) (hat4:v4.ownBlock=vo.ownBlock∨v4.ownBlock=some (wr.heap.size+1)) :
  PkSt (w4.setCell ⟨cb,0,none⟩ v4) lb cb B X v4 (CS++[⟨x,RS⟩])∧PkEnd w (w4.setCell ⟨cb,0,none⟩ v4) cb vo0 v4:=by
 have hkl:=hk.lt;have h4l:=ho4.lt;have hsa:(wr.alloc ob).heap.size=wr.heap.size+1:=by simp
 have hs4:=hg4.size;have hsz7:(w4.setCell ⟨cb,0,none⟩ v4).heap.size=w4.heap.size:=by simp[World.setCell]
 have hw:w.heap.size≤wr.heap.size:=hend.2.2.2.1;have hst:∀b,b<wr.heap.size→b≠cb→vo.ownBlock≠some b→(w4.setCell ⟨cb,0,none⟩ v4).heap[b]? = wr.heap[b]?:=by
  intro b h1 h2 h3;rw[Below.heap_setCell _ _ _ _ h2,hg4.block b (by omega) (fun e=>h3 e.symm),Below.heap_alloc _ _ _ h1]
 obtain⟨hvl,hvc⟩:=hvo;have hlr:=qC g1;have hcr:=qC g2;have hc4:w4.heap[cb]? = some (.cells #[vo] 36 (0,0)):=by
  rw[hg4.block cb (by have:=qC g2;omega) (fun e=>hvc e.symm),Below.heap_alloc _ _ _ (qC g2)];exact g2
 have hS:∀q,B≤q→q<wr.heap.size→vo.ownBlock≠some q→¬X q→Sb B X (w4.setCell ⟨cb,0,none⟩ v4) v4 q:=by
  intro q h1 h2 h3 h4;refine⟨h1,by omega,?_,h4⟩
  rcases hat4 with h | h
  ·rw[h];exact h3
  ·rw[h];intro e;injection e with e;omega
 refine⟨⟨?_,?_,?_,vs++[vk],?_,?_⟩,?_⟩
 ·rw[hst lb (qC g1) hne hvl];exact g1
 ·rw[yU _ hc4];rfl
 ·rcases hat4 with h | h
  ·rw[h];exact⟨hvl,hvc⟩
  ·rw[h]
   exact⟨fun e=>by injection e with e;omega,fun e=>by injection e with e;omega⟩
 ·have h4c:v4.ownBlock≠some cb:=by
   rcases hat4 with h | h
   ·rw[h];exact hvc
   ·rw[h];intro e;injection e with e;omega
  rw[nK _ _ hf.len,List.length_append];exact zG ho4 _ _ fun g hg=>fun e=>h4c (by rw[hg,e])
 ·refine CsF.app (hf.keep (fun q hq=>hS q hq.1 hq.2.1 hq.2.2.1 fun hx=>hq.2.2.2 (.inl hx)) fun b hb=>hst b hb.2.1 (fun e=>hb.2.2.2 (.inl (by rw[e];exact hXc))) hb.2.2.1) ⟨?_,trivial⟩
  refine(SpS.own (S:=fun q'=>vk.ownBlock=some q') hk fun g hg=>hg).keep (fun q' h=>hS q' (by have:=(hkl q' h).1;omega) (hkl q' h).2 (fun e=>(hap q' e).2 h) fun hx=>by have:=(hkl q' h).1;have:=hX q' hx;omega) fun b h=>hst b (hkl b h).2 (by have:=(hkl b h).1;omega) fun e=>(hap b e).2 h
 ·obtain⟨m1,m2,m3,m4,m5,m6⟩:=hend
  refine⟨(show w4.os=_ from hg4.os.trans m1),(show w4.tape=_ from hg4.tape.trans m2),(show w4.output=_ from hg4.output.trans m3),by omega,fun b hb hbc hbv=>?_,?_⟩
  ·rw[hst b (by omega) hbc ?_]
   ·exact m5 b hb hbc hbv
   ·rcases m6 with h | h
    ·rw[h];exact hbv
    ·intro e;have:=h b e;omega
  ·rcases hat4 with h | h
   ·rw[h];exact m6
   ·exact .inr fun g hg=>by rw[h] at hg;injection hg with hg;omega
end Go.Proofs.YtbpijnalmakfaaaGreatDoor
