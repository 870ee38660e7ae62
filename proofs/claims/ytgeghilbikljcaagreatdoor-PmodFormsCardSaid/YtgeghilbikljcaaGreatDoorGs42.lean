/-
  Layer 5, the program's isType, isExpr, isMod, isSig, isSpec, isDecl: what they tell of a node, Kind by Kind (written by gsh.py).
-/
import Derived.Test.YtgeghilbikljcaaGreatDoorGs41
set_option maxHeartbeats 40000000
set_option maxRecDepth 100000
namespace Go.Proofs.YtgeghilbikljcaaGreatDoor
open Go.RowKit
theorem zJc (x:Nod) (f:Fr) (w:World) (v:Value) (hk:x.k=1) (hn:Nd1 x f) (hx:B.Nx w) (hv:HasT w v (some (x,f))):Calls Tryz.prog 107 #[v] w (TelB (isT B.nck B.long (x,f) 1) w):=by
 have HE:Hid (isT B.nck B.long (x,f) 1=(numB x 0 0&&seqK (IF f) [])):=Lib.hid (by show isX _ _ x (IF f) 1=_;rw[qL hk (by rfl),yP,zO _ _ (by rfl)];rfl);rw[HE.out];obtain⟨q,p,A,c',rfl,hq,c0,c1,c2,c3,c4,hcc,hkid⟩:=InT.open hv;rw[hk] at c0;have cH:=zN x f w _ hv;have cT:∀w1,Up w w1->Calls Tryz.prog 102 #[.pointer (some ⟨q,p,none⟩),.slice none 0 0] w1 (TelB (seqK (IF f) []) w1):=fun w1 u=>qK [] x f w1 _ none 0 (Nx.up hx u) (hv.up u) hn.hf (by decide) (fun _ _ _ h=>by cases h) (fun _ _ _ _ h=>by cases h)
 obtain⟨hb,hhb⟩:∃hb,numB x 0 0=hb:=⟨_,rfl⟩;obtain⟨tb,htb⟩:∃tb,seqK (IF f) []=tb:=⟨_,rfl⟩;rw[hhb,htb];rw[hhb] at cH;rw[htb] at cT;clear HE hhb htb hv hk hn hx hq c1 c2 c3 c4 hcc hkid
 cases hb
 ·go_enter Tryz.func107,Tryz.ntmps107
  go_wp2_with fail;refine cH.mono ?_;rintro e w1 ⟨rfl,u1⟩;go_wp2_with fail
  go_ret
  exact qD rfl u1
 ·go_enter Tryz.func107,Tryz.ntmps107
  go_wp2_with fail;refine cH.mono ?_;rintro e w1 ⟨rfl,u1⟩;go_wp2_with fail;refine(cT w1 u1).mono ?_;rintro e w2 ⟨rfl,u2⟩;go_wp2_with fail
  go_ret
  exact qD (by cases tb<;>rfl) (Up.trans (u1) u2)
theorem zJd (x:Nod) (f:Fr) (w:World) (v:Value) (hk:x.k=2) (hn:Nd1 x f) (hx:B.Nx w) (hv:HasT w v (some (x,f))):Calls Tryz.prog 107 #[v] w (TelB (isT B.nck B.long (x,f) 1) w):=by
 have HE:Hid (isT B.nck B.long (x,f) 1=(numB x 0 0&&seqK (IF f) [])):=Lib.hid (by show isX _ _ x (IF f) 1=_;rw[qL hk (by rfl),yP,zO _ _ (by rfl)];rfl);rw[HE.out];obtain⟨q,p,A,c',rfl,hq,c0,c1,c2,c3,c4,hcc,hkid⟩:=InT.open hv;rw[hk] at c0;have cH:=zN x f w _ hv;have cT:∀w1,Up w w1->Calls Tryz.prog 102 #[.pointer (some ⟨q,p,none⟩),.slice none 0 0] w1 (TelB (seqK (IF f) []) w1):=fun w1 u=>qK [] x f w1 _ none 0 (Nx.up hx u) (hv.up u) hn.hf (by decide) (fun _ _ _ h=>by cases h) (fun _ _ _ _ h=>by cases h)
 obtain⟨hb,hhb⟩:∃hb,numB x 0 0=hb:=⟨_,rfl⟩;obtain⟨tb,htb⟩:∃tb,seqK (IF f) []=tb:=⟨_,rfl⟩;rw[hhb,htb];rw[hhb] at cH;rw[htb] at cT;clear HE hhb htb hv hk hn hx hq c1 c2 c3 c4 hcc hkid
 cases hb
 ·go_enter Tryz.func107,Tryz.ntmps107
  go_wp2_with fail;refine cH.mono ?_;rintro e w1 ⟨rfl,u1⟩;go_wp2_with fail
  go_ret
  exact qD rfl u1
 ·go_enter Tryz.func107,Tryz.ntmps107
  go_wp2_with fail;refine cH.mono ?_;rintro e w1 ⟨rfl,u1⟩;go_wp2_with fail;refine(cT w1 u1).mono ?_;rintro e w2 ⟨rfl,u2⟩;go_wp2_with fail
  go_ret
  exact qD (by cases tb<;>rfl) (Up.trans (u1) u2)
theorem zJe (x:Nod) (f:Fr) (w:World) (v:Value) (hk:x.k=3) (hn:Nd1 x f) (hx:B.Nx w) (hv:HasT w v (some (x,f))):Calls Tryz.prog 107 #[v] w (TelB (isT B.nck B.long (x,f) 1) w):=by
 have HE:Hid (isT B.nck B.long (x,f) 1=(numB x 0 0&&seqK (IF f) [])):=Lib.hid (by show isX _ _ x (IF f) 1=_;rw[qL hk (by rfl),yP,zO _ _ (by rfl)];rfl);rw[HE.out];obtain⟨q,p,A,c',rfl,hq,c0,c1,c2,c3,c4,hcc,hkid⟩:=InT.open hv;rw[hk] at c0;have cH:=zN x f w _ hv;have cT:∀w1,Up w w1->Calls Tryz.prog 102 #[.pointer (some ⟨q,p,none⟩),.slice none 0 0] w1 (TelB (seqK (IF f) []) w1):=fun w1 u=>qK [] x f w1 _ none 0 (Nx.up hx u) (hv.up u) hn.hf (by decide) (fun _ _ _ h=>by cases h) (fun _ _ _ _ h=>by cases h)
 obtain⟨hb,hhb⟩:∃hb,numB x 0 0=hb:=⟨_,rfl⟩;obtain⟨tb,htb⟩:∃tb,seqK (IF f) []=tb:=⟨_,rfl⟩;rw[hhb,htb];rw[hhb] at cH;rw[htb] at cT;clear HE hhb htb hv hk hn hx hq c1 c2 c3 c4 hcc hkid
 cases hb
 ·go_enter Tryz.func107,Tryz.ntmps107
  go_wp2_with fail;refine cH.mono ?_;rintro e w1 ⟨rfl,u1⟩;go_wp2_with fail
  go_ret
  exact qD rfl u1
 ·go_enter Tryz.func107,Tryz.ntmps107
  go_wp2_with fail;refine cH.mono ?_;rintro e w1 ⟨rfl,u1⟩;go_wp2_with fail;refine(cT w1 u1).mono ?_;rintro e w2 ⟨rfl,u2⟩;go_wp2_with fail
  go_ret
  exact qD (by cases tb<;>rfl) (Up.trans (u1) u2)
theorem zJf (x:Nod) (f:Fr) (w:World) (v:Value) (hk:x.k=4) (hn:Nd1 x f) (hx:B.Nx w) (hv:HasT w v (some (x,f))):Calls Tryz.prog 107 #[v] w (TelB (isT B.nck B.long (x,f) 1) w):=by
 have HE:Hid (isT B.nck B.long (x,f) 1=(texB x B.long isEmp&&seqK (IF f) [])):=Lib.hid (by show isX _ _ x (IF f) 1=_;rw[qL hk (by rfl),yE (A:=B.long) (M:=isEmp) (fun _=>rfl) (fun _=>rfl),zO _ _ (by rfl)];rfl);rw[HE.out];obtain⟨q,p,A,c',rfl,hq,c0,c1,c2,c3,c4,hcc,hkid⟩:=InT.open hv;rw[hk] at c0;have cH:=xW x f w _ hv hn.hs.1 hx;have cT:∀w1,Up w w1->Calls Tryz.prog 102 #[.pointer (some ⟨q,p,none⟩),.slice none 0 0] w1 (TelB (seqK (IF f) []) w1):=fun w1 u=>qK [] x f w1 _ none 0 (Nx.up hx u) (hv.up u) hn.hf (by decide) (fun _ _ _ h=>by cases h) (fun _ _ _ _ h=>by cases h)
 obtain⟨hb,hhb⟩:∃hb,texB x B.long isEmp=hb:=⟨_,rfl⟩;obtain⟨tb,htb⟩:∃tb,seqK (IF f) []=tb:=⟨_,rfl⟩;rw[hhb,htb];rw[hhb] at cH;rw[htb] at cT;clear HE hhb htb hv hk hn hx hq c1 c2 c3 c4 hcc hkid
 cases hb
 ·go_enter Tryz.func107,Tryz.ntmps107
  go_wp2_with fail;refine cH.mono ?_;rintro e w1 ⟨rfl,u1⟩;go_wp2_with fail
  go_ret
  exact qD rfl u1
 ·go_enter Tryz.func107,Tryz.ntmps107
  go_wp2_with fail;refine cH.mono ?_;rintro e w1 ⟨rfl,u1⟩;go_wp2_with fail;refine(cT w1 u1).mono ?_;rintro e w2 ⟨rfl,u2⟩;go_wp2_with fail
  go_ret
  exact qD (by cases tb<;>rfl) (Up.trans (u1) u2)
theorem zJg (x:Nod) (f:Fr) (w:World) (v:Value) (hk:x.k=5) (hn:Nd1 x f) (hx:B.Nx w) (hv:HasT w v (some (x,f))):Calls Tryz.prog 107 #[v] w (TelB (isT B.nck B.long (x,f) 1) w):=by
 have HE:Hid (isT B.nck B.long (x,f) 1=(numB x 0 0&&seqK (IF f) [1,1])):=Lib.hid (by show isX _ _ x (IF f) 1=_;rw[qL hk (by rfl),yP,zO _ _ (by rfl)];rfl);rw[HE.out];obtain⟨q,p,A,c',rfl,hq,c0,c1,c2,c3,c4,hcc,hkid⟩:=InT.open hv;rw[hk] at c0;have cH:=zN x f w _ hv;have cT:∀w1,Up w w1->Calls Tryz.prog 102 #[.pointer (some ⟨q,p,none⟩),.slice (some ⟨w1.heap.size,0,none⟩) 2 2] (w1.alloc (.cells #[.func (.func 107) #[] #[],.func (.func 107) #[] #[]] 91)) (TelB (seqK (IF f) [1,1]) (w1.alloc (.cells #[.func (.func 107) #[] #[],.func (.func 107) #[] #[]] 91))):=fun w1 u=>qK [1,1] x f _ _ _ _ (Nx.up hx (u.alloc _)) (hv.up (u.alloc _)) hn.hf (by decide) (zJ (fnsC [1,1]) (heap_alloc_new w1 _)) (qQ hn (by decide))
 obtain⟨hb,hhb⟩:∃hb,numB x 0 0=hb:=⟨_,rfl⟩;obtain⟨tb,htb⟩:∃tb,seqK (IF f) [1,1]=tb:=⟨_,rfl⟩;rw[hhb,htb];rw[hhb] at cH;rw[htb] at cT;clear HE hhb htb hv hk hn hx hq c1 c2 c3 c4 hcc hkid
 cases hb
 ·go_enter Tryz.func107,Tryz.ntmps107
  go_wp2_with fail;refine cH.mono ?_;rintro e w1 ⟨rfl,u1⟩;go_wp2_with fail
  go_ret
  exact qD rfl u1
 ·go_enter Tryz.func107,Tryz.ntmps107
  go_wp2_with fail;refine cH.mono ?_;rintro e w1 ⟨rfl,u1⟩;go_wp2_with fail;refine(cT w1 u1).mono ?_;rintro e w2 ⟨rfl,u2⟩;go_wp2_with fail
  go_ret
  exact qD (by cases tb<;>rfl) (Up.trans (u1.alloc _) u2)
theorem zJh (x:Nod) (f:Fr) (w:World) (v:Value) (hk:x.k=6) (hn:Nd1 x f) (hx:B.Nx w) (hv:HasT w v (some (x,f))):Calls Tryz.prog 107 #[v] w (TelB (isT B.nck B.long (x,f) 1) w):=by
 have HE:Hid (isT B.nck B.long (x,f) 1=(numB x 0 0&&seqK (IF f) [1,1])):=Lib.hid (by show isX _ _ x (IF f) 1=_;rw[qL hk (by rfl),yP,zO _ _ (by rfl)];rfl);rw[HE.out];obtain⟨q,p,A,c',rfl,hq,c0,c1,c2,c3,c4,hcc,hkid⟩:=InT.open hv;rw[hk] at c0;have cH:=zN x f w _ hv;have cT:∀w1,Up w w1->Calls Tryz.prog 102 #[.pointer (some ⟨q,p,none⟩),.slice (some ⟨w1.heap.size,0,none⟩) 2 2] (w1.alloc (.cells #[.func (.func 107) #[] #[],.func (.func 107) #[] #[]] 91)) (TelB (seqK (IF f) [1,1]) (w1.alloc (.cells #[.func (.func 107) #[] #[],.func (.func 107) #[] #[]] 91))):=fun w1 u=>qK [1,1] x f _ _ _ _ (Nx.up hx (u.alloc _)) (hv.up (u.alloc _)) hn.hf (by decide) (zJ (fnsC [1,1]) (heap_alloc_new w1 _)) (qQ hn (by decide))
 obtain⟨hb,hhb⟩:∃hb,numB x 0 0=hb:=⟨_,rfl⟩;obtain⟨tb,htb⟩:∃tb,seqK (IF f) [1,1]=tb:=⟨_,rfl⟩;rw[hhb,htb];rw[hhb] at cH;rw[htb] at cT;clear HE hhb htb hv hk hn hx hq c1 c2 c3 c4 hcc hkid
 cases hb
 ·go_enter Tryz.func107,Tryz.ntmps107
  go_wp2_with fail;refine cH.mono ?_;rintro e w1 ⟨rfl,u1⟩;go_wp2_with fail
  go_ret
  exact qD rfl u1
 ·go_enter Tryz.func107,Tryz.ntmps107
  go_wp2_with fail;refine cH.mono ?_;rintro e w1 ⟨rfl,u1⟩;go_wp2_with fail;refine(cT w1 u1).mono ?_;rintro e w2 ⟨rfl,u2⟩;go_wp2_with fail
  go_ret
  exact qD (by cases tb<;>rfl) (Up.trans (u1.alloc _) u2)
theorem zJi (x:Nod) (f:Fr) (w:World) (v:Value) (hk:x.k=7) (hn:Nd1 x f) (hx:B.Nx w) (hv:HasT w v (some (x,f))):Calls Tryz.prog 107 #[v] w (TelB (isT B.nck B.long (x,f) 1) w):=by
 have HE:Hid (isT B.nck B.long (x,f) 1=(texB x B.nck isEmp&&seqOk (IF f) [67])):=Lib.hid (by show isX _ _ x (IF f) 1=_;rw[qL hk (by rfl),yE (A:=B.nck) (M:=isEmp) (fun _=>rfl) (fun _=>rfl)]);rw[HE.out];obtain⟨q,p,A,c',rfl,hq,c0,c1,c2,c3,c4,hcc,hkid⟩:=InT.open hv;rw[hk] at c0;have cH:=zZ x f w _ hv hn.hs.1;have cT:∀w1,Up w w1->Calls Tryz.prog 108 #[.pointer (some ⟨q,p,none⟩)] w1 (TelB (seqOk (IF f) [67]) w1):=fun w1 u=>tH x f w1 _ (Nx.up hx u) (hv.up u) hn.hs hn.hf fun i t h=>⟨(hn.ih i t h).ln,(hn.ih i t h).kk⟩
 obtain⟨hb,hhb⟩:∃hb,texB x B.nck isEmp=hb:=⟨_,rfl⟩;obtain⟨tb,htb⟩:∃tb,seqOk (IF f) [67]=tb:=⟨_,rfl⟩;rw[hhb,htb];rw[hhb] at cH;rw[htb] at cT;clear HE hhb htb hv hk hn hx hq c1 c2 c3 c4 hcc hkid
 cases hb
 ·go_enter Tryz.func107,Tryz.ntmps107
  go_wp2_with fail;refine cH.mono ?_;rintro e w1 ⟨rfl,u1⟩;go_wp2_with fail
  go_ret
  exact qD rfl u1
 ·go_enter Tryz.func107,Tryz.ntmps107
  go_wp2_with fail;refine cH.mono ?_;rintro e w1 ⟨rfl,u1⟩;go_wp2_with fail;refine(cT w1 u1).mono ?_;rintro e w2 ⟨rfl,u2⟩;go_wp2_with fail
  go_ret
  exact qD (by cases tb<;>rfl) (Up.trans (u1) u2)
theorem zX8:∀r∈RWS,r.cat=1->r.kind∈[(1:Int),(2:Int),(3:Int),(4:Int),(5:Int),(6:Int),(7:Int)]:=by decide
theorem zX9 (x:Nod) (f:Fr) (w:World) (v:Value) (n1:¬x.k=1) (n2:¬x.k=2) (n3:¬x.k=3) (n4:¬x.k=4) (n5:¬x.k=5) (n6:¬x.k=6) (n7:¬x.k=7) (hv:HasT w v (some (x,f))):Calls Tryz.prog 107 #[v] w (TelB (isT B.nck B.long (x,f) 1) w):=by
 have HE:Hid (isT B.nck B.long (x,f) 1=false):=Lib.hid (jZ fun r hr hc e=>by have:=zX8 r hr hc;rw[e] at this;simp only[List.mem_cons,List.not_mem_nil,or_false] at this;omega);rw[HE.out];obtain⟨q,p,A,c',rfl,hq,c0,c1,c2,c3,c4,hcc,hkid⟩:=InT.open hv;clear hv HE hq c1 c2 c3 c4 hcc hkid
 go_enter Tryz.func107,Tryz.ntmps107
 go_wp2_with fail
 go_ret
 exact qD rfl (Up.refl _)
theorem zVo (x:Nod) (f:Fr) (hn:Nd1 x f):TelAt 107 (isT B.nck B.long (x,f) 1) (x,f):=fun w v hx hv=>by
 by_cases n1:x.k=1
 ·exact zJc x f w v n1 hn hx hv
 by_cases n2:x.k=2
 ·exact zJd x f w v n2 hn hx hv
 by_cases n3:x.k=3
 ·exact zJe x f w v n3 hn hx hv
 by_cases n4:x.k=4
 ·exact zJf x f w v n4 hn hx hv
 by_cases n5:x.k=5
 ·exact zJg x f w v n5 hn hx hv
 by_cases n6:x.k=6
 ·exact zJh x f w v n6 hn hx hv
 by_cases n7:x.k=7
 ·exact zJi x f w v n7 hn hx hv
 exact zX9 x f w v n1 n2 n3 n4 n5 n6 n7 hv
theorem zQu (x:Nod) (f:Fr) (w:World) (v:Value) (hk:x.k=20) (hn:Nd1 x f) (hx:B.Nx w) (hv:HasT w v (some (x,f))):Calls Tryz.prog 106 #[v] w (TelB (isT B.nck B.long (x,f) 2) w):=by
 have HE:Hid (isT B.nck B.long (x,f) 2=(numB x (-1073741824) 1073741824&&seqK (IF f) [])):=Lib.hid (by show isX _ _ x (IF f) 2=_;rw[qL hk (by rfl),yP,zO _ _ (by rfl)];rfl);rw[HE.out];obtain⟨q,p,A,c',rfl,hq,c0,c1,c2,c3,c4,hcc,hkid⟩:=InT.open hv;rw[hk] at c0;have cH:=jM x f (-1073741824) 1073741824 w _ hv;have cT:∀w1,Up w w1->Calls Tryz.prog 102 #[.pointer (some ⟨q,p,none⟩),.slice none 0 0] w1 (TelB (seqK (IF f) []) w1):=fun w1 u=>qK [] x f w1 _ none 0 (Nx.up hx u) (hv.up u) hn.hf (by decide) (fun _ _ _ h=>by cases h) (fun _ _ _ _ h=>by cases h)
 obtain⟨hb,hhb⟩:∃hb,numB x (-1073741824) 1073741824=hb:=⟨_,rfl⟩;obtain⟨tb,htb⟩:∃tb,seqK (IF f) []=tb:=⟨_,rfl⟩;rw[hhb,htb];rw[hhb] at cH;rw[htb] at cT;clear HE hhb htb hv hk hn hx hq c1 c2 c3 c4 hcc hkid
 cases hb
 ·go_enter Tryz.func106,Tryz.ntmps106
  go_wp2_with fail;refine cH.mono ?_;rintro e w1 ⟨rfl,u1⟩;go_wp2_with fail
  go_ret
  exact qD rfl u1
 ·go_enter Tryz.func106,Tryz.ntmps106
  go_wp2_with fail;refine cH.mono ?_;rintro e w1 ⟨rfl,u1⟩;go_wp2_with fail;refine(cT w1 u1).mono ?_;rintro e w2 ⟨rfl,u2⟩;go_wp2_with fail
  go_ret
  exact qD (by cases tb<;>rfl) (Up.trans (u1) u2)
theorem zQv (x:Nod) (f:Fr) (w:World) (v:Value) (hk:x.k=21) (hn:Nd1 x f) (hx:B.Nx w) (hv:HasT w v (some (x,f))):Calls Tryz.prog 106 #[v] w (TelB (isT B.nck B.long (x,f) 2) w):=by
 have HE:Hid (isT B.nck B.long (x,f) 2=(numB x 0 1&&seqK (IF f) [])):=Lib.hid (by show isX _ _ x (IF f) 2=_;rw[qL hk (by rfl),yP,zO _ _ (by rfl)];rfl);rw[HE.out];obtain⟨q,p,A,c',rfl,hq,c0,c1,c2,c3,c4,hcc,hkid⟩:=InT.open hv;rw[hk] at c0;have cH:=jM x f 0 1 w _ hv;have cT:∀w1,Up w w1->Calls Tryz.prog 102 #[.pointer (some ⟨q,p,none⟩),.slice none 0 0] w1 (TelB (seqK (IF f) []) w1):=fun w1 u=>qK [] x f w1 _ none 0 (Nx.up hx u) (hv.up u) hn.hf (by decide) (fun _ _ _ h=>by cases h) (fun _ _ _ _ h=>by cases h)
 obtain⟨hb,hhb⟩:∃hb,numB x 0 1=hb:=⟨_,rfl⟩;obtain⟨tb,htb⟩:∃tb,seqK (IF f) []=tb:=⟨_,rfl⟩;rw[hhb,htb];rw[hhb] at cH;rw[htb] at cT;clear HE hhb htb hv hk hn hx hq c1 c2 c3 c4 hcc hkid
 cases hb
 ·go_enter Tryz.func106,Tryz.ntmps106
  go_wp2_with fail;refine cH.mono ?_;rintro e w1 ⟨rfl,u1⟩;go_wp2_with fail
  go_ret
  exact qD rfl u1
 ·go_enter Tryz.func106,Tryz.ntmps106
  go_wp2_with fail;refine cH.mono ?_;rintro e w1 ⟨rfl,u1⟩;go_wp2_with fail;refine(cT w1 u1).mono ?_;rintro e w2 ⟨rfl,u2⟩;go_wp2_with fail
  go_ret
  exact qD (by cases tb<;>rfl) (Up.trans (u1) u2)
theorem zQw (x:Nod) (f:Fr) (w:World) (v:Value) (hk:x.k=22) (hn:Nd1 x f) (hx:B.Nx w) (hv:HasT w v (some (x,f))):Calls Tryz.prog 106 #[v] w (TelB (isT B.nck B.long (x,f) 2) w):=by
 have HE:Hid (isT B.nck B.long (x,f) 2=(numB x 0 0&&seqK (IF f) [])):=Lib.hid (by show isX _ _ x (IF f) 2=_;rw[qL hk (by rfl),yP,zO _ _ (by rfl)];rfl);rw[HE.out];obtain⟨q,p,A,c',rfl,hq,c0,c1,c2,c3,c4,hcc,hkid⟩:=InT.open hv;rw[hk] at c0;have cH:=zN x f w _ hv;have cT:∀w1,Up w w1->Calls Tryz.prog 102 #[.pointer (some ⟨q,p,none⟩),.slice none 0 0] w1 (TelB (seqK (IF f) []) w1):=fun w1 u=>qK [] x f w1 _ none 0 (Nx.up hx u) (hv.up u) hn.hf (by decide) (fun _ _ _ h=>by cases h) (fun _ _ _ _ h=>by cases h)
 obtain⟨hb,hhb⟩:∃hb,numB x 0 0=hb:=⟨_,rfl⟩;obtain⟨tb,htb⟩:∃tb,seqK (IF f) []=tb:=⟨_,rfl⟩;rw[hhb,htb];rw[hhb] at cH;rw[htb] at cT;clear HE hhb htb hv hk hn hx hq c1 c2 c3 c4 hcc hkid
 cases hb
 ·go_enter Tryz.func106,Tryz.ntmps106
  go_wp2_with fail;refine cH.mono ?_;rintro e w1 ⟨rfl,u1⟩;go_wp2_with fail
  go_ret
  exact qD rfl u1
 ·go_enter Tryz.func106,Tryz.ntmps106
  go_wp2_with fail;refine cH.mono ?_;rintro e w1 ⟨rfl,u1⟩;go_wp2_with fail;refine(cT w1 u1).mono ?_;rintro e w2 ⟨rfl,u2⟩;go_wp2_with fail
  go_ret
  exact qD (by cases tb<;>rfl) (Up.trans (u1) u2)
theorem zQx (x:Nod) (f:Fr) (w:World) (v:Value) (hk:x.k=23) (hn:Nd1 x f) (hx:B.Nx w) (hv:HasT w v (some (x,f))):Calls Tryz.prog 106 #[v] w (TelB (isT B.nck B.long (x,f) 2) w):=by
 have HE:Hid (isT B.nck B.long (x,f) 2=(texB x B.long isEmp&&seqK (IF f) [])):=Lib.hid (by show isX _ _ x (IF f) 2=_;rw[qL hk (by rfl),yE (A:=B.long) (M:=isEmp) (fun _=>rfl) (fun _=>rfl),zO _ _ (by rfl)];rfl);rw[HE.out];obtain⟨q,p,A,c',rfl,hq,c0,c1,c2,c3,c4,hcc,hkid⟩:=InT.open hv;rw[hk] at c0;have cH:=xW x f w _ hv hn.hs.1 hx;have cT:∀w1,Up w w1->Calls Tryz.prog 102 #[.pointer (some ⟨q,p,none⟩),.slice none 0 0] w1 (TelB (seqK (IF f) []) w1):=fun w1 u=>qK [] x f w1 _ none 0 (Nx.up hx u) (hv.up u) hn.hf (by decide) (fun _ _ _ h=>by cases h) (fun _ _ _ _ h=>by cases h)
 obtain⟨hb,hhb⟩:∃hb,texB x B.long isEmp=hb:=⟨_,rfl⟩;obtain⟨tb,htb⟩:∃tb,seqK (IF f) []=tb:=⟨_,rfl⟩;rw[hhb,htb];rw[hhb] at cH;rw[htb] at cT;clear HE hhb htb hv hk hn hx hq c1 c2 c3 c4 hcc hkid
 cases hb
 ·go_enter Tryz.func106,Tryz.ntmps106
  go_wp2_with fail;refine cH.mono ?_;rintro e w1 ⟨rfl,u1⟩;go_wp2_with fail
  go_ret
  exact qD rfl u1
 ·go_enter Tryz.func106,Tryz.ntmps106
  go_wp2_with fail;refine cH.mono ?_;rintro e w1 ⟨rfl,u1⟩;go_wp2_with fail;refine(cT w1 u1).mono ?_;rintro e w2 ⟨rfl,u2⟩;go_wp2_with fail
  go_ret
  exact qD (by cases tb<;>rfl) (Up.trans (u1) u2)
theorem zQy (x:Nod) (f:Fr) (w:World) (v:Value) (hk:x.k=24) (hn:Nd1 x f) (hx:B.Nx w) (hv:HasT w v (some (x,f))):Calls Tryz.prog 106 #[v] w (TelB (isT B.nck B.long (x,f) 2) w):=by
 have HE:Hid (isT B.nck B.long (x,f) 2=(texB x B.nck isEmp&&seqK (IF f) [1,2])):=Lib.hid (by show isX _ _ x (IF f) 2=_;rw[qL hk (by rfl),yE (A:=B.nck) (M:=isEmp) (fun _=>rfl) (fun _=>rfl),zO _ _ (by rfl)];rfl);rw[HE.out];obtain⟨q,p,A,c',rfl,hq,c0,c1,c2,c3,c4,hcc,hkid⟩:=InT.open hv;rw[hk] at c0;have cH:=zZ x f w _ hv hn.hs.1;have cT:∀w1,Up w w1->Calls Tryz.prog 102 #[.pointer (some ⟨q,p,none⟩),.slice (some ⟨w1.heap.size,0,none⟩) 2 2] (w1.alloc (.cells #[.func (.func 107) #[] #[],.func (.func 106) #[] #[]] 91)) (TelB (seqK (IF f) [1,2]) (w1.alloc (.cells #[.func (.func 107) #[] #[],.func (.func 106) #[] #[]] 91))):=fun w1 u=>qK [1,2] x f _ _ _ _ (Nx.up hx (u.alloc _)) (hv.up (u.alloc _)) hn.hf (by decide) (zJ (fnsC [1,2]) (heap_alloc_new w1 _)) (qQ hn (by decide))
 obtain⟨hb,hhb⟩:∃hb,texB x B.nck isEmp=hb:=⟨_,rfl⟩;obtain⟨tb,htb⟩:∃tb,seqK (IF f) [1,2]=tb:=⟨_,rfl⟩;rw[hhb,htb];rw[hhb] at cH;rw[htb] at cT;clear HE hhb htb hv hk hn hx hq c1 c2 c3 c4 hcc hkid
 cases hb
 ·go_enter Tryz.func106,Tryz.ntmps106
  go_wp2_with fail;refine cH.mono ?_;rintro e w1 ⟨rfl,u1⟩;go_wp2_with fail
  go_ret
  exact qD rfl u1
 ·go_enter Tryz.func106,Tryz.ntmps106
  go_wp2_with fail;refine cH.mono ?_;rintro e w1 ⟨rfl,u1⟩;go_wp2_with fail;refine(cT w1 u1).mono ?_;rintro e w2 ⟨rfl,u2⟩;go_wp2_with fail
  go_ret
  exact qD (by cases tb<;>rfl) (Up.trans (u1.alloc _) u2)
theorem zQz (x:Nod) (f:Fr) (w:World) (v:Value) (hk:x.k=25) (hn:Nd1 x f) (hx:B.Nx w) (hv:HasT w v (some (x,f))):Calls Tryz.prog 106 #[v] w (TelB (isT B.nck B.long (x,f) 2) w):=by
 have HE:Hid (isT B.nck B.long (x,f) 2=(numB x 0 0&&seqK (IF f) [2,2])):=Lib.hid (by show isX _ _ x (IF f) 2=_;rw[qL hk (by rfl),yP,zO _ _ (by rfl)];rfl);rw[HE.out];obtain⟨q,p,A,c',rfl,hq,c0,c1,c2,c3,c4,hcc,hkid⟩:=InT.open hv;rw[hk] at c0;have cH:=zN x f w _ hv;have cT:∀w1,Up w w1->Calls Tryz.prog 102 #[.pointer (some ⟨q,p,none⟩),.slice (some ⟨w1.heap.size,0,none⟩) 2 2] (w1.alloc (.cells #[.func (.func 106) #[] #[],.func (.func 106) #[] #[]] 91)) (TelB (seqK (IF f) [2,2]) (w1.alloc (.cells #[.func (.func 106) #[] #[],.func (.func 106) #[] #[]] 91))):=fun w1 u=>qK [2,2] x f _ _ _ _ (Nx.up hx (u.alloc _)) (hv.up (u.alloc _)) hn.hf (by decide) (zJ (fnsC [2,2]) (heap_alloc_new w1 _)) (qQ hn (by decide))
 obtain⟨hb,hhb⟩:∃hb,numB x 0 0=hb:=⟨_,rfl⟩;obtain⟨tb,htb⟩:∃tb,seqK (IF f) [2,2]=tb:=⟨_,rfl⟩;rw[hhb,htb];rw[hhb] at cH;rw[htb] at cT;clear HE hhb htb hv hk hn hx hq c1 c2 c3 c4 hcc hkid
 cases hb
 ·go_enter Tryz.func106,Tryz.ntmps106
  go_wp2_with fail;refine cH.mono ?_;rintro e w1 ⟨rfl,u1⟩;go_wp2_with fail
  go_ret
  exact qD rfl u1
 ·go_enter Tryz.func106,Tryz.ntmps106
  go_wp2_with fail;refine cH.mono ?_;rintro e w1 ⟨rfl,u1⟩;go_wp2_with fail;refine(cT w1 u1).mono ?_;rintro e w2 ⟨rfl,u2⟩;go_wp2_with fail
  go_ret
  exact qD (by cases tb<;>rfl) (Up.trans (u1.alloc _) u2)
theorem zP0 (x:Nod) (f:Fr) (w:World) (v:Value) (hk:x.k=26) (hn:Nd1 x f) (hx:B.Nx w) (hv:HasT w v (some (x,f))):Calls Tryz.prog 106 #[v] w (TelB (isT B.nck B.long (x,f) 2) w):=by
 have HE:Hid (isT B.nck B.long (x,f) 2=(numB x 0 0&&seqK (IF f) [2,2])):=Lib.hid (by show isX _ _ x (IF f) 2=_;rw[qL hk (by rfl),yP,zO _ _ (by rfl)];rfl);rw[HE.out];obtain⟨q,p,A,c',rfl,hq,c0,c1,c2,c3,c4,hcc,hkid⟩:=InT.open hv;rw[hk] at c0;have cH:=zN x f w _ hv;have cT:∀w1,Up w w1->Calls Tryz.prog 102 #[.pointer (some ⟨q,p,none⟩),.slice (some ⟨w1.heap.size,0,none⟩) 2 2] (w1.alloc (.cells #[.func (.func 106) #[] #[],.func (.func 106) #[] #[]] 91)) (TelB (seqK (IF f) [2,2]) (w1.alloc (.cells #[.func (.func 106) #[] #[],.func (.func 106) #[] #[]] 91))):=fun w1 u=>qK [2,2] x f _ _ _ _ (Nx.up hx (u.alloc _)) (hv.up (u.alloc _)) hn.hf (by decide) (zJ (fnsC [2,2]) (heap_alloc_new w1 _)) (qQ hn (by decide))
 obtain⟨hb,hhb⟩:∃hb,numB x 0 0=hb:=⟨_,rfl⟩;obtain⟨tb,htb⟩:∃tb,seqK (IF f) [2,2]=tb:=⟨_,rfl⟩;rw[hhb,htb];rw[hhb] at cH;rw[htb] at cT;clear HE hhb htb hv hk hn hx hq c1 c2 c3 c4 hcc hkid
 cases hb
 ·go_enter Tryz.func106,Tryz.ntmps106
  go_wp2_with fail;refine cH.mono ?_;rintro e w1 ⟨rfl,u1⟩;go_wp2_with fail
  go_ret
  exact qD rfl u1
 ·go_enter Tryz.func106,Tryz.ntmps106
  go_wp2_with fail;refine cH.mono ?_;rintro e w1 ⟨rfl,u1⟩;go_wp2_with fail;refine(cT w1 u1).mono ?_;rintro e w2 ⟨rfl,u2⟩;go_wp2_with fail
  go_ret
  exact qD (by cases tb<;>rfl) (Up.trans (u1.alloc _) u2)
theorem zP1 (x:Nod) (f:Fr) (w:World) (v:Value) (hk:x.k=27) (hn:Nd1 x f) (hx:B.Nx w) (hv:HasT w v (some (x,f))):Calls Tryz.prog 106 #[v] w (TelB (isT B.nck B.long (x,f) 2) w):=by
 have HE:Hid (isT B.nck B.long (x,f) 2=(numB x 0 0&&seqK (IF f) [2])):=Lib.hid (by show isX _ _ x (IF f) 2=_;rw[qL hk (by rfl),yP,zO _ _ (by rfl)];rfl);rw[HE.out];obtain⟨q,p,A,c',rfl,hq,c0,c1,c2,c3,c4,hcc,hkid⟩:=InT.open hv;rw[hk] at c0;have cH:=zN x f w _ hv;have cT:∀w1,Up w w1->Calls Tryz.prog 102 #[.pointer (some ⟨q,p,none⟩),.slice (some ⟨w1.heap.size,0,none⟩) 1 1] (w1.alloc (.cells #[.func (.func 106) #[] #[]] 91)) (TelB (seqK (IF f) [2]) (w1.alloc (.cells #[.func (.func 106) #[] #[]] 91))):=fun w1 u=>qK [2] x f _ _ _ _ (Nx.up hx (u.alloc _)) (hv.up (u.alloc _)) hn.hf (by decide) (zJ (fnsC [2]) (heap_alloc_new w1 _)) (qQ hn (by decide))
 obtain⟨hb,hhb⟩:∃hb,numB x 0 0=hb:=⟨_,rfl⟩;obtain⟨tb,htb⟩:∃tb,seqK (IF f) [2]=tb:=⟨_,rfl⟩;rw[hhb,htb];rw[hhb] at cH;rw[htb] at cT;clear HE hhb htb hv hk hn hx hq c1 c2 c3 c4 hcc hkid
 cases hb
 ·go_enter Tryz.func106,Tryz.ntmps106
  go_wp2_with fail;refine cH.mono ?_;rintro e w1 ⟨rfl,u1⟩;go_wp2_with fail
  go_ret
  exact qD rfl u1
 ·go_enter Tryz.func106,Tryz.ntmps106
  go_wp2_with fail;refine cH.mono ?_;rintro e w1 ⟨rfl,u1⟩;go_wp2_with fail;refine(cT w1 u1).mono ?_;rintro e w2 ⟨rfl,u2⟩;go_wp2_with fail
  go_ret
  exact qD (by cases tb<;>rfl) (Up.trans (u1.alloc _) u2)
theorem zP2 (x:Nod) (f:Fr) (w:World) (v:Value) (hk:x.k=28) (hn:Nd1 x f) (hx:B.Nx w) (hv:HasT w v (some (x,f))):Calls Tryz.prog 106 #[v] w (TelB (isT B.nck B.long (x,f) 2) w):=by
 have HE:Hid (isT B.nck B.long (x,f) 2=(numB x 0 0&&seqK (IF f) [2])):=Lib.hid (by show isX _ _ x (IF f) 2=_;rw[qL hk (by rfl),yP,zO _ _ (by rfl)];rfl);rw[HE.out];obtain⟨q,p,A,c',rfl,hq,c0,c1,c2,c3,c4,hcc,hkid⟩:=InT.open hv;rw[hk] at c0;have cH:=zN x f w _ hv;have cT:∀w1,Up w w1->Calls Tryz.prog 102 #[.pointer (some ⟨q,p,none⟩),.slice (some ⟨w1.heap.size,0,none⟩) 1 1] (w1.alloc (.cells #[.func (.func 106) #[] #[]] 91)) (TelB (seqK (IF f) [2]) (w1.alloc (.cells #[.func (.func 106) #[] #[]] 91))):=fun w1 u=>qK [2] x f _ _ _ _ (Nx.up hx (u.alloc _)) (hv.up (u.alloc _)) hn.hf (by decide) (zJ (fnsC [2]) (heap_alloc_new w1 _)) (qQ hn (by decide))
 obtain⟨hb,hhb⟩:∃hb,numB x 0 0=hb:=⟨_,rfl⟩;obtain⟨tb,htb⟩:∃tb,seqK (IF f) [2]=tb:=⟨_,rfl⟩;rw[hhb,htb];rw[hhb] at cH;rw[htb] at cT;clear HE hhb htb hv hk hn hx hq c1 c2 c3 c4 hcc hkid
 cases hb
 ·go_enter Tryz.func106,Tryz.ntmps106
  go_wp2_with fail;refine cH.mono ?_;rintro e w1 ⟨rfl,u1⟩;go_wp2_with fail
  go_ret
  exact qD rfl u1
 ·go_enter Tryz.func106,Tryz.ntmps106
  go_wp2_with fail;refine cH.mono ?_;rintro e w1 ⟨rfl,u1⟩;go_wp2_with fail;refine(cT w1 u1).mono ?_;rintro e w2 ⟨rfl,u2⟩;go_wp2_with fail
  go_ret
  exact qD (by cases tb<;>rfl) (Up.trans (u1.alloc _) u2)
theorem zP3 (x:Nod) (f:Fr) (w:World) (v:Value) (hk:x.k=29) (hn:Nd1 x f) (hx:B.Nx w) (hv:HasT w v (some (x,f))):Calls Tryz.prog 106 #[v] w (TelB (isT B.nck B.long (x,f) 2) w):=by
 have HE:Hid (isT B.nck B.long (x,f) 2=(texB x B.nck isEmp&&seqK (IF f) [2,2])):=Lib.hid (by show isX _ _ x (IF f) 2=_;rw[qL hk (by rfl),yE (A:=B.nck) (M:=isEmp) (fun _=>rfl) (fun _=>rfl),zO _ _ (by rfl)];rfl);rw[HE.out];obtain⟨q,p,A,c',rfl,hq,c0,c1,c2,c3,c4,hcc,hkid⟩:=InT.open hv;rw[hk] at c0;have cH:=zZ x f w _ hv hn.hs.1;have cT:∀w1,Up w w1->Calls Tryz.prog 102 #[.pointer (some ⟨q,p,none⟩),.slice (some ⟨w1.heap.size,0,none⟩) 2 2] (w1.alloc (.cells #[.func (.func 106) #[] #[],.func (.func 106) #[] #[]] 91)) (TelB (seqK (IF f) [2,2]) (w1.alloc (.cells #[.func (.func 106) #[] #[],.func (.func 106) #[] #[]] 91))):=fun w1 u=>qK [2,2] x f _ _ _ _ (Nx.up hx (u.alloc _)) (hv.up (u.alloc _)) hn.hf (by decide) (zJ (fnsC [2,2]) (heap_alloc_new w1 _)) (qQ hn (by decide))
 obtain⟨hb,hhb⟩:∃hb,texB x B.nck isEmp=hb:=⟨_,rfl⟩;obtain⟨tb,htb⟩:∃tb,seqK (IF f) [2,2]=tb:=⟨_,rfl⟩;rw[hhb,htb];rw[hhb] at cH;rw[htb] at cT;clear HE hhb htb hv hk hn hx hq c1 c2 c3 c4 hcc hkid
 cases hb
 ·go_enter Tryz.func106,Tryz.ntmps106
  go_wp2_with fail;refine cH.mono ?_;rintro e w1 ⟨rfl,u1⟩;go_wp2_with fail
  go_ret
  exact qD rfl u1
 ·go_enter Tryz.func106,Tryz.ntmps106
  go_wp2_with fail;refine cH.mono ?_;rintro e w1 ⟨rfl,u1⟩;go_wp2_with fail;refine(cT w1 u1).mono ?_;rintro e w2 ⟨rfl,u2⟩;go_wp2_with fail
  go_ret
  exact qD (by cases tb<;>rfl) (Up.trans (u1.alloc _) u2)
theorem zP4 (x:Nod) (f:Fr) (w:World) (v:Value) (hk:x.k=30) (hn:Nd1 x f) (hx:B.Nx w) (hv:HasT w v (some (x,f))):Calls Tryz.prog 106 #[v] w (TelB (isT B.nck B.long (x,f) 2) w):=by
 have HE:Hid (isT B.nck B.long (x,f) 2=(numB x 0 0&&seqK (IF f) [2,2,2])):=Lib.hid (by show isX _ _ x (IF f) 2=_;rw[qL hk (by rfl),yP,zO _ _ (by rfl)];rfl);rw[HE.out];obtain⟨q,p,A,c',rfl,hq,c0,c1,c2,c3,c4,hcc,hkid⟩:=InT.open hv;rw[hk] at c0;have cH:=zN x f w _ hv;have cT:∀w1,Up w w1->Calls Tryz.prog 102 #[.pointer (some ⟨q,p,none⟩),.slice (some ⟨w1.heap.size,0,none⟩) 3 3] (w1.alloc (.cells #[.func (.func 106) #[] #[],.func (.func 106) #[] #[],.func (.func 106) #[] #[]] 91)) (TelB (seqK (IF f) [2,2,2]) (w1.alloc (.cells #[.func (.func 106) #[] #[],.func (.func 106) #[] #[],.func (.func 106) #[] #[]] 91))):=fun w1 u=>qK [2,2,2] x f _ _ _ _ (Nx.up hx (u.alloc _)) (hv.up (u.alloc _)) hn.hf (by decide) (zJ (fnsC [2,2,2]) (heap_alloc_new w1 _)) (qQ hn (by decide))
 obtain⟨hb,hhb⟩:∃hb,numB x 0 0=hb:=⟨_,rfl⟩;obtain⟨tb,htb⟩:∃tb,seqK (IF f) [2,2,2]=tb:=⟨_,rfl⟩;rw[hhb,htb];rw[hhb] at cH;rw[htb] at cT;clear HE hhb htb hv hk hn hx hq c1 c2 c3 c4 hcc hkid
 cases hb
 ·go_enter Tryz.func106,Tryz.ntmps106
  go_wp2_with fail;refine cH.mono ?_;rintro e w1 ⟨rfl,u1⟩;go_wp2_with fail
  go_ret
  exact qD rfl u1
 ·go_enter Tryz.func106,Tryz.ntmps106
  go_wp2_with fail;refine cH.mono ?_;rintro e w1 ⟨rfl,u1⟩;go_wp2_with fail;refine(cT w1 u1).mono ?_;rintro e w2 ⟨rfl,u2⟩;go_wp2_with fail
  go_ret
  exact qD (by cases tb<;>rfl) (Up.trans (u1.alloc _) u2)
theorem zP5 (x:Nod) (f:Fr) (w:World) (v:Value) (hk:x.k=31) (hn:Nd1 x f) (hx:B.Nx w) (hv:HasT w v (some (x,f))):Calls Tryz.prog 106 #[v] w (TelB (isT B.nck B.long (x,f) 2) w):=by
 have HE:Hid (isT B.nck B.long (x,f) 2=(numB x 1 5&&seqK (IF f) [2,2])):=Lib.hid (by show isX _ _ x (IF f) 2=_;rw[qL hk (by rfl),yP,zO _ _ (by rfl)];rfl);rw[HE.out];obtain⟨q,p,A,c',rfl,hq,c0,c1,c2,c3,c4,hcc,hkid⟩:=InT.open hv;rw[hk] at c0;have cH:=jM x f 1 5 w _ hv;have cT:∀w1,Up w w1->Calls Tryz.prog 102 #[.pointer (some ⟨q,p,none⟩),.slice (some ⟨w1.heap.size,0,none⟩) 2 2] (w1.alloc (.cells #[.func (.func 106) #[] #[],.func (.func 106) #[] #[]] 91)) (TelB (seqK (IF f) [2,2]) (w1.alloc (.cells #[.func (.func 106) #[] #[],.func (.func 106) #[] #[]] 91))):=fun w1 u=>qK [2,2] x f _ _ _ _ (Nx.up hx (u.alloc _)) (hv.up (u.alloc _)) hn.hf (by decide) (zJ (fnsC [2,2]) (heap_alloc_new w1 _)) (qQ hn (by decide))
 obtain⟨hb,hhb⟩:∃hb,numB x 1 5=hb:=⟨_,rfl⟩;obtain⟨tb,htb⟩:∃tb,seqK (IF f) [2,2]=tb:=⟨_,rfl⟩;rw[hhb,htb];rw[hhb] at cH;rw[htb] at cT;clear HE hhb htb hv hk hn hx hq c1 c2 c3 c4 hcc hkid
 cases hb
 ·go_enter Tryz.func106,Tryz.ntmps106
  go_wp2_with fail;refine cH.mono ?_;rintro e w1 ⟨rfl,u1⟩;go_wp2_with fail
  go_ret
  exact qD rfl u1
 ·go_enter Tryz.func106,Tryz.ntmps106
  go_wp2_with fail;refine cH.mono ?_;rintro e w1 ⟨rfl,u1⟩;go_wp2_with fail;refine(cT w1 u1).mono ?_;rintro e w2 ⟨rfl,u2⟩;go_wp2_with fail
  go_ret
  exact qD (by cases tb<;>rfl) (Up.trans (u1.alloc _) u2)
theorem zP6 (x:Nod) (f:Fr) (w:World) (v:Value) (hk:x.k=32) (hn:Nd1 x f) (hx:B.Nx w) (hv:HasT w v (some (x,f))):Calls Tryz.prog 106 #[v] w (TelB (isT B.nck B.long (x,f) 2) w):=by
 have HE:Hid (isT B.nck B.long (x,f) 2=(numB x 0 0&&rowB [2] 1 (fun i=>i.is 9) (IF f))):=Lib.hid (by show isX _ _ x (IF f) 2=_;rw[qL hk (by rfl),yP,zJ8]);rw[HE.out];obtain⟨q,p,A,c',rfl,hq,c0,c1,c2,c3,c4,hcc,hkid⟩:=InT.open hv;rw[hk] at c0;have cH:=zN x f w _ hv;have cT:∀w1,Up w w1->Calls Tryz.prog 61 #[.pointer (some ⟨q,p,none⟩),.int .i64 1,.func (.func 147) #[] #[],.slice (some ⟨w1.heap.size,0,none⟩) 1 1] (w1.alloc (.cells #[.func (.func 106) #[] #[]] 91)) (TelB (rowB [2] 1 (fun i=>i.is 9) (IF f)) (w1.alloc (.cells #[.func (.func 106) #[] #[]] 91))):=fun w1 u=>pS [2] 1 147 (fun i=>i.is 9) x f _ _ _ _ (fun _ _=>by kernel_rfl) (by omega) (Nx.up hx (u.alloc _)) (hv.up (u.alloc _)) hn.hf (by decide) (zS6 [2] (heap_alloc_new w1 _)) (qQ hn (by decide)) (fun i t h=>(hn.ih i t h).a9)
 obtain⟨hb,hhb⟩:∃hb,numB x 0 0=hb:=⟨_,rfl⟩;obtain⟨tb,htb⟩:∃tb,rowB [2] 1 (fun i=>i.is 9) (IF f)=tb:=⟨_,rfl⟩;rw[hhb,htb];rw[hhb] at cH;rw[htb] at cT;clear HE hhb htb hv hk hn hx hq c1 c2 c3 c4 hcc hkid
 cases hb
 ·go_enter Tryz.func106,Tryz.ntmps106
  go_wp2_with fail;refine cH.mono ?_;rintro e w1 ⟨rfl,u1⟩;go_wp2_with fail
  go_ret
  exact qD rfl u1
 ·go_enter Tryz.func106,Tryz.ntmps106
  go_wp2_with fail;refine cH.mono ?_;rintro e w1 ⟨rfl,u1⟩;go_wp2_with fail;refine(cT w1 u1).mono ?_;rintro e w2 ⟨rfl,u2⟩;go_wp2_with fail
  go_ret
  exact qD (by cases tb<;>rfl) (Up.trans (u1.alloc _) u2)
theorem zP7 (x:Nod) (f:Fr) (w:World) (v:Value) (hk:x.k=33) (hn:Nd1 x f) (hx:B.Nx w) (hv:HasT w v (some (x,f))):Calls Tryz.prog 106 #[v] w (TelB (isT B.nck B.long (x,f) 2) w):=by
 have HE:Hid (isT B.nck B.long (x,f) 2=(numB x 0 0&&rowB [2,1] 1 (fun i=>i.is 9) (IF f))):=Lib.hid (by show isX _ _ x (IF f) 2=_;rw[qL hk (by rfl),yP,zQs]);rw[HE.out];obtain⟨q,p,A,c',rfl,hq,c0,c1,c2,c3,c4,hcc,hkid⟩:=InT.open hv;rw[hk] at c0;have cH:=zN x f w _ hv;have cT:∀w1,Up w w1->Calls Tryz.prog 61 #[.pointer (some ⟨q,p,none⟩),.int .i64 1,.func (.func 147) #[] #[],.slice (some ⟨w1.heap.size,0,none⟩) 2 2] (w1.alloc (.cells #[.func (.func 106) #[] #[],.func (.func 107) #[] #[]] 91)) (TelB (rowB [2,1] 1 (fun i=>i.is 9) (IF f)) (w1.alloc (.cells #[.func (.func 106) #[] #[],.func (.func 107) #[] #[]] 91))):=fun w1 u=>pS [2,1] 1 147 (fun i=>i.is 9) x f _ _ _ _ (fun _ _=>by kernel_rfl) (by omega) (Nx.up hx (u.alloc _)) (hv.up (u.alloc _)) hn.hf (by decide) (zS6 [2,1] (heap_alloc_new w1 _)) (qQ hn (by decide)) (fun i t h=>(hn.ih i t h).a9)
 obtain⟨hb,hhb⟩:∃hb,numB x 0 0=hb:=⟨_,rfl⟩;obtain⟨tb,htb⟩:∃tb,rowB [2,1] 1 (fun i=>i.is 9) (IF f)=tb:=⟨_,rfl⟩;rw[hhb,htb];rw[hhb] at cH;rw[htb] at cT;clear HE hhb htb hv hk hn hx hq c1 c2 c3 c4 hcc hkid
 cases hb
 ·go_enter Tryz.func106,Tryz.ntmps106
  go_wp2_with fail;refine cH.mono ?_;rintro e w1 ⟨rfl,u1⟩;go_wp2_with fail
  go_ret
  exact qD rfl u1
 ·go_enter Tryz.func106,Tryz.ntmps106
  go_wp2_with fail;refine cH.mono ?_;rintro e w1 ⟨rfl,u1⟩;go_wp2_with fail;refine(cT w1 u1).mono ?_;rintro e w2 ⟨rfl,u2⟩;go_wp2_with fail
  go_ret
  exact qD (by cases tb<;>rfl) (Up.trans (u1.alloc _) u2)
theorem zXa:∀r∈RWS,r.cat=2->r.kind∈[(20:Int),(21:Int),(22:Int),(23:Int),(24:Int),(25:Int),(26:Int),(27:Int),(28:Int),(29:Int),(30:Int),(31:Int),(32:Int),(33:Int)]:=by decide
theorem zXb (x:Nod) (f:Fr) (w:World) (v:Value) (n20:¬x.k=20) (n21:¬x.k=21) (n22:¬x.k=22) (n23:¬x.k=23) (n24:¬x.k=24) (n25:¬x.k=25) (n26:¬x.k=26) (n27:¬x.k=27) (n28:¬x.k=28) (n29:¬x.k=29) (n30:¬x.k=30) (n31:¬x.k=31) (n32:¬x.k=32) (n33:¬x.k=33) (hv:HasT w v (some (x,f))):Calls Tryz.prog 106 #[v] w (TelB (isT B.nck B.long (x,f) 2) w):=by
 have HE:Hid (isT B.nck B.long (x,f) 2=false):=Lib.hid (jZ fun r hr hc e=>by have:=zXa r hr hc;rw[e] at this;simp only[List.mem_cons,List.not_mem_nil,or_false] at this;omega);rw[HE.out];obtain⟨q,p,A,c',rfl,hq,c0,c1,c2,c3,c4,hcc,hkid⟩:=InT.open hv;clear hv HE hq c1 c2 c3 c4 hcc hkid
 go_enter Tryz.func106,Tryz.ntmps106
 go_wp2_with fail
 go_ret
 exact qD rfl (Up.refl _)
theorem zVp (x:Nod) (f:Fr) (hn:Nd1 x f):TelAt 106 (isT B.nck B.long (x,f) 2) (x,f):=fun w v hx hv=>by
 by_cases n20:x.k=20
 ·exact zQu x f w v n20 hn hx hv
 by_cases n21:x.k=21
 ·exact zQv x f w v n21 hn hx hv
 by_cases n22:x.k=22
 ·exact zQw x f w v n22 hn hx hv
 by_cases n23:x.k=23
 ·exact zQx x f w v n23 hn hx hv
 by_cases n24:x.k=24
 ·exact zQy x f w v n24 hn hx hv
 by_cases n25:x.k=25
 ·exact zQz x f w v n25 hn hx hv
 by_cases n26:x.k=26
 ·exact zP0 x f w v n26 hn hx hv
 by_cases n27:x.k=27
 ·exact zP1 x f w v n27 hn hx hv
 by_cases n28:x.k=28
 ·exact zP2 x f w v n28 hn hx hv
 by_cases n29:x.k=29
 ·exact zP3 x f w v n29 hn hx hv
 by_cases n30:x.k=30
 ·exact zP4 x f w v n30 hn hx hv
 by_cases n31:x.k=31
 ·exact zP5 x f w v n31 hn hx hv
 by_cases n32:x.k=32
 ·exact zP6 x f w v n32 hn hx hv
 by_cases n33:x.k=33
 ·exact zP7 x f w v n33 hn hx hv
 exact zXb x f w v n20 n21 n22 n23 n24 n25 n26 n27 n28 n29 n30 n31 n32 n33 hv
theorem zJj (x:Nod) (f:Fr) (w:World) (v:Value) (hk:x.k=40) (hn:Nd1 x f) (hx:B.Nx w) (hv:HasT w v (some (x,f))):Calls Tryz.prog 109 #[v] w (TelB (isT B.nck B.long (x,f) 3) w):=by
 have HE:Hid (isT B.nck B.long (x,f) 3=(numB x 0 0&&rowB [] 0 inM (IF f))):=Lib.hid (by show isX _ _ x (IF f) 3=_;rw[qL hk (by rfl),yP,zJ9]);rw[HE.out];obtain⟨q,p,A,c',rfl,hq,c0,c1,c2,c3,c4,hcc,hkid⟩:=InT.open hv;rw[hk] at c0;have cH:=zN x f w _ hv;have cT:∀w1,Up w w1->Calls Tryz.prog 61 #[.pointer (some ⟨q,p,none⟩),.int .i64 0,.func (.func 149) #[] #[],.slice none 0 0] w1 (TelB (rowB [] 0 inM (IF f)) w1):=fun w1 u=>pS [] 0 149 inM x f w1 _ none 0 (fun _ _=>by kernel_rfl) (by omega) (Nx.up hx u) (hv.up u) hn.hf (by decide) (.inl ⟨rfl,rfl⟩) (fun _ _ _ _ h=>by cases h) (fun i t h=>(hn.ih i t h).am)
 obtain⟨hb,hhb⟩:∃hb,numB x 0 0=hb:=⟨_,rfl⟩;obtain⟨tb,htb⟩:∃tb,rowB [] 0 inM (IF f)=tb:=⟨_,rfl⟩;rw[hhb,htb];rw[hhb] at cH;rw[htb] at cT;clear HE hhb htb hv hk hn hx hq c1 c2 c3 c4 hcc hkid
 cases hb
 ·go_enter Tryz.func109,Tryz.ntmps109
  go_wp2_with fail;refine cH.mono ?_;rintro e w1 ⟨rfl,u1⟩;go_wp2_with fail
  go_ret
  exact qD rfl u1
 ·go_enter Tryz.func109,Tryz.ntmps109
  go_wp2_with fail;refine cH.mono ?_;rintro e w1 ⟨rfl,u1⟩;go_wp2_with fail;refine(cT w1 u1).mono ?_;rintro e w2 ⟨rfl,u2⟩;go_wp2_with fail
  go_ret
  exact qD (by cases tb<;>rfl) (Up.trans (u1) u2)
theorem zJk (x:Nod) (f:Fr) (w:World) (v:Value) (hk:x.k=41) (hn:Nd1 x f) (hx:B.Nx w) (hv:HasT w v (some (x,f))):Calls Tryz.prog 109 #[v] w (TelB (isT B.nck B.long (x,f) 3) w):=by
 have HE:Hid (isT B.nck B.long (x,f) 3=(texB x B.long isEmp&&seqK (IF f) [])):=Lib.hid (by show isX _ _ x (IF f) 3=_;rw[qL hk (by rfl),yE (A:=B.long) (M:=isEmp) (fun _=>rfl) (fun _=>rfl),zO _ _ (by rfl)];rfl);rw[HE.out];obtain⟨q,p,A,c',rfl,hq,c0,c1,c2,c3,c4,hcc,hkid⟩:=InT.open hv;rw[hk] at c0;have cH:=xW x f w _ hv hn.hs.1 hx;have cT:∀w1,Up w w1->Calls Tryz.prog 102 #[.pointer (some ⟨q,p,none⟩),.slice none 0 0] w1 (TelB (seqK (IF f) []) w1):=fun w1 u=>qK [] x f w1 _ none 0 (Nx.up hx u) (hv.up u) hn.hf (by decide) (fun _ _ _ h=>by cases h) (fun _ _ _ _ h=>by cases h)
 obtain⟨hb,hhb⟩:∃hb,texB x B.long isEmp=hb:=⟨_,rfl⟩;obtain⟨tb,htb⟩:∃tb,seqK (IF f) []=tb:=⟨_,rfl⟩;rw[hhb,htb];rw[hhb] at cH;rw[htb] at cT;clear HE hhb htb hv hk hn hx hq c1 c2 c3 c4 hcc hkid
 cases hb
 ·go_enter Tryz.func109,Tryz.ntmps109
  go_wp2_with fail;refine cH.mono ?_;rintro e w1 ⟨rfl,u1⟩;go_wp2_with fail
  go_ret
  exact qD rfl u1
 ·go_enter Tryz.func109,Tryz.ntmps109
  go_wp2_with fail;refine cH.mono ?_;rintro e w1 ⟨rfl,u1⟩;go_wp2_with fail;refine(cT w1 u1).mono ?_;rintro e w2 ⟨rfl,u2⟩;go_wp2_with fail
  go_ret
  exact qD (by cases tb<;>rfl) (Up.trans (u1) u2)
theorem zJl (x:Nod) (f:Fr) (w:World) (v:Value) (hk:x.k=42) (hn:Nd1 x f) (hx:B.Nx w) (hv:HasT w v (some (x,f))):Calls Tryz.prog 109 #[v] w (TelB (isT B.nck B.long (x,f) 3) w):=by
 have HE:Hid (isT B.nck B.long (x,f) 3=(texB x B.nck isEmp&&seqK (IF f) [3])):=Lib.hid (by show isX _ _ x (IF f) 3=_;rw[qL hk (by rfl),yE (A:=B.nck) (M:=isEmp) (fun _=>rfl) (fun _=>rfl),zO _ _ (by rfl)];rfl);rw[HE.out];obtain⟨q,p,A,c',rfl,hq,c0,c1,c2,c3,c4,hcc,hkid⟩:=InT.open hv;rw[hk] at c0;have cH:=zZ x f w _ hv hn.hs.1;have cT:∀w1,Up w w1->Calls Tryz.prog 102 #[.pointer (some ⟨q,p,none⟩),.slice (some ⟨w1.heap.size,0,none⟩) 1 1] (w1.alloc (.cells #[.func (.func 109) #[] #[]] 91)) (TelB (seqK (IF f) [3]) (w1.alloc (.cells #[.func (.func 109) #[] #[]] 91))):=fun w1 u=>qK [3] x f _ _ _ _ (Nx.up hx (u.alloc _)) (hv.up (u.alloc _)) hn.hf (by decide) (zJ (fnsC [3]) (heap_alloc_new w1 _)) (qQ hn (by decide))
 obtain⟨hb,hhb⟩:∃hb,texB x B.nck isEmp=hb:=⟨_,rfl⟩;obtain⟨tb,htb⟩:∃tb,seqK (IF f) [3]=tb:=⟨_,rfl⟩;rw[hhb,htb];rw[hhb] at cH;rw[htb] at cT;clear HE hhb htb hv hk hn hx hq c1 c2 c3 c4 hcc hkid
 cases hb
 ·go_enter Tryz.func109,Tryz.ntmps109
  go_wp2_with fail;refine cH.mono ?_;rintro e w1 ⟨rfl,u1⟩;go_wp2_with fail
  go_ret
  exact qD rfl u1
 ·go_enter Tryz.func109,Tryz.ntmps109
  go_wp2_with fail;refine cH.mono ?_;rintro e w1 ⟨rfl,u1⟩;go_wp2_with fail;refine(cT w1 u1).mono ?_;rintro e w2 ⟨rfl,u2⟩;go_wp2_with fail
  go_ret
  exact qD (by cases tb<;>rfl) (Up.trans (u1.alloc _) u2)
theorem zJm (x:Nod) (f:Fr) (w:World) (v:Value) (hk:x.k=43) (hn:Nd1 x f) (hx:B.Nx w) (hv:HasT w v (some (x,f))):Calls Tryz.prog 109 #[v] w (TelB (isT B.nck B.long (x,f) 3) w):=by
 have HE:Hid (isT B.nck B.long (x,f) 3=(numB x 0 1&&seqK (IF f) [3,4])):=Lib.hid (by show isX _ _ x (IF f) 3=_;rw[qL hk (by rfl),yP,zO _ _ (by rfl)];rfl);rw[HE.out];obtain⟨q,p,A,c',rfl,hq,c0,c1,c2,c3,c4,hcc,hkid⟩:=InT.open hv;rw[hk] at c0;have cH:=jM x f 0 1 w _ hv;have cT:∀w1,Up w w1->Calls Tryz.prog 102 #[.pointer (some ⟨q,p,none⟩),.slice (some ⟨w1.heap.size,0,none⟩) 2 2] (w1.alloc (.cells #[.func (.func 109) #[] #[],.func (.func 110) #[] #[]] 91)) (TelB (seqK (IF f) [3,4]) (w1.alloc (.cells #[.func (.func 109) #[] #[],.func (.func 110) #[] #[]] 91))):=fun w1 u=>qK [3,4] x f _ _ _ _ (Nx.up hx (u.alloc _)) (hv.up (u.alloc _)) hn.hf (by decide) (zJ (fnsC [3,4]) (heap_alloc_new w1 _)) (qQ hn (by decide))
 obtain⟨hb,hhb⟩:∃hb,numB x 0 1=hb:=⟨_,rfl⟩;obtain⟨tb,htb⟩:∃tb,seqK (IF f) [3,4]=tb:=⟨_,rfl⟩;rw[hhb,htb];rw[hhb] at cH;rw[htb] at cT;clear HE hhb htb hv hk hn hx hq c1 c2 c3 c4 hcc hkid
 cases hb
 ·go_enter Tryz.func109,Tryz.ntmps109
  go_wp2_with fail;refine cH.mono ?_;rintro e w1 ⟨rfl,u1⟩;go_wp2_with fail
  go_ret
  exact qD rfl u1
 ·go_enter Tryz.func109,Tryz.ntmps109
  go_wp2_with fail;refine cH.mono ?_;rintro e w1 ⟨rfl,u1⟩;go_wp2_with fail;refine(cT w1 u1).mono ?_;rintro e w2 ⟨rfl,u2⟩;go_wp2_with fail
  go_ret
  exact qD (by cases tb<;>rfl) (Up.trans (u1.alloc _) u2)
theorem zVq:∀r∈RWS,r.cat=3->r.kind∈[(40:Int),(41:Int),(42:Int),(43:Int)]:=by decide
theorem zVr (x:Nod) (f:Fr) (w:World) (v:Value) (n40:¬x.k=40) (n41:¬x.k=41) (n42:¬x.k=42) (n43:¬x.k=43) (hv:HasT w v (some (x,f))):Calls Tryz.prog 109 #[v] w (TelB (isT B.nck B.long (x,f) 3) w):=by
 have HE:Hid (isT B.nck B.long (x,f) 3=false):=Lib.hid (jZ fun r hr hc e=>by have:=zVq r hr hc;rw[e] at this;simp only[List.mem_cons,List.not_mem_nil,or_false] at this;omega);rw[HE.out];obtain⟨q,p,A,c',rfl,hq,c0,c1,c2,c3,c4,hcc,hkid⟩:=InT.open hv;clear hv HE hq c1 c2 c3 c4 hcc hkid
 go_enter Tryz.func109,Tryz.ntmps109
 go_wp2_with fail
 go_ret
 exact qD rfl (Up.refl _)
theorem zP8 (x:Nod) (f:Fr) (hn:Nd1 x f):TelAt 109 (isT B.nck B.long (x,f) 3) (x,f):=fun w v hx hv=>by
 by_cases n40:x.k=40
 ·exact zJj x f w v n40 hn hx hv
 by_cases n41:x.k=41
 ·exact zJk x f w v n41 hn hx hv
 by_cases n42:x.k=42
 ·exact zJl x f w v n42 hn hx hv
 by_cases n43:x.k=43
 ·exact zJm x f w v n43 hn hx hv
 exact zVr x f w v n40 n41 n42 n43 hv
theorem zJn (x:Nod) (f:Fr) (w:World) (v:Value) (hk:x.k=50) (hn:Nd1 x f) (hx:B.Nx w) (hv:HasT w v (some (x,f))):Calls Tryz.prog 110 #[v] w (TelB (isT B.nck B.long (x,f) 4) w):=by
 have HE:Hid (isT B.nck B.long (x,f) 4=(numB x 0 0&&rowB [] 0 (fun i=>i.is 5) (IF f))):=Lib.hid (by show isX _ _ x (IF f) 4=_;rw[qL hk (by rfl),yP,zJa]);rw[HE.out];obtain⟨q,p,A,c',rfl,hq,c0,c1,c2,c3,c4,hcc,hkid⟩:=InT.open hv;rw[hk] at c0;have cH:=zN x f w _ hv;have cT:∀w1,Up w w1->Calls Tryz.prog 61 #[.pointer (some ⟨q,p,none⟩),.int .i64 0,.func (.func 150) #[] #[],.slice none 0 0] w1 (TelB (rowB [] 0 (fun i=>i.is 5) (IF f)) w1):=fun w1 u=>pS [] 0 150 (fun i=>i.is 5) x f w1 _ none 0 (fun _ _=>by kernel_rfl) (by omega) (Nx.up hx u) (hv.up u) hn.hf (by decide) (.inl ⟨rfl,rfl⟩) (fun _ _ _ _ h=>by cases h) (fun i t h=>(hn.ih i t h).a5)
 obtain⟨hb,hhb⟩:∃hb,numB x 0 0=hb:=⟨_,rfl⟩;obtain⟨tb,htb⟩:∃tb,rowB [] 0 (fun i=>i.is 5) (IF f)=tb:=⟨_,rfl⟩;rw[hhb,htb];rw[hhb] at cH;rw[htb] at cT;clear HE hhb htb hv hk hn hx hq c1 c2 c3 c4 hcc hkid
 cases hb
 ·go_enter Tryz.func110,Tryz.ntmps110
  go_wp2_with fail;refine cH.mono ?_;rintro e w1 ⟨rfl,u1⟩;go_wp2_with fail
  go_ret
  exact qD rfl u1
 ·go_enter Tryz.func110,Tryz.ntmps110
  go_wp2_with fail;refine cH.mono ?_;rintro e w1 ⟨rfl,u1⟩;go_wp2_with fail;refine(cT w1 u1).mono ?_;rintro e w2 ⟨rfl,u2⟩;go_wp2_with fail
  go_ret
  exact qD (by cases tb<;>rfl) (Up.trans (u1) u2)
theorem zJo (x:Nod) (f:Fr) (w:World) (v:Value) (hk:x.k=51) (hn:Nd1 x f) (hx:B.Nx w) (hv:HasT w v (some (x,f))):Calls Tryz.prog 110 #[v] w (TelB (isT B.nck B.long (x,f) 4) w):=by
 have HE:Hid (isT B.nck B.long (x,f) 4=(texB x B.nck isEmp&&seqK (IF f) [])):=Lib.hid (by show isX _ _ x (IF f) 4=_;rw[qL hk (by rfl),yE (A:=B.nck) (M:=isEmp) (fun _=>rfl) (fun _=>rfl),zO _ _ (by rfl)];rfl);rw[HE.out];obtain⟨q,p,A,c',rfl,hq,c0,c1,c2,c3,c4,hcc,hkid⟩:=InT.open hv;rw[hk] at c0;have cH:=zZ x f w _ hv hn.hs.1;have cT:∀w1,Up w w1->Calls Tryz.prog 102 #[.pointer (some ⟨q,p,none⟩),.slice none 0 0] w1 (TelB (seqK (IF f) []) w1):=fun w1 u=>qK [] x f w1 _ none 0 (Nx.up hx u) (hv.up u) hn.hf (by decide) (fun _ _ _ h=>by cases h) (fun _ _ _ _ h=>by cases h)
 obtain⟨hb,hhb⟩:∃hb,texB x B.nck isEmp=hb:=⟨_,rfl⟩;obtain⟨tb,htb⟩:∃tb,seqK (IF f) []=tb:=⟨_,rfl⟩;rw[hhb,htb];rw[hhb] at cH;rw[htb] at cT;clear HE hhb htb hv hk hn hx hq c1 c2 c3 c4 hcc hkid
 cases hb
 ·go_enter Tryz.func110,Tryz.ntmps110
  go_wp2_with fail;refine cH.mono ?_;rintro e w1 ⟨rfl,u1⟩;go_wp2_with fail
  go_ret
  exact qD rfl u1
 ·go_enter Tryz.func110,Tryz.ntmps110
  go_wp2_with fail;refine cH.mono ?_;rintro e w1 ⟨rfl,u1⟩;go_wp2_with fail;refine(cT w1 u1).mono ?_;rintro e w2 ⟨rfl,u2⟩;go_wp2_with fail
  go_ret
  exact qD (by cases tb<;>rfl) (Up.trans (u1) u2)
theorem zJp (x:Nod) (f:Fr) (w:World) (v:Value) (hk:x.k=52) (hn:Nd1 x f) (hx:B.Nx w) (hv:HasT w v (some (x,f))):Calls Tryz.prog 110 #[v] w (TelB (isT B.nck B.long (x,f) 4) w):=by
 have HE:Hid (isT B.nck B.long (x,f) 4=(texB x B.long isEmp&&seqK (IF f) [4,1])):=Lib.hid (by show isX _ _ x (IF f) 4=_;rw[qL hk (by rfl),yE (A:=B.long) (M:=isEmp) (fun _=>rfl) (fun _=>rfl),zO _ _ (by rfl)];rfl);rw[HE.out];obtain⟨q,p,A,c',rfl,hq,c0,c1,c2,c3,c4,hcc,hkid⟩:=InT.open hv;rw[hk] at c0;have cH:=xW x f w _ hv hn.hs.1 hx;have cT:∀w1,Up w w1->Calls Tryz.prog 102 #[.pointer (some ⟨q,p,none⟩),.slice (some ⟨w1.heap.size,0,none⟩) 2 2] (w1.alloc (.cells #[.func (.func 110) #[] #[],.func (.func 107) #[] #[]] 91)) (TelB (seqK (IF f) [4,1]) (w1.alloc (.cells #[.func (.func 110) #[] #[],.func (.func 107) #[] #[]] 91))):=fun w1 u=>qK [4,1] x f _ _ _ _ (Nx.up hx (u.alloc _)) (hv.up (u.alloc _)) hn.hf (by decide) (zJ (fnsC [4,1]) (heap_alloc_new w1 _)) (qQ hn (by decide))
 obtain⟨hb,hhb⟩:∃hb,texB x B.long isEmp=hb:=⟨_,rfl⟩;obtain⟨tb,htb⟩:∃tb,seqK (IF f) [4,1]=tb:=⟨_,rfl⟩;rw[hhb,htb];rw[hhb] at cH;rw[htb] at cT;clear HE hhb htb hv hk hn hx hq c1 c2 c3 c4 hcc hkid
 cases hb
 ·go_enter Tryz.func110,Tryz.ntmps110
  go_wp2_with fail;refine cH.mono ?_;rintro e w1 ⟨rfl,u1⟩;go_wp2_with fail
  go_ret
  exact qD rfl u1
 ·go_enter Tryz.func110,Tryz.ntmps110
  go_wp2_with fail;refine cH.mono ?_;rintro e w1 ⟨rfl,u1⟩;go_wp2_with fail;refine(cT w1 u1).mono ?_;rintro e w2 ⟨rfl,u2⟩;go_wp2_with fail
  go_ret
  exact qD (by cases tb<;>rfl) (Up.trans (u1.alloc _) u2)
theorem zVs:∀r∈RWS,r.cat=4->r.kind∈[(50:Int),(51:Int),(52:Int)]:=by decide
theorem zVt (x:Nod) (f:Fr) (w:World) (v:Value) (n50:¬x.k=50) (n51:¬x.k=51) (n52:¬x.k=52) (hv:HasT w v (some (x,f))):Calls Tryz.prog 110 #[v] w (TelB (isT B.nck B.long (x,f) 4) w):=by
 have HE:Hid (isT B.nck B.long (x,f) 4=false):=Lib.hid (jZ fun r hr hc e=>by have:=zVs r hr hc;rw[e] at this;simp only[List.mem_cons,List.not_mem_nil,or_false] at this;omega);rw[HE.out];obtain⟨q,p,A,c',rfl,hq,c0,c1,c2,c3,c4,hcc,hkid⟩:=InT.open hv;clear hv HE hq c1 c2 c3 c4 hcc hkid
 go_enter Tryz.func110,Tryz.ntmps110
 go_wp2_with fail
 go_ret
 exact qD rfl (Up.refl _)
theorem zP9 (x:Nod) (f:Fr) (hn:Nd1 x f):TelAt 110 (isT B.nck B.long (x,f) 4) (x,f):=fun w v hx hv=>by
 by_cases n50:x.k=50
 ·exact zJn x f w v n50 hn hx hv
 by_cases n51:x.k=51
 ·exact zJo x f w v n51 hn hx hv
 by_cases n52:x.k=52
 ·exact zJp x f w v n52 hn hx hv
 exact zVt x f w v n50 n51 n52 hv
theorem zPa (x:Nod) (f:Fr) (w:World) (v:Value) (hk:x.k=60) (hn:Nd1 x f) (hx:B.Nx w) (hv:HasT w v (some (x,f))):Calls Tryz.prog 150 #[v] w (TelB (isT B.nck B.long (x,f) 5) w):=by
 have HE:Hid (isT B.nck B.long (x,f) 5=(texB x B.nck isEmp&&seqK (IF f) [1])):=Lib.hid (by show isX _ _ x (IF f) 5=_;rw[qL hk (by rfl),yE (A:=B.nck) (M:=isEmp) (fun _=>rfl) (fun _=>rfl),zO _ _ (by rfl)];rfl);rw[HE.out];obtain⟨q,p,A,c',rfl,hq,c0,c1,c2,c3,c4,hcc,hkid⟩:=InT.open hv;rw[hk] at c0;have cH:=zZ x f w _ hv hn.hs.1;have cT:∀w1,Up w w1->Calls Tryz.prog 102 #[.pointer (some ⟨q,p,none⟩),.slice (some ⟨w1.heap.size,0,none⟩) 1 1] (w1.alloc (.cells #[.func (.func 107) #[] #[]] 91)) (TelB (seqK (IF f) [1]) (w1.alloc (.cells #[.func (.func 107) #[] #[]] 91))):=fun w1 u=>qK [1] x f _ _ _ _ (Nx.up hx (u.alloc _)) (hv.up (u.alloc _)) hn.hf (by decide) (zJ (fnsC [1]) (heap_alloc_new w1 _)) (qQ hn (by decide))
 obtain⟨hb,hhb⟩:∃hb,texB x B.nck isEmp=hb:=⟨_,rfl⟩;obtain⟨tb,htb⟩:∃tb,seqK (IF f) [1]=tb:=⟨_,rfl⟩;rw[hhb,htb];rw[hhb] at cH;rw[htb] at cT;clear HE hhb htb hv hk hn hx hq c1 c2 c3 c4 hcc hkid
 cases hb
 ·go_enter Tryz.func150,Tryz.ntmps150
  go_wp2_with fail;refine cH.mono ?_;rintro e w1 ⟨rfl,u1⟩;go_wp2_with fail
  go_ret
  exact qD rfl u1
 ·go_enter Tryz.func150,Tryz.ntmps150
  go_wp2_with fail;refine cH.mono ?_;rintro e w1 ⟨rfl,u1⟩;go_wp2_with fail;refine(cT w1 u1).mono ?_;rintro e w2 ⟨rfl,u2⟩;go_wp2_with fail
  go_ret
  exact qD (by cases tb<;>rfl) (Up.trans (u1.alloc _) u2)
theorem zPb (x:Nod) (f:Fr) (w:World) (v:Value) (hk:x.k=61) (hn:Nd1 x f) (hx:B.Nx w) (hv:HasT w v (some (x,f))):Calls Tryz.prog 150 #[v] w (TelB (isT B.nck B.long (x,f) 5) w):=by
 have HE:Hid (isT B.nck B.long (x,f) 5=(texB x B.nck isEmp&&(seqK (IF f) []||seqK (IF f) [1]))):=Lib.hid (by show isX _ _ x (IF f) 5=_;rw[zTz hk (by rfl),yE (A:=B.nck) (M:=isEmp) (fun _=>rfl) (fun _=>rfl),zO _ _ (by rfl),zO _ _ (by rfl),Bool.or_comm];rfl);rw[HE.out];obtain⟨q,p,A,c',rfl,hq,c0,c1,c2,c3,c4,hcc,hkid⟩:=InT.open hv;rw[hk] at c0;have cH:=zZ x f w _ hv hn.hs.1;have cT:∀w1,Up w w1->Calls Tryz.prog 102 #[.pointer (some ⟨q,p,none⟩),.slice none 0 0] w1 (TelB (seqK (IF f) []) w1):=fun w1 u=>qK [] x f w1 _ none 0 (Nx.up hx u) (hv.up u) hn.hf (by decide) (fun _ _ _ h=>by cases h) (fun _ _ _ _ h=>by cases h)
 have cU:∀w1,Up w w1->Calls Tryz.prog 102 #[.pointer (some ⟨q,p,none⟩),.slice (some ⟨w1.heap.size,0,none⟩) 1 1] (w1.alloc (.cells #[.func (.func 107) #[] #[]] 91)) (TelB (seqK (IF f) [1]) (w1.alloc (.cells #[.func (.func 107) #[] #[]] 91))):=fun w1 u=>qK [1] x f _ _ _ _ (Nx.up hx (u.alloc _)) (hv.up (u.alloc _)) hn.hf (by decide) (zJ (fnsC [1]) (heap_alloc_new w1 _)) (qQ hn (by decide))
 obtain⟨hb,hhb⟩:∃hb,texB x B.nck isEmp=hb:=⟨_,rfl⟩;obtain⟨tb,htb⟩:∃tb,seqK (IF f) []=tb:=⟨_,rfl⟩;obtain⟨ub,hub⟩:∃ub,seqK (IF f) [1]=ub:=⟨_,rfl⟩;rw[hhb,htb,hub];rw[hhb] at cH;rw[htb] at cT;rw[hub] at cU;clear HE hhb htb hub hv hk hn hx hq c1 c2 c3 c4 hcc hkid
 cases hb
 ·go_enter Tryz.func150,Tryz.ntmps150
  go_wp2_with fail;refine cH.mono ?_;rintro e w1 ⟨rfl,u1⟩;go_wp2_with fail
  go_ret
  exact qD rfl u1
 ·cases tb
  ·go_enter Tryz.func150,Tryz.ntmps150
   go_wp2_with fail;refine cH.mono ?_;rintro e w1 ⟨rfl,u1⟩;go_wp2_with fail;refine(cT w1 u1).mono ?_;rintro e w2 ⟨rfl,u2⟩;have u3:Up w w2:=Up.trans (u1) u2;go_wp2_with fail;refine(cU w2 u3).mono ?_;rintro e w3 ⟨rfl,u4⟩;go_wp2_with fail
   go_ret
   exact qD (by cases ub<;>rfl) (Up.trans (u3.alloc _) u4)
  ·go_enter Tryz.func150,Tryz.ntmps150
   go_wp2_with fail;refine cH.mono ?_;rintro e w1 ⟨rfl,u1⟩;go_wp2_with fail;refine(cT w1 u1).mono ?_;rintro e w2 ⟨rfl,u2⟩;have u3:Up w w2:=Up.trans (u1) u2;go_wp2_with fail
   go_ret
   exact qD rfl u3
theorem zPc (x:Nod) (f:Fr) (w:World) (v:Value) (hk:x.k=62) (hn:Nd1 x f) (hx:B.Nx w) (hv:HasT w v (some (x,f))):Calls Tryz.prog 150 #[v] w (TelB (isT B.nck B.long (x,f) 5) w):=by
 have HE:Hid (isT B.nck B.long (x,f) 5=(texB x B.nck isEmp&&seqOk (IF f) [67])):=Lib.hid (by show isX _ _ x (IF f) 5=_;rw[qL hk (by rfl),yE (A:=B.nck) (M:=isEmp) (fun _=>rfl) (fun _=>rfl)]);rw[HE.out];obtain⟨q,p,A,c',rfl,hq,c0,c1,c2,c3,c4,hcc,hkid⟩:=InT.open hv;rw[hk] at c0;have cH:=zZ x f w _ hv hn.hs.1;have cT:∀w1,Up w w1->Calls Tryz.prog 108 #[.pointer (some ⟨q,p,none⟩)] w1 (TelB (seqOk (IF f) [67]) w1):=fun w1 u=>tH x f w1 _ (Nx.up hx u) (hv.up u) hn.hs hn.hf fun i t h=>⟨(hn.ih i t h).ln,(hn.ih i t h).kk⟩
 obtain⟨hb,hhb⟩:∃hb,texB x B.nck isEmp=hb:=⟨_,rfl⟩;obtain⟨tb,htb⟩:∃tb,seqOk (IF f) [67]=tb:=⟨_,rfl⟩;rw[hhb,htb];rw[hhb] at cH;rw[htb] at cT;clear HE hhb htb hv hk hn hx hq c1 c2 c3 c4 hcc hkid
 cases hb
 ·go_enter Tryz.func150,Tryz.ntmps150
  go_wp2_with fail;refine cH.mono ?_;rintro e w1 ⟨rfl,u1⟩;go_wp2_with fail
  go_ret
  exact qD rfl u1
 ·go_enter Tryz.func150,Tryz.ntmps150
  go_wp2_with fail;refine cH.mono ?_;rintro e w1 ⟨rfl,u1⟩;go_wp2_with fail;refine(cT w1 u1).mono ?_;rintro e w2 ⟨rfl,u2⟩;go_wp2_with fail
  go_ret
  exact qD (by cases tb<;>rfl) (Up.trans (u1) u2)
theorem zPd (x:Nod) (f:Fr) (w:World) (v:Value) (hk:x.k=63) (hn:Nd1 x f) (hx:B.Nx w) (hv:HasT w v (some (x,f))):Calls Tryz.prog 150 #[v] w (TelB (isT B.nck B.long (x,f) 5) w):=by
 have HE:Hid (isT B.nck B.long (x,f) 5=(texB x B.nck isEmp&&seqK (IF f) [4])):=Lib.hid (by show isX _ _ x (IF f) 5=_;rw[qL hk (by rfl),yE (A:=B.nck) (M:=isEmp) (fun _=>rfl) (fun _=>rfl),zO _ _ (by rfl)];rfl);rw[HE.out];obtain⟨q,p,A,c',rfl,hq,c0,c1,c2,c3,c4,hcc,hkid⟩:=InT.open hv;rw[hk] at c0;have cH:=zZ x f w _ hv hn.hs.1;have cT:∀w1,Up w w1->Calls Tryz.prog 102 #[.pointer (some ⟨q,p,none⟩),.slice (some ⟨w1.heap.size,0,none⟩) 1 1] (w1.alloc (.cells #[.func (.func 110) #[] #[]] 91)) (TelB (seqK (IF f) [4]) (w1.alloc (.cells #[.func (.func 110) #[] #[]] 91))):=fun w1 u=>qK [4] x f _ _ _ _ (Nx.up hx (u.alloc _)) (hv.up (u.alloc _)) hn.hf (by decide) (zJ (fnsC [4]) (heap_alloc_new w1 _)) (qQ hn (by decide))
 obtain⟨hb,hhb⟩:∃hb,texB x B.nck isEmp=hb:=⟨_,rfl⟩;obtain⟨tb,htb⟩:∃tb,seqK (IF f) [4]=tb:=⟨_,rfl⟩;rw[hhb,htb];rw[hhb] at cH;rw[htb] at cT;clear HE hhb htb hv hk hn hx hq c1 c2 c3 c4 hcc hkid
 cases hb
 ·go_enter Tryz.func150,Tryz.ntmps150
  go_wp2_with fail;refine cH.mono ?_;rintro e w1 ⟨rfl,u1⟩;go_wp2_with fail
  go_ret
  exact qD rfl u1
 ·go_enter Tryz.func150,Tryz.ntmps150
  go_wp2_with fail;refine cH.mono ?_;rintro e w1 ⟨rfl,u1⟩;go_wp2_with fail;refine(cT w1 u1).mono ?_;rintro e w2 ⟨rfl,u2⟩;go_wp2_with fail
  go_ret
  exact qD (by cases tb<;>rfl) (Up.trans (u1.alloc _) u2)
theorem zPe (x:Nod) (f:Fr) (w:World) (v:Value) (hk:x.k=64) (hn:Nd1 x f) (hx:B.Nx w) (hv:HasT w v (some (x,f))):Calls Tryz.prog 150 #[v] w (TelB (isT B.nck B.long (x,f) 5) w):=by
 have HE:Hid (isT B.nck B.long (x,f) 5=(numB x 0 0&&seqK (IF f) [4])):=Lib.hid (by show isX _ _ x (IF f) 5=_;rw[qL hk (by rfl),yP,zO _ _ (by rfl)];rfl);rw[HE.out];obtain⟨q,p,A,c',rfl,hq,c0,c1,c2,c3,c4,hcc,hkid⟩:=InT.open hv;rw[hk] at c0;have cH:=zN x f w _ hv;have cT:∀w1,Up w w1->Calls Tryz.prog 102 #[.pointer (some ⟨q,p,none⟩),.slice (some ⟨w1.heap.size,0,none⟩) 1 1] (w1.alloc (.cells #[.func (.func 110) #[] #[]] 91)) (TelB (seqK (IF f) [4]) (w1.alloc (.cells #[.func (.func 110) #[] #[]] 91))):=fun w1 u=>qK [4] x f _ _ _ _ (Nx.up hx (u.alloc _)) (hv.up (u.alloc _)) hn.hf (by decide) (zJ (fnsC [4]) (heap_alloc_new w1 _)) (qQ hn (by decide))
 obtain⟨hb,hhb⟩:∃hb,numB x 0 0=hb:=⟨_,rfl⟩;obtain⟨tb,htb⟩:∃tb,seqK (IF f) [4]=tb:=⟨_,rfl⟩;rw[hhb,htb];rw[hhb] at cH;rw[htb] at cT;clear HE hhb htb hv hk hn hx hq c1 c2 c3 c4 hcc hkid
 cases hb
 ·go_enter Tryz.func150,Tryz.ntmps150
  go_wp2_with fail;refine cH.mono ?_;rintro e w1 ⟨rfl,u1⟩;go_wp2_with fail
  go_ret
  exact qD rfl u1
 ·go_enter Tryz.func150,Tryz.ntmps150
  go_wp2_with fail;refine cH.mono ?_;rintro e w1 ⟨rfl,u1⟩;go_wp2_with fail;refine(cT w1 u1).mono ?_;rintro e w2 ⟨rfl,u2⟩;go_wp2_with fail
  go_ret
  exact qD (by cases tb<;>rfl) (Up.trans (u1.alloc _) u2)
theorem zPf (x:Nod) (f:Fr) (w:World) (v:Value) (hk:x.k=65) (hn:Nd1 x f) (hx:B.Nx w) (hv:HasT w v (some (x,f))):Calls Tryz.prog 150 #[v] w (TelB (isT B.nck B.long (x,f) 5) w):=by
 have HE:Hid (isT B.nck B.long (x,f) 5=(texB x B.long B.long&&seqK (IF f) [])):=Lib.hid (by show isX _ _ x (IF f) 5=_;rw[qL hk (by rfl),yE (A:=B.long) (M:=B.long) (fun _=>rfl) (fun _=>rfl),zO _ _ (by rfl)];rfl);rw[HE.out];obtain⟨q,p,A,c',rfl,hq,c0,c1,c2,c3,c4,hcc,hkid⟩:=InT.open hv;rw[hk] at c0;have cH:=zVi x f w _ hv hn.hs.1 hn.hs.2.1 hx;have cT:∀w1,Up w w1->Calls Tryz.prog 102 #[.pointer (some ⟨q,p,none⟩),.slice none 0 0] w1 (TelB (seqK (IF f) []) w1):=fun w1 u=>qK [] x f w1 _ none 0 (Nx.up hx u) (hv.up u) hn.hf (by decide) (fun _ _ _ h=>by cases h) (fun _ _ _ _ h=>by cases h)
 obtain⟨hb,hhb⟩:∃hb,texB x B.long B.long=hb:=⟨_,rfl⟩;obtain⟨tb,htb⟩:∃tb,seqK (IF f) []=tb:=⟨_,rfl⟩;rw[hhb,htb];rw[hhb] at cH;rw[htb] at cT;clear HE hhb htb hv hk hn hx hq c1 c2 c3 c4 hcc hkid
 cases hb
 ·go_enter Tryz.func150,Tryz.ntmps150
  go_wp2_with fail;refine cH.mono ?_;rintro e w1 ⟨rfl,u1⟩;go_wp2_with fail
  go_ret
  exact qD rfl u1
 ·go_enter Tryz.func150,Tryz.ntmps150
  go_wp2_with fail;refine cH.mono ?_;rintro e w1 ⟨rfl,u1⟩;go_wp2_with fail;refine(cT w1 u1).mono ?_;rintro e w2 ⟨rfl,u2⟩;go_wp2_with fail
  go_ret
  exact qD (by cases tb<;>rfl) (Up.trans (u1) u2)
theorem zXc:∀r∈RWS,r.cat=5->r.kind∈[(60:Int),(61:Int),(62:Int),(63:Int),(64:Int),(65:Int)]:=by decide
theorem zXd (x:Nod) (f:Fr) (w:World) (v:Value) (n60:¬x.k=60) (n61:¬x.k=61) (n62:¬x.k=62) (n63:¬x.k=63) (n64:¬x.k=64) (n65:¬x.k=65) (hv:HasT w v (some (x,f))):Calls Tryz.prog 150 #[v] w (TelB (isT B.nck B.long (x,f) 5) w):=by
 have HE:Hid (isT B.nck B.long (x,f) 5=false):=Lib.hid (jZ fun r hr hc e=>by have:=zXc r hr hc;rw[e] at this;simp only[List.mem_cons,List.not_mem_nil,or_false] at this;omega);rw[HE.out];obtain⟨q,p,A,c',rfl,hq,c0,c1,c2,c3,c4,hcc,hkid⟩:=InT.open hv;clear hv HE hq c1 c2 c3 c4 hcc hkid
 go_enter Tryz.func150,Tryz.ntmps150
 go_wp2_with fail
 go_ret
 exact qD rfl (Up.refl _)
theorem zVu (x:Nod) (f:Fr) (hn:Nd1 x f):TelAt 150 (isT B.nck B.long (x,f) 5) (x,f):=fun w v hx hv=>by
 by_cases n60:x.k=60
 ·exact zPa x f w v n60 hn hx hv
 by_cases n61:x.k=61
 ·exact zPb x f w v n61 hn hx hv
 by_cases n62:x.k=62
 ·exact zPc x f w v n62 hn hx hv
 by_cases n63:x.k=63
 ·exact zPd x f w v n63 hn hx hv
 by_cases n64:x.k=64
 ·exact zPe x f w v n64 hn hx hv
 by_cases n65:x.k=65
 ·exact zPf x f w v n65 hn hx hv
 exact zXd x f w v n60 n61 n62 n63 n64 n65 hv
theorem zPg (x:Nod) (f:Fr) (w:World) (v:Value) (hk:x.k=70) (hn:Nd1 x f) (hx:B.Nx w) (hv:HasT w v (some (x,f))):Calls Tryz.prog 62 #[v] w (TelB (isT B.nck B.long (x,f) 6) w):=by
 have HE:Hid (isT B.nck B.long (x,f) 6=(texB x B.nck isEmp&&(seqK (IF f) [2]||seqK (IF f) [1,2]))):=Lib.hid (by show isX _ _ x (IF f) 6=_;rw[zTz hk (by rfl),yE (A:=B.nck) (M:=isEmp) (fun _=>rfl) (fun _=>rfl),zO _ _ (by rfl),zO _ _ (by rfl)];rfl);rw[HE.out];obtain⟨q,p,A,c',rfl,hq,c0,c1,c2,c3,c4,hcc,hkid⟩:=InT.open hv;rw[hk] at c0;have cH:=zZ x f w _ hv hn.hs.1;have cT:∀w1,Up w w1->Calls Tryz.prog 102 #[.pointer (some ⟨q,p,none⟩),.slice (some ⟨w1.heap.size,0,none⟩) 1 1] (w1.alloc (.cells #[.func (.func 106) #[] #[]] 91)) (TelB (seqK (IF f) [2]) (w1.alloc (.cells #[.func (.func 106) #[] #[]] 91))):=fun w1 u=>qK [2] x f _ _ _ _ (Nx.up hx (u.alloc _)) (hv.up (u.alloc _)) hn.hf (by decide) (zJ (fnsC [2]) (heap_alloc_new w1 _)) (qQ hn (by decide))
 have cU:∀w1,Up w w1->Calls Tryz.prog 102 #[.pointer (some ⟨q,p,none⟩),.slice (some ⟨w1.heap.size,0,none⟩) 2 2] (w1.alloc (.cells #[.func (.func 107) #[] #[],.func (.func 106) #[] #[]] 91)) (TelB (seqK (IF f) [1,2]) (w1.alloc (.cells #[.func (.func 107) #[] #[],.func (.func 106) #[] #[]] 91))):=fun w1 u=>qK [1,2] x f _ _ _ _ (Nx.up hx (u.alloc _)) (hv.up (u.alloc _)) hn.hf (by decide) (zJ (fnsC [1,2]) (heap_alloc_new w1 _)) (qQ hn (by decide))
 obtain⟨hb,hhb⟩:∃hb,texB x B.nck isEmp=hb:=⟨_,rfl⟩;obtain⟨tb,htb⟩:∃tb,seqK (IF f) [2]=tb:=⟨_,rfl⟩;obtain⟨ub,hub⟩:∃ub,seqK (IF f) [1,2]=ub:=⟨_,rfl⟩;rw[hhb,htb,hub];rw[hhb] at cH;rw[htb] at cT;rw[hub] at cU;clear HE hhb htb hub hv hk hn hx hq c1 c2 c3 c4 hcc hkid
 cases hb
 ·go_enter Tryz.func62,Tryz.ntmps62
  go_wp2_with fail;refine cH.mono ?_;rintro e w1 ⟨rfl,u1⟩;go_wp2_with fail
  go_ret
  exact qD rfl u1
 ·cases tb
  ·go_enter Tryz.func62,Tryz.ntmps62
   go_wp2_with fail;refine cH.mono ?_;rintro e w1 ⟨rfl,u1⟩;go_wp2_with fail;refine(cT w1 u1).mono ?_;rintro e w2 ⟨rfl,u2⟩;have u3:Up w w2:=Up.trans (u1.alloc _) u2;go_wp2_with fail;refine(cU w2 u3).mono ?_;rintro e w3 ⟨rfl,u4⟩;go_wp2_with fail
   go_ret
   exact qD (by cases ub<;>rfl) (Up.trans (u3.alloc _) u4)
  ·go_enter Tryz.func62,Tryz.ntmps62
   go_wp2_with fail;refine cH.mono ?_;rintro e w1 ⟨rfl,u1⟩;go_wp2_with fail;refine(cT w1 u1).mono ?_;rintro e w2 ⟨rfl,u2⟩;have u3:Up w w2:=Up.trans (u1.alloc _) u2;go_wp2_with fail
   go_ret
   exact qD rfl u3
theorem zPh (x:Nod) (f:Fr) (w:World) (v:Value) (hk:x.k=71) (hn:Nd1 x f) (hx:B.Nx w) (hv:HasT w v (some (x,f))):Calls Tryz.prog 62 #[v] w (TelB (isT B.nck B.long (x,f) 6) w):=by
 have HE:Hid (isT B.nck B.long (x,f) 6=(texB x B.nck isEmp&&seqK (IF f) [1])):=Lib.hid (by show isX _ _ x (IF f) 6=_;rw[qL hk (by rfl),yE (A:=B.nck) (M:=isEmp) (fun _=>rfl) (fun _=>rfl),zO _ _ (by rfl)];rfl);rw[HE.out];obtain⟨q,p,A,c',rfl,hq,c0,c1,c2,c3,c4,hcc,hkid⟩:=InT.open hv;rw[hk] at c0;have cH:=zZ x f w _ hv hn.hs.1;have cT:∀w1,Up w w1->Calls Tryz.prog 102 #[.pointer (some ⟨q,p,none⟩),.slice (some ⟨w1.heap.size,0,none⟩) 1 1] (w1.alloc (.cells #[.func (.func 107) #[] #[]] 91)) (TelB (seqK (IF f) [1]) (w1.alloc (.cells #[.func (.func 107) #[] #[]] 91))):=fun w1 u=>qK [1] x f _ _ _ _ (Nx.up hx (u.alloc _)) (hv.up (u.alloc _)) hn.hf (by decide) (zJ (fnsC [1]) (heap_alloc_new w1 _)) (qQ hn (by decide))
 obtain⟨hb,hhb⟩:∃hb,texB x B.nck isEmp=hb:=⟨_,rfl⟩;obtain⟨tb,htb⟩:∃tb,seqK (IF f) [1]=tb:=⟨_,rfl⟩;rw[hhb,htb];rw[hhb] at cH;rw[htb] at cT;clear HE hhb htb hv hk hn hx hq c1 c2 c3 c4 hcc hkid
 cases hb
 ·go_enter Tryz.func62,Tryz.ntmps62
  go_wp2_with fail;refine cH.mono ?_;rintro e w1 ⟨rfl,u1⟩;go_wp2_with fail
  go_ret
  exact qD rfl u1
 ·go_enter Tryz.func62,Tryz.ntmps62
  go_wp2_with fail;refine cH.mono ?_;rintro e w1 ⟨rfl,u1⟩;go_wp2_with fail;refine(cT w1 u1).mono ?_;rintro e w2 ⟨rfl,u2⟩;go_wp2_with fail
  go_ret
  exact qD (by cases tb<;>rfl) (Up.trans (u1.alloc _) u2)
theorem zPi (x:Nod) (f:Fr) (w:World) (v:Value) (hk:x.k=72) (hn:Nd1 x f) (hx:B.Nx w) (hv:HasT w v (some (x,f))):Calls Tryz.prog 62 #[v] w (TelB (isT B.nck B.long (x,f) 6) w):=by
 have HE:Hid (isT B.nck B.long (x,f) 6=(texB x B.nck isEmp&&seqOk (IF f) [67])):=Lib.hid (by show isX _ _ x (IF f) 6=_;rw[qL hk (by rfl),yE (A:=B.nck) (M:=isEmp) (fun _=>rfl) (fun _=>rfl)]);rw[HE.out];obtain⟨q,p,A,c',rfl,hq,c0,c1,c2,c3,c4,hcc,hkid⟩:=InT.open hv;rw[hk] at c0;have cH:=zZ x f w _ hv hn.hs.1;have cT:∀w1,Up w w1->Calls Tryz.prog 108 #[.pointer (some ⟨q,p,none⟩)] w1 (TelB (seqOk (IF f) [67]) w1):=fun w1 u=>tH x f w1 _ (Nx.up hx u) (hv.up u) hn.hs hn.hf fun i t h=>⟨(hn.ih i t h).ln,(hn.ih i t h).kk⟩
 obtain⟨hb,hhb⟩:∃hb,texB x B.nck isEmp=hb:=⟨_,rfl⟩;obtain⟨tb,htb⟩:∃tb,seqOk (IF f) [67]=tb:=⟨_,rfl⟩;rw[hhb,htb];rw[hhb] at cH;rw[htb] at cT;clear HE hhb htb hv hk hn hx hq c1 c2 c3 c4 hcc hkid
 cases hb
 ·go_enter Tryz.func62,Tryz.ntmps62
  go_wp2_with fail;refine cH.mono ?_;rintro e w1 ⟨rfl,u1⟩;go_wp2_with fail
  go_ret
  exact qD rfl u1
 ·go_enter Tryz.func62,Tryz.ntmps62
  go_wp2_with fail;refine cH.mono ?_;rintro e w1 ⟨rfl,u1⟩;go_wp2_with fail;refine(cT w1 u1).mono ?_;rintro e w2 ⟨rfl,u2⟩;go_wp2_with fail
  go_ret
  exact qD (by cases tb<;>rfl) (Up.trans (u1) u2)
theorem zPj (x:Nod) (f:Fr) (w:World) (v:Value) (hk:x.k=73) (hn:Nd1 x f) (hx:B.Nx w) (hv:HasT w v (some (x,f))):Calls Tryz.prog 62 #[v] w (TelB (isT B.nck B.long (x,f) 6) w):=by
 have HE:Hid (isT B.nck B.long (x,f) 6=(texB x B.nck isEmp&&seqK (IF f) [3])):=Lib.hid (by show isX _ _ x (IF f) 6=_;rw[qL hk (by rfl),yE (A:=B.nck) (M:=isEmp) (fun _=>rfl) (fun _=>rfl),zO _ _ (by rfl)];rfl);rw[HE.out];obtain⟨q,p,A,c',rfl,hq,c0,c1,c2,c3,c4,hcc,hkid⟩:=InT.open hv;rw[hk] at c0;have cH:=zZ x f w _ hv hn.hs.1;have cT:∀w1,Up w w1->Calls Tryz.prog 102 #[.pointer (some ⟨q,p,none⟩),.slice (some ⟨w1.heap.size,0,none⟩) 1 1] (w1.alloc (.cells #[.func (.func 109) #[] #[]] 91)) (TelB (seqK (IF f) [3]) (w1.alloc (.cells #[.func (.func 109) #[] #[]] 91))):=fun w1 u=>qK [3] x f _ _ _ _ (Nx.up hx (u.alloc _)) (hv.up (u.alloc _)) hn.hf (by decide) (zJ (fnsC [3]) (heap_alloc_new w1 _)) (qQ hn (by decide))
 obtain⟨hb,hhb⟩:∃hb,texB x B.nck isEmp=hb:=⟨_,rfl⟩;obtain⟨tb,htb⟩:∃tb,seqK (IF f) [3]=tb:=⟨_,rfl⟩;rw[hhb,htb];rw[hhb] at cH;rw[htb] at cT;clear HE hhb htb hv hk hn hx hq c1 c2 c3 c4 hcc hkid
 cases hb
 ·go_enter Tryz.func62,Tryz.ntmps62
  go_wp2_with fail;refine cH.mono ?_;rintro e w1 ⟨rfl,u1⟩;go_wp2_with fail
  go_ret
  exact qD rfl u1
 ·go_enter Tryz.func62,Tryz.ntmps62
  go_wp2_with fail;refine cH.mono ?_;rintro e w1 ⟨rfl,u1⟩;go_wp2_with fail;refine(cT w1 u1).mono ?_;rintro e w2 ⟨rfl,u2⟩;go_wp2_with fail
  go_ret
  exact qD (by cases tb<;>rfl) (Up.trans (u1.alloc _) u2)
theorem zPk (x:Nod) (f:Fr) (w:World) (v:Value) (hk:x.k=74) (hn:Nd1 x f) (hx:B.Nx w) (hv:HasT w v (some (x,f))):Calls Tryz.prog 62 #[v] w (TelB (isT B.nck B.long (x,f) 6) w):=by
 have HE:Hid (isT B.nck B.long (x,f) 6=(texB x B.nck isEmp&&seqK (IF f) [4])):=Lib.hid (by show isX _ _ x (IF f) 6=_;rw[qL hk (by rfl),yE (A:=B.nck) (M:=isEmp) (fun _=>rfl) (fun _=>rfl),zO _ _ (by rfl)];rfl);rw[HE.out];obtain⟨q,p,A,c',rfl,hq,c0,c1,c2,c3,c4,hcc,hkid⟩:=InT.open hv;rw[hk] at c0;have cH:=zZ x f w _ hv hn.hs.1;have cT:∀w1,Up w w1->Calls Tryz.prog 102 #[.pointer (some ⟨q,p,none⟩),.slice (some ⟨w1.heap.size,0,none⟩) 1 1] (w1.alloc (.cells #[.func (.func 110) #[] #[]] 91)) (TelB (seqK (IF f) [4]) (w1.alloc (.cells #[.func (.func 110) #[] #[]] 91))):=fun w1 u=>qK [4] x f _ _ _ _ (Nx.up hx (u.alloc _)) (hv.up (u.alloc _)) hn.hf (by decide) (zJ (fnsC [4]) (heap_alloc_new w1 _)) (qQ hn (by decide))
 obtain⟨hb,hhb⟩:∃hb,texB x B.nck isEmp=hb:=⟨_,rfl⟩;obtain⟨tb,htb⟩:∃tb,seqK (IF f) [4]=tb:=⟨_,rfl⟩;rw[hhb,htb];rw[hhb] at cH;rw[htb] at cT;clear HE hhb htb hv hk hn hx hq c1 c2 c3 c4 hcc hkid
 cases hb
 ·go_enter Tryz.func62,Tryz.ntmps62
  go_wp2_with fail;refine cH.mono ?_;rintro e w1 ⟨rfl,u1⟩;go_wp2_with fail
  go_ret
  exact qD rfl u1
 ·go_enter Tryz.func62,Tryz.ntmps62
  go_wp2_with fail;refine cH.mono ?_;rintro e w1 ⟨rfl,u1⟩;go_wp2_with fail;refine(cT w1 u1).mono ?_;rintro e w2 ⟨rfl,u2⟩;go_wp2_with fail
  go_ret
  exact qD (by cases tb<;>rfl) (Up.trans (u1.alloc _) u2)
theorem zPl (x:Nod) (f:Fr) (w:World) (v:Value) (hk:x.k=75) (hn:Nd1 x f) (hx:B.Nx w) (hv:HasT w v (some (x,f))):Calls Tryz.prog 62 #[v] w (TelB (isT B.nck B.long (x,f) 6) w):=by
 have HE:Hid (isT B.nck B.long (x,f) 6=(texB x B.nck B.nck&&seqK (IF f) [4,3])):=Lib.hid (by show isX _ _ x (IF f) 6=_;rw[qL hk (by rfl),yE (A:=B.nck) (M:=B.nck) (fun _=>rfl) (fun _=>rfl),zO _ _ (by rfl)];rfl);rw[HE.out];obtain⟨q,p,A,c',rfl,hq,c0,c1,c2,c3,c4,hcc,hkid⟩:=InT.open hv;rw[hk] at c0;have cH:=aD x f w _ hv hn.hs.1 hn.hs.2.1;have cT:∀w1,Up w w1->Calls Tryz.prog 102 #[.pointer (some ⟨q,p,none⟩),.slice (some ⟨w1.heap.size,0,none⟩) 2 2] (w1.alloc (.cells #[.func (.func 110) #[] #[],.func (.func 109) #[] #[]] 91)) (TelB (seqK (IF f) [4,3]) (w1.alloc (.cells #[.func (.func 110) #[] #[],.func (.func 109) #[] #[]] 91))):=fun w1 u=>qK [4,3] x f _ _ _ _ (Nx.up hx (u.alloc _)) (hv.up (u.alloc _)) hn.hf (by decide) (zJ (fnsC [4,3]) (heap_alloc_new w1 _)) (qQ hn (by decide))
 obtain⟨hb,hhb⟩:∃hb,texB x B.nck B.nck=hb:=⟨_,rfl⟩;obtain⟨tb,htb⟩:∃tb,seqK (IF f) [4,3]=tb:=⟨_,rfl⟩;rw[hhb,htb];rw[hhb] at cH;rw[htb] at cT;clear HE hhb htb hv hk hn hx hq c1 c2 c3 c4 hcc hkid
 cases hb
 ·go_enter Tryz.func62,Tryz.ntmps62
  go_wp2_with fail;refine cH.mono ?_;rintro e w1 ⟨rfl,u1⟩;go_wp2_with fail
  go_ret
  exact qD rfl u1
 ·go_enter Tryz.func62,Tryz.ntmps62
  go_wp2_with fail;refine cH.mono ?_;rintro e w1 ⟨rfl,u1⟩;go_wp2_with fail;refine(cT w1 u1).mono ?_;rintro e w2 ⟨rfl,u2⟩;go_wp2_with fail
  go_ret
  exact qD (by cases tb<;>rfl) (Up.trans (u1.alloc _) u2)
theorem zPm (x:Nod) (f:Fr) (w:World) (v:Value) (hk:x.k=76) (hn:Nd1 x f) (hx:B.Nx w) (hv:HasT w v (some (x,f))):Calls Tryz.prog 62 #[v] w (TelB (isT B.nck B.long (x,f) 6) w):=by
 have HE:Hid (isT B.nck B.long (x,f) 6=(texB x B.long isEmp&&seqK (IF f) [])):=Lib.hid (by show isX _ _ x (IF f) 6=_;rw[qL hk (by rfl),yE (A:=B.long) (M:=isEmp) (fun _=>rfl) (fun _=>rfl),zO _ _ (by rfl)];rfl);rw[HE.out];obtain⟨q,p,A,c',rfl,hq,c0,c1,c2,c3,c4,hcc,hkid⟩:=InT.open hv;rw[hk] at c0;have cH:=xW x f w _ hv hn.hs.1 hx;have cT:∀w1,Up w w1->Calls Tryz.prog 102 #[.pointer (some ⟨q,p,none⟩),.slice none 0 0] w1 (TelB (seqK (IF f) []) w1):=fun w1 u=>qK [] x f w1 _ none 0 (Nx.up hx u) (hv.up u) hn.hf (by decide) (fun _ _ _ h=>by cases h) (fun _ _ _ _ h=>by cases h)
 obtain⟨hb,hhb⟩:∃hb,texB x B.long isEmp=hb:=⟨_,rfl⟩;obtain⟨tb,htb⟩:∃tb,seqK (IF f) []=tb:=⟨_,rfl⟩;rw[hhb,htb];rw[hhb] at cH;rw[htb] at cT;clear HE hhb htb hv hk hn hx hq c1 c2 c3 c4 hcc hkid
 cases hb
 ·go_enter Tryz.func62,Tryz.ntmps62
  go_wp2_with fail;refine cH.mono ?_;rintro e w1 ⟨rfl,u1⟩;go_wp2_with fail
  go_ret
  exact qD rfl u1
 ·go_enter Tryz.func62,Tryz.ntmps62
  go_wp2_with fail;refine cH.mono ?_;rintro e w1 ⟨rfl,u1⟩;go_wp2_with fail;refine(cT w1 u1).mono ?_;rintro e w2 ⟨rfl,u2⟩;go_wp2_with fail
  go_ret
  exact qD (by cases tb<;>rfl) (Up.trans (u1) u2)
theorem zPn (x:Nod) (f:Fr) (w:World) (v:Value) (hk:x.k=77) (hn:Nd1 x f) (hx:B.Nx w) (hv:HasT w v (some (x,f))):Calls Tryz.prog 62 #[v] w (TelB (isT B.nck B.long (x,f) 6) w):=by
 have HE:Hid (isT B.nck B.long (x,f) 6=(texB x B.long isEmp&&seqK (IF f) [])):=Lib.hid (by show isX _ _ x (IF f) 6=_;rw[qL hk (by rfl),yE (A:=B.long) (M:=isEmp) (fun _=>rfl) (fun _=>rfl),zO _ _ (by rfl)];rfl);rw[HE.out];obtain⟨q,p,A,c',rfl,hq,c0,c1,c2,c3,c4,hcc,hkid⟩:=InT.open hv;rw[hk] at c0;have cH:=xW x f w _ hv hn.hs.1 hx;have cT:∀w1,Up w w1->Calls Tryz.prog 102 #[.pointer (some ⟨q,p,none⟩),.slice none 0 0] w1 (TelB (seqK (IF f) []) w1):=fun w1 u=>qK [] x f w1 _ none 0 (Nx.up hx u) (hv.up u) hn.hf (by decide) (fun _ _ _ h=>by cases h) (fun _ _ _ _ h=>by cases h)
 obtain⟨hb,hhb⟩:∃hb,texB x B.long isEmp=hb:=⟨_,rfl⟩;obtain⟨tb,htb⟩:∃tb,seqK (IF f) []=tb:=⟨_,rfl⟩;rw[hhb,htb];rw[hhb] at cH;rw[htb] at cT;clear HE hhb htb hv hk hn hx hq c1 c2 c3 c4 hcc hkid
 cases hb
 ·go_enter Tryz.func62,Tryz.ntmps62
  go_wp2_with fail;refine cH.mono ?_;rintro e w1 ⟨rfl,u1⟩;go_wp2_with fail
  go_ret
  exact qD rfl u1
 ·go_enter Tryz.func62,Tryz.ntmps62
  go_wp2_with fail;refine cH.mono ?_;rintro e w1 ⟨rfl,u1⟩;go_wp2_with fail;refine(cT w1 u1).mono ?_;rintro e w2 ⟨rfl,u2⟩;go_wp2_with fail
  go_ret
  exact qD (by cases tb<;>rfl) (Up.trans (u1) u2)
theorem zXe:∀r∈RWS,r.cat=6->r.kind∈[(70:Int),(71:Int),(72:Int),(73:Int),(74:Int),(75:Int),(76:Int),(77:Int)]:=by decide
theorem zXf (x:Nod) (f:Fr) (w:World) (v:Value) (n70:¬x.k=70) (n71:¬x.k=71) (n72:¬x.k=72) (n73:¬x.k=73) (n74:¬x.k=74) (n75:¬x.k=75) (n76:¬x.k=76) (n77:¬x.k=77) (hv:HasT w v (some (x,f))):Calls Tryz.prog 62 #[v] w (TelB (isT B.nck B.long (x,f) 6) w):=by
 have HE:Hid (isT B.nck B.long (x,f) 6=false):=Lib.hid (jZ fun r hr hc e=>by have:=zXe r hr hc;rw[e] at this;simp only[List.mem_cons,List.not_mem_nil,or_false] at this;omega);rw[HE.out];obtain⟨q,p,A,c',rfl,hq,c0,c1,c2,c3,c4,hcc,hkid⟩:=InT.open hv;clear hv HE hq c1 c2 c3 c4 hcc hkid
 go_enter Tryz.func62,Tryz.ntmps62
 go_wp2_with fail
 go_ret
 exact qD rfl (Up.refl _)
theorem zVv (x:Nod) (f:Fr) (hn:Nd1 x f):TelAt 62 (isT B.nck B.long (x,f) 6) (x,f):=fun w v hx hv=>by
 by_cases n70:x.k=70
 ·exact zPg x f w v n70 hn hx hv
 by_cases n71:x.k=71
 ·exact zPh x f w v n71 hn hx hv
 by_cases n72:x.k=72
 ·exact zPi x f w v n72 hn hx hv
 by_cases n73:x.k=73
 ·exact zPj x f w v n73 hn hx hv
 by_cases n74:x.k=74
 ·exact zPk x f w v n74 hn hx hv
 by_cases n75:x.k=75
 ·exact zPl x f w v n75 hn hx hv
 by_cases n76:x.k=76
 ·exact zPm x f w v n76 hn hx hv
 by_cases n77:x.k=77
 ·exact zPn x f w v n77 hn hx hv
 exact zXf x f w v n70 n71 n72 n73 n74 n75 n76 n77 hv
end Go.Proofs.YtgeghilbikljcaaGreatDoor
