/-
  Plain: a type's text: its tokens, with a blank between each two.
-/
import Derived.Test.YtbpijnalmakfaaaGreatDoorGw08
import Derived.Test.YtbpijnalmakfaaaGreatDoorGw36
import Derived.Test.YtbpijnalmakfaaaGreatDoorGw52
set_option maxHeartbeats 40000000
set_option maxRecDepth 100000
namespace Go.Proofs.YtbpijnalmakfaaaGreatDoor
theorem zC2 {x y:List Tk} (k:ByteArray) (hx:x≠[]) (hy:y≠[]):tB (x++ky k::y)=tB x++(⟨#[32]⟩++k++⟨#[32]⟩)++tB y:=by
 have e:ky k::y=[ky k]++y:=rfl;rw[xS hx (by simp),e,xS (by simp) hy,vB];refine zP _ _ ?_;simp only[qM,List.append_assoc]
 rfl
section
variable {nk lg:ByteArray→Bool}
end
section
variable {nk lg:ByteArray→Bool} {nb:Int→ByteArray}
theorem zM3:txA nb .nil=nob:=zP _ _ rfl
end
section
variable {nk lg:ByteArray→Bool} {nb:Int→ByteArray}
theorem zP1 (hn:∀s,nk s=true→s.size≤128) (hg:∀s,lg s=true→s.size≤128) (hb:∀k:Int,-1073741824≤k→k≤1073741824→(nb k).size≤128) {f:Fr} (h:ArmOk nk lg f):(txA nb f).size≤1290*f.sz:=by
 have:=zTu (lV (nb:=nb) f h hn fun t _ ht=>lW hn hg hb _ t (Nat.le_refl _) ht);unfold txA;omega
theorem xW {t:Tr} (r:Nat) {n:Nat} (h:(txE nb t).size≤n):(atX nb t r).size≤n+4:=by
 unfold atX
 split
 ·simp only[ByteArray.size_append];show 2+_+2≤_;omega
 ·omega
end
end Go.Proofs.YtbpijnalmakfaaaGreatDoor
namespace Go.Proofs.YtbpijnalmakfaaaGreatDoor
open Go.RowKit
def SrP (s:ByteArray) (W:World) (e:Ending) (w':World):Prop:=e = .returned (.string s)∧Up W w'
theorem zD {a b:ByteArray} {W w':World} (h:a=b) (u:Up W w'):SrP a W (.returned (.string b)) w':=⟨by rw[h],u⟩
def TxtAt (t:Tr):Prop:=∀(W w:World) (v:Value),HasT W v (some t)→Up W w→Calls Tryz.prog 83 #[v] w (SrP (tB (tkT t)) W)
theorem sZ {t:Tr} (h:TxtAt t) (hne:tkT t≠[]) (hz:(tB (tkT t)).size≤1000000000) (b:Bool) (W w:World) (v:Value) (hv:HasT W v (some t)) (hu:Up W w) :
  Calls Tryz.prog 146 #[v,.bool b] w (SrP (tB (wi b (tkT t))) W):=by
 have cT:=h W w v hv hu
 cases b with
 | false=>
  have e:wi false (tkT t)=tkT t:=rfl;rw[e]
  go_enter Tryz.func146,Tryz.ntmps146
  go_wp2_with fail;refine cT.mono ?_;rintro e w1 ⟨rfl,u1⟩;go_wp2_with fail
  go_ret
  exact zD rfl u1
 | true=>
  rw[zOe hne];obtain⟨s,hs⟩:∃s,tB (tkT t)=s:=⟨_,rfl⟩;rw[hs] at cT hz ⊢
  go_enter Tryz.func146,Tryz.ntmps146
  go_wp2_with fail;refine cT.mono ?_;rintro e w1 ⟨rfl,u1⟩;go_wp2_with fail
  go_ret
  exact zD rfl u1
theorem zJc (k:Int) (hk:k=1∨k=2∨k=3):TxtAt (nd k nob .nil):=fun W w v hv hu=>by
 obtain⟨q,p,A,c,rfl,hq,c0,c1,c2,c3,c4,hc,hkid⟩:=InT.open hv;have hqw:q<w.heap.size:=Nat.lt_of_lt_of_le hq hu.size;have k0:w.cell? ⟨q,p,none⟩=some (.int .i64 k):=hu.cell c0;clear c0 c1 c2 c3 c4 hc hkid hv
 rcases hk with rfl | rfl | rfl
 all_goals
  go_enter Tryz.func83,Tryz.ntmps83
  go_wp2_with fail
  go_ret
  exact zD rfl (hu.alloc _)
theorem zJd (s:ByteArray):TxtAt (nd 4 s .nil):=fun W w v hv hu=>by
 obtain⟨q,p,A,c,rfl,hq,c0,c1,c2,c3,c4,hc,hkid⟩:=InT.open hv;have u1:Up W (w.alloc (.cells #[.string ⟨#[]⟩,.string kInt,.string kBool,.string kUnit] 9)):=hu.alloc _;have hqw:q<w.heap.size:=Nat.lt_of_lt_of_le hq hu.size;have k0:w.cell? ⟨q,p,none⟩=some (.int .i64 4):=hu.cell c0;have k2:w.cell? ⟨q,p+2,none⟩=some (.string s):=hu.cell c2;clear c0 c1 c2 c3 c4 hc hkid hv;have e:tB (tkT (nd 4 s .nil))=s:=vB (nmT s);rw[e]
 go_enter Tryz.func83,Tryz.ntmps83
 go_wp2_with fail
 go_ret
 exact zD rfl u1
theorem yTo (a b:Tr) (hA:TxtAt a) (hB:TxtAt b) (na:tkT a≠[]) (nb:tkT b≠[]) (za:(tB (tkT a)).size≤1000000000) (zb:(tB (tkT b)).size≤1000000000):TxtAt (nd 5 nob (fr2 a b)):=fun W w v hv hu=>by
 obtain⟨q,p,A,c,rfl,hq,c0,c1,c2,c3,c4,hc,hkid⟩:=InT.open hv;obtain⟨kb,ko,rfl,hkb,⟨va,ca,ia⟩,⟨vb,cb,ib⟩,-⟩:=hkid (by show 0<2;omega);have hqw:q<w.heap.size:=Nat.lt_of_lt_of_le hq hu.size;have k0:w.cell? ⟨q,p,none⟩=some (.int .i64 5):=hu.cell c0;have e0:=fF a b;rw[e0,zC2 zI (zOf na) nb];obtain⟨s2,hs2⟩:∃s,tB (tkT b)=s:=⟨_,rfl⟩;have cB:∀u:Upw W,Calls Tryz.prog 83 #[vb] u.w fun e w'=>e = .returned (.string s2)∧Up W w':=fun u=>by rw[←hs2];exact hB W u.w vb ib u.h
 rw[hs2] at zb ⊢;obtain⟨xa,fa⟩:=a;obtain⟨b5,hb5⟩:∃d,is5 xa=d:=⟨_,rfl⟩;have hz1:(tB (wi b5 (tkT (xa,fa)))).size≤1000000100:=by
  cases b5 with
  | false=>exact Nat.le_trans za (by omega)
  | true=>rw[zOe na];simp only[ByteArray.size_append];show 2+_+2≤_;omega
 have hb5':is5 ((xa,fa):Tr).1=b5:=hb5;rw[hb5'];obtain⟨s1,hs1⟩:∃s,tB (wi b5 (tkT (xa,fa)))=s:=⟨_,rfl⟩;have cA:∀u:Upw W,Calls Tryz.prog 146 #[va,.bool b5] u.w fun e w'=>e = .returned (.string s1)∧Up W w':=fun u=>by rw[←hs1];exact sZ hA na za b5 W u.w va ia u.h
 rw[hs1] at hz1 ⊢;obtain⟨qa,pa,Aa,ca',rfl,hqa,d0,-⟩:=InT.open ia;obtain⟨qb,pb,rfl⟩:=InT.ptr ib;have k4u:∀u:Upw W,u.w.cell? ⟨q,p+4,none⟩=some (.slice (some ⟨kb,ko,none⟩) 2 c):=Upw.cell c4;have kau:∀u:Upw W,u.w.cell? ⟨kb,ko,none⟩=some (.pointer (some ⟨qa,pa,none⟩)):=Upw.cell ca;have kbu:∀u:Upw W,u.w.cell? ⟨kb,ko+1,none⟩=some (.pointer (some ⟨qb,pb,none⟩)):=Upw.cell cb;have dau:∀u:Upw W,u.w.cell? ⟨qa,pa,none⟩=some (.int .i64 xa.k):=Upw.cell d0;have CA:=Lib.hid cA;have CB:=Lib.hid cB;clear c0 c1 c2 c3 c4 hkid hv ia ib ca cb d0 hb5' hs1 hs2 e0 hA hB za cA cB na nb;have HSS:Hid (s1++(⟨#[32]⟩++zI++⟨#[32]⟩)++s2=s1++⟨#[32,45,62,32]⟩++s2):=Lib.hid rfl;rw[HSS.out];have U1:=Lib.hid (hu.alloc (.cells #[.string ⟨#[]⟩,.string kInt,.string kBool,.string kUnit] 9))
 cases b5 with
 | false=>
  have h5:(xa.k==5)=false:=by rw[beq_eq_false_iff_ne];exact of_decide_eq_false hb5
  go_enter Tryz.func83,Tryz.ntmps83
  go_wp2_with fail;refine qF (W:=W) U1.out (by kernel_rfl) (by kernel_rfl) ?_
  repeat (go_big_quiet_step (first
   | (go_at_call 146;exact Calls.upw (CA.out (by assumption:Upw W)))
   | (go_at_call 83;exact Calls.upw (CB.out (by assumption:Upw W)))))
  refine wpQuiet_nil ?_;rintro _ ⟨⟨w9,u9⟩,rfl⟩;go_wp2_with fail
  go_ret
  exact zD rfl u9
 | true=>
  have h5:(xa.k==5)=true:=by rw[beq_iff_eq];exact of_decide_eq_true hb5
  go_enter Tryz.func83,Tryz.ntmps83
  go_wp2_with fail;refine qF (W:=W) U1.out (by kernel_rfl) (by kernel_rfl) ?_
  repeat (go_big_quiet_step (first
   | (go_at_call 146;exact Calls.upw (CA.out (by assumption:Upw W)))
   | (go_at_call 83;exact Calls.upw (CB.out (by assumption:Upw W)))))
  refine wpQuiet_nil ?_;rintro _ ⟨⟨w9,u9⟩,rfl⟩;go_wp2_with fail
  go_ret
  exact zD rfl u9
theorem yTp {x:Nod} (h:x.k=5):nG x=true:=by unfold nG;rw[decide_eq_true h];rfl
theorem yTq {x:Nod} (h:x.k=6):nG x=true:=by unfold nG;rw[decide_eq_true h,Bool.or_true]
theorem yYd {x:Nod} (h:¬x.k=5) (h':¬x.k=6):nG x=false:=by unfold nG;rw[decide_eq_false h,decide_eq_false h'];rfl
theorem yXc {ts:List Tk} (b:Bool) (hn:ts≠[]) (h:(tB ts).size≤1000000000):(tB (wi b ts)).size≤1000000100:=by
 cases b with
 | false=>exact Nat.le_trans h (by omega)
 | true=>rw[zOe hn];simp only[ByteArray.size_append];show 2+_+2≤_;omega
theorem yTr (a b:Tr) (hA:TxtAt a) (hB:TxtAt b) (na:tkT a≠[]) (nb:tkT b≠[]) (za:(tB (tkT a)).size≤1000000000) (zb:(tB (tkT b)).size≤1000000000):TxtAt (nd 6 nob (fr2 a b)):=fun W w v hv hu=>by
 obtain⟨q,p,A,c,rfl,hq,c0,c1,c2,c3,c4,hc,hkid⟩:=InT.open hv;obtain⟨kb,ko,rfl,hkb,⟨va,ca,ia⟩,⟨vb,cb,ib⟩,-⟩:=hkid (by show 0<2;omega);have hqw:q<w.heap.size:=Nat.lt_of_lt_of_le hq hu.size;have k0:w.cell? ⟨q,p,none⟩=some (.int .i64 6):=hu.cell c0;have e0:=fG a b;rw[e0,zC2 kStar (zOf na) (zOf nb)];obtain⟨xa,fa⟩:=a;obtain⟨xb,fb⟩:=b;obtain⟨ba,hba⟩:∃d,nG xa=d:=⟨_,rfl⟩;obtain⟨bb,hbb⟩:∃d,is5 xb=d:=⟨_,rfl⟩;have hba':nG ((xa,fa):Tr).1=ba:=hba;have hbb':is5 ((xb,fb):Tr).1=bb:=hbb;rw[hba',hbb'];have z1:=yXc ba na za;have z2:=yXc bb nb zb;obtain⟨s1,hs1⟩:∃s,tB (wi ba (tkT (xa,fa)))=s:=⟨_,rfl⟩;obtain⟨s2,hs2⟩:∃s,tB (wi bb (tkT (xb,fb)))=s:=⟨_,rfl⟩;have cA:∀u:Upw W,Calls Tryz.prog 146 #[va,.bool ba] u.w fun e w'=>e = .returned (.string s1)∧Up W w':=fun u=>by rw[←hs1];exact sZ hA na za ba W u.w va ia u.h
 have cB:∀u:Upw W,Calls Tryz.prog 146 #[vb,.bool bb] u.w fun e w'=>e = .returned (.string s2)∧Up W w':=fun u=>by rw[←hs2];exact sZ hB nb zb bb W u.w vb ib u.h
 rw[hs1] at z1 ⊢;rw[hs2] at z2 ⊢;obtain⟨qa,pa,Aa,ca',rfl,hqa,d0,-⟩:=InT.open ia;obtain⟨qb,pb,Ab,cb',rfl,hqb,f0,-⟩:=InT.open ib;have k4u:∀u:Upw W,u.w.cell? ⟨q,p+4,none⟩=some (.slice (some ⟨kb,ko,none⟩) 2 c):=Upw.cell c4;have kau:∀u:Upw W,u.w.cell? ⟨kb,ko,none⟩=some (.pointer (some ⟨qa,pa,none⟩)):=Upw.cell ca;have kbu:∀u:Upw W,u.w.cell? ⟨kb,ko+1,none⟩=some (.pointer (some ⟨qb,pb,none⟩)):=Upw.cell cb;have dau:∀u:Upw W,u.w.cell? ⟨qa,pa,none⟩=some (.int .i64 xa.k):=Upw.cell d0;have dbu:∀u:Upw W,u.w.cell? ⟨qb,pb,none⟩=some (.int .i64 xb.k):=Upw.cell f0;have CA:=Lib.hid cA;have CB:=Lib.hid cB;clear c0 c1 c2 c3 c4 hkid hv ia ib ca cb d0 f0 hba' hbb' hs1 hs2 e0 hA hB za zb cA cB na nb;have HSS:Hid (s1++(⟨#[32]⟩++kStar++⟨#[32]⟩)++s2=s1++⟨#[32,42,32]⟩++s2):=Lib.hid rfl;rw[HSS.out];have U1:=Lib.hid (hu.alloc (.cells #[.string ⟨#[]⟩,.string kInt,.string kBool,.string kUnit] 9))
 by_cases h5:xa.k=5
 ·have e5:(xa.k==5)=true:=by rw[beq_iff_eq];exact h5
  obtain rfl:ba=true:=by rw[←hba];exact yTp h5
  clear h5 hba
  cases bb with
  | false=>
   have hb5:(xb.k==5)=false:=by rw[beq_eq_false_iff_ne];exact of_decide_eq_false hbb
   go_enter Tryz.func83,Tryz.ntmps83
   go_wp2_with fail;refine qF (W:=W) U1.out (by kernel_rfl) (by kernel_rfl) ?_
   repeat (go_big_quiet_step (fail))
   refine wpQuiet_nil ?_;rintro _ ⟨⟨w8,u8⟩,rfl⟩;go_wp2_with fail;refine qF (W:=W) u8 (by kernel_rfl) (by kernel_rfl) ?_
   iterate 13 (go_big_quiet_step (fail))
   go_big_quiet_step (first | (go_at_call 146;exact Calls.upw (CA.out (by assumption:Upw W))))
   iterate 7 (go_big_quiet_step (fail))
   go_big_quiet_step (first | (go_at_call 146;exact Calls.upw (CB.out (by assumption:Upw W))))
   repeat (go_big_quiet_step (fail))
   refine wpQuiet_nil ?_;rintro _ ⟨⟨w9,u9⟩,rfl⟩;go_wp2_with fail
   go_ret
   exact zD rfl u9
  | true=>
   have hb5:(xb.k==5)=true:=by rw[beq_iff_eq];exact of_decide_eq_true hbb
   go_enter Tryz.func83,Tryz.ntmps83
   go_wp2_with fail;refine qF (W:=W) U1.out (by kernel_rfl) (by kernel_rfl) ?_
   repeat (go_big_quiet_step (fail))
   refine wpQuiet_nil ?_;rintro _ ⟨⟨w8,u8⟩,rfl⟩;go_wp2_with fail;refine qF (W:=W) u8 (by kernel_rfl) (by kernel_rfl) ?_
   iterate 13 (go_big_quiet_step (fail))
   go_big_quiet_step (first | (go_at_call 146;exact Calls.upw (CA.out (by assumption:Upw W))))
   iterate 7 (go_big_quiet_step (fail))
   go_big_quiet_step (first | (go_at_call 146;exact Calls.upw (CB.out (by assumption:Upw W))))
   repeat (go_big_quiet_step (fail))
   refine wpQuiet_nil ?_;rintro _ ⟨⟨w9,u9⟩,rfl⟩;go_wp2_with fail
   go_ret
   exact zD rfl u9
 ·by_cases h6:xa.k=6
  ·have e5:(xa.k==5)=false:=by rw[beq_eq_false_iff_ne];exact h5
   have e6:(xa.k==6)=true:=by rw[beq_iff_eq];exact h6
   obtain rfl:ba=true:=by rw[←hba];exact yTq h6
   clear h5 h6 hba
   cases bb with
   | false=>
    have hb5:(xb.k==5)=false:=by rw[beq_eq_false_iff_ne];exact of_decide_eq_false hbb
    go_enter Tryz.func83,Tryz.ntmps83
    go_wp2_with fail;refine qF (W:=W) U1.out (by kernel_rfl) (by kernel_rfl) ?_
    repeat (go_big_quiet_step (fail))
    refine wpQuiet_nil ?_;rintro _ ⟨⟨w8,u8⟩,rfl⟩;go_wp2_with fail;refine qF (W:=W) u8 (by kernel_rfl) (by kernel_rfl) ?_
    iterate 13 (go_big_quiet_step (fail))
    go_big_quiet_step (first | (go_at_call 146;exact Calls.upw (CA.out (by assumption:Upw W))))
    iterate 7 (go_big_quiet_step (fail))
    go_big_quiet_step (first | (go_at_call 146;exact Calls.upw (CB.out (by assumption:Upw W))))
    repeat (go_big_quiet_step (fail))
    refine wpQuiet_nil ?_;rintro _ ⟨⟨w9,u9⟩,rfl⟩;go_wp2_with fail
    go_ret
    exact zD rfl u9
   | true=>
    have hb5:(xb.k==5)=true:=by rw[beq_iff_eq];exact of_decide_eq_true hbb
    go_enter Tryz.func83,Tryz.ntmps83
    go_wp2_with fail;refine qF (W:=W) U1.out (by kernel_rfl) (by kernel_rfl) ?_
    repeat (go_big_quiet_step (fail))
    refine wpQuiet_nil ?_;rintro _ ⟨⟨w8,u8⟩,rfl⟩;go_wp2_with fail;refine qF (W:=W) u8 (by kernel_rfl) (by kernel_rfl) ?_
    iterate 13 (go_big_quiet_step (fail))
    go_big_quiet_step (first | (go_at_call 146;exact Calls.upw (CA.out (by assumption:Upw W))))
    iterate 7 (go_big_quiet_step (fail))
    go_big_quiet_step (first | (go_at_call 146;exact Calls.upw (CB.out (by assumption:Upw W))))
    repeat (go_big_quiet_step (fail))
    refine wpQuiet_nil ?_;rintro _ ⟨⟨w9,u9⟩,rfl⟩;go_wp2_with fail
    go_ret
    exact zD rfl u9
  ·have e5:(xa.k==5)=false:=by rw[beq_eq_false_iff_ne];exact h5
   have e6:(xa.k==6)=false:=by rw[beq_eq_false_iff_ne];exact h6
   obtain rfl:ba=false:=by rw[←hba];exact yYd h5 h6
   clear h5 h6 hba
   cases bb with
   | false=>
    have hb5:(xb.k==5)=false:=by rw[beq_eq_false_iff_ne];exact of_decide_eq_false hbb
    go_enter Tryz.func83,Tryz.ntmps83
    go_wp2_with fail;refine qF (W:=W) U1.out (by kernel_rfl) (by kernel_rfl) ?_
    repeat (go_big_quiet_step (fail))
    refine wpQuiet_nil ?_;rintro _ ⟨⟨w8,u8⟩,rfl⟩;go_wp2_with fail;refine qF (W:=W) u8 (by kernel_rfl) (by kernel_rfl) ?_
    iterate 13 (go_big_quiet_step (fail))
    go_big_quiet_step (first | (go_at_call 146;exact Calls.upw (CA.out (by assumption:Upw W))))
    iterate 7 (go_big_quiet_step (fail))
    go_big_quiet_step (first | (go_at_call 146;exact Calls.upw (CB.out (by assumption:Upw W))))
    repeat (go_big_quiet_step (fail))
    refine wpQuiet_nil ?_;rintro _ ⟨⟨w9,u9⟩,rfl⟩;go_wp2_with fail
    go_ret
    exact zD rfl u9
   | true=>
    have hb5:(xb.k==5)=true:=by rw[beq_iff_eq];exact of_decide_eq_true hbb
    go_enter Tryz.func83,Tryz.ntmps83
    go_wp2_with fail;refine qF (W:=W) U1.out (by kernel_rfl) (by kernel_rfl) ?_
    repeat (go_big_quiet_step (fail))
    refine wpQuiet_nil ?_;rintro _ ⟨⟨w8,u8⟩,rfl⟩;go_wp2_with fail;refine qF (W:=W) u8 (by kernel_rfl) (by kernel_rfl) ?_
    iterate 13 (go_big_quiet_step (fail))
    go_big_quiet_step (first | (go_at_call 146;exact Calls.upw (CA.out (by assumption:Upw W))))
    iterate 7 (go_big_quiet_step (fail))
    go_big_quiet_step (first | (go_at_call 146;exact Calls.upw (CB.out (by assumption:Upw W))))
    repeat (go_big_quiet_step (fail))
    refine wpQuiet_nil ?_;rintro _ ⟨⟨w9,u9⟩,rfl⟩;go_wp2_with fail
    go_ret
    exact zD rfl u9
def zG (t:Tr):Prop:=∀(W w:World) (v:Value),HasT W v (some t)→Up W w→Calls Tryz.prog 39 #[v] w (SrP (txE qE t) W)
theorem wJ (t:Tr) (W w:World) (v:Value) (hv:HasT W v (some t)) (hu:Up W w):Calls Tryz.prog 85 #[v] w fun e w'=>e = .returned (.int .i64 (lvl t.1:Int))∧w'=w:=by
 obtain⟨x,f⟩:=t;obtain⟨q,p,A,c,rfl,hq,c0,c1,c2,c3,c4,hc,hkid⟩:=InT.open hv;have k0:w.cell? ⟨q,p,none⟩=some (.int .i64 x.k):=hu.cell c0;have k1:w.cell? ⟨q,p+1,none⟩=some (.int .i64 x.n):=hu.cell c1;obtain⟨k,hk⟩:∃k,x.k=k:=⟨_,rfl⟩;obtain⟨n,hn⟩:∃n,x.n=n:=⟨_,rfl⟩;have HL:Hid (((lvl x:Nat):Int)=if k=24∨k=29∨k=30∨k=32∨k=33 then 0 else if k=25 then 4 else if k=31 then (if n<3 then 2 else if n=3 then 3 else 1) else 5):=Lib.hid (by
  subst hk;subst hn;unfold lvl
  repeat' split
  all_goals rfl)
 show Calls _ _ _ _ fun e w'=>e = .returned (.int .i64 ((lvl x:Nat):Int))∧w'=w
 rw[HL.out];rw[hk] at k0;rw[hn] at k1;clear c0 c1 c2 c3 c4 hc hkid hv hk hn hu
 by_cases a1:k=24
 ·rw[if_pos (.inl a1)]
  subst a1
  go_enter Tryz.func85,Tryz.ntmps85
  go_wp2_with fail
  go_ret
  exact⟨rfl,rfl⟩
 by_cases a2:k=29
 ·rw[if_pos (.inr (.inl a2))]
  subst a2
  go_enter Tryz.func85,Tryz.ntmps85
  go_wp2_with fail
  go_ret
  exact⟨rfl,rfl⟩
 by_cases a3:k=30
 ·rw[if_pos (.inr (.inr (.inl a3)))]
  subst a3
  go_enter Tryz.func85,Tryz.ntmps85
  go_wp2_with fail
  go_ret
  exact⟨rfl,rfl⟩
 by_cases a4:k=32
 ·rw[if_pos (.inr (.inr (.inr (.inl a4))))]
  subst a4
  go_enter Tryz.func85,Tryz.ntmps85
  go_wp2_with fail
  go_ret
  exact⟨rfl,rfl⟩
 by_cases a5:k=33
 ·rw[if_pos (.inr (.inr (.inr (.inr a5))))]
  subst a5
  go_enter Tryz.func85,Tryz.ntmps85
  go_wp2_with fail
  go_ret
  exact⟨rfl,rfl⟩
 rw[if_neg (by omega)]
 by_cases a6:k=25
 ·rw[if_pos a6]
  subst a6
  go_enter Tryz.func85,Tryz.ntmps85
  go_wp2_with fail
  go_ret
  exact⟨rfl,rfl⟩
 rw[if_neg a6]
 by_cases a7:k=31
 ·rw[if_pos a7]
  subst a7
  by_cases b1:n<3
  ·rw[if_pos b1]
   go_enter Tryz.func85,Tryz.ntmps85
   go_wp2_with fail
   go_ret
   exact⟨rfl,rfl⟩
  rw[if_neg b1]
  by_cases b2:n=3
  ·rw[if_pos b2]
   subst b2
   go_enter Tryz.func85,Tryz.ntmps85
   go_wp2_with fail
   go_ret
   exact⟨rfl,rfl⟩
  ·rw[if_neg b2]
   go_enter Tryz.func85,Tryz.ntmps85
   go_wp2_with fail
   go_ret
   exact⟨rfl,rfl⟩
 ·rw[if_neg a7]
  go_enter Tryz.func85,Tryz.ntmps85
  go_wp2_with fail
  go_ret
  exact⟨rfl,rfl⟩
theorem xX {t:Tr} (h:zG t) (hz:(txE qE t).size≤1000000000) (r:Nat) (W w:World) (v:Value) (hv:HasT W v (some t)) (hu:Up W w) :
  Calls Tryz.prog 84 #[v,.int .i64 (r:Int)] w (SrP (atX qE t r) W):=by
 have cL:=wJ t W w v hv hu;have cT:=h W w v hv hu;obtain⟨lv,hlv⟩:∃n,lvl t.1=n:=⟨_,rfl⟩;have HA:Hid (atX qE t r=if decide (lv<r) then ⟨#[40,32]⟩++txE qE t++⟨#[32,41]⟩ else txE qE t):=Lib.hid (by unfold atX low;rw[hlv]);rw[HA.out];obtain⟨s,hs⟩:∃s,txE qE t=s:=⟨_,rfl⟩;rw[hs] at cT hz ⊢;rw[hlv] at cL;clear hs HA hlv h hv hu
 by_cases hl:lv<r
 ·have hlz:(lv:Int)<(r:Int):=by omega
  rw[decide_eq_true hl,if_pos rfl]
  go_enter Tryz.func84,Tryz.ntmps84
  go_wp2_with fail;refine cL.mono ?_;rintro e w1 ⟨rfl,rfl⟩;go_wp2_with fail;refine cT.mono ?_;rintro e w2 ⟨rfl,u2⟩;go_wp2_with fail
  go_ret
  exact zD rfl u2
 ·have hlz:¬(lv:Int)<(r:Int):=by omega
  rw[decide_eq_false hl,if_neg (by decide)]
  go_enter Tryz.func84,Tryz.ntmps84
  go_wp2_with fail;refine cL.mono ?_;rintro e w1 ⟨rfl,rfl⟩;go_wp2_with fail;refine cT.mono ?_;rintro e w2 ⟨rfl,u2⟩;go_wp2_with fail
  go_ret
  exact zD rfl u2
theorem yYe (n:Int) (h1 : -1073741824≤n) (h2:n≤1073741824):zG (⟨20,n,nob,nob⟩,.nil):=fun W w v hv hu=>by
 obtain⟨q,p,A,c,rfl,hq,c0,c1,c2,c3,c4,hc,hkid⟩:=InT.open hv;have k0:w.cell? ⟨q,p,none⟩=some (.int .i64 20):=hu.cell c0;have k1:w.cell? ⟨q,p+1,none⟩=some (.int .i64 n):=hu.cell c1;have k4:w.cell? ⟨q,p+4,none⟩=some (.slice A 0 c):=hu.cell c4;have cN:=B.xZ n.natAbs n (Nat.le_refl _) (by omega) (by omega) w;rw[zFr];have HNT:Hid (qE n=B.T (B.numb n)):=Lib.hid rfl;rw[HNT.out];clear c0 c1 c2 c3 c4 hc hkid hv
 go_enter Tryz.func39,Tryz.ntmps39
 go_wp2_with fail;refine cN.mono ?_;rintro e w1 ⟨rfl,m,rfl⟩;go_wp2_with fail
 go_ret
 exact zD rfl (hu.trans (qD (Below.refl _ _) m))
theorem zZ6 (x:Nod) (hx:(∃n,(n=0∨n=1)∧x=⟨21,n,nob,nob⟩)∨x=⟨22,0,nob,nob⟩∨∃s,x=⟨23,0,s,nob⟩):zG (x,.nil):=fun W w v hv hu=>by
 obtain⟨q,p,A,c,rfl,hq,c0,c1,c2,c3,c4,hc,hkid⟩:=InT.open hv;have k0:w.cell? ⟨q,p,none⟩=some (.int .i64 x.k):=hu.cell c0;have k1:w.cell? ⟨q,p+1,none⟩=some (.int .i64 x.n):=hu.cell c1;have k2:w.cell? ⟨q,p+2,none⟩=some (.string x.a):=hu.cell c2;have k4:w.cell? ⟨q,p+4,none⟩=some (.slice A 0 c):=hu.cell c4;clear c0 c1 c2 c3 c4 hc hkid hv
 rcases hx with ⟨n,rfl | rfl,rfl⟩ | rfl | ⟨s,rfl⟩
 ·rw[zRl]
  go_enter Tryz.func39,Tryz.ntmps39
  go_wp2_with fail
  go_ret
  exact zD rfl hu
 ·rw[zRl]
  go_enter Tryz.func39,Tryz.ntmps39
  go_wp2_with fail
  go_ret
  exact zD rfl hu
 ·have e:=zN1 (nb:=qE)
  unfold nd at e;rw[e]
  go_enter Tryz.func39,Tryz.ntmps39
  go_wp2_with fail
  go_ret
  exact zD rfl hu
 ·have e:=zHu (nb:=qE) s
  unfold nd at e;rw[e]
  go_enter Tryz.func39,Tryz.ntmps39
  go_wp2_with fail
  go_ret
  exact zD rfl hu
theorem yYf (a b:Tr) (ha:zG a) (ia:isT B.nck B.long a 2=true) (za:(txE qE a).size≤100000000) (hb:zG b) (ib:isT B.nck B.long b 2=true) (zb:(txE qE b).size≤100000000):zG (nd 25 nob (fr2 a b)):=fun W w v hv hu=>by
 obtain⟨q,p,A,c,rfl,hq,c0,c1,c2,c3,c4,hc,hkid⟩:=InT.open hv;obtain⟨kb,ko,rfl,hkb,⟨va,ma,ja⟩,⟨vb,mb,jb⟩,-⟩:=hkid (by show 0<2;omega);have k0:w.cell? ⟨q,p,none⟩=some (.int .i64 25):=hu.cell c0;have k4:w.cell? ⟨q,p+4,none⟩=some (.slice (some ⟨kb,ko,none⟩) 2 c):=hu.cell c4;rw[zR4 ia ib];have ya:=xW (nb:=qE) (t:=a) 4 za;obtain⟨sa,hsa⟩:∃s,atX qE a 4=s:=⟨_,rfl⟩;have Ca:Hid (∀u:Upw W,Calls Tryz.prog 84 #[va,.int .i64 4] u.w fun e w'=>e = .returned (.string sa)∧Up W w'):=Lib.hid fun u=>by rw[←hsa];exact xX ha (Nat.le_trans za (by omega)) 4 W u.w va ja u.h
 rw[hsa] at ya ⊢;have yb:=xW (nb:=qE) (t:=b) 5 zb;obtain⟨sb,hsb⟩:∃s,atX qE b 5=s:=⟨_,rfl⟩;have Cb:Hid (∀u:Upw W,Calls Tryz.prog 84 #[vb,.int .i64 5] u.w fun e w'=>e = .returned (.string sb)∧Up W w'):=Lib.hid fun u=>by rw[←hsb];exact xX hb (Nat.le_trans zb (by omega)) 5 W u.w vb jb u.h
 rw[hsb] at yb ⊢;obtain⟨qa,pa,rfl⟩:=InT.ptr ja;obtain⟨qb,pb,rfl⟩:=InT.ptr jb;have k4u:∀u:Upw W,u.w.cell? ⟨q,p+4,none⟩=some (.slice (some ⟨kb,ko,none⟩) 2 c):=Upw.cell c4;have kau:∀u:Upw W,u.w.cell? ⟨kb,ko,none⟩=some (.pointer (some ⟨qa,pa,none⟩)):=Upw.cell ma;have kbu:∀u:Upw W,u.w.cell? ⟨kb,ko+1,none⟩=some (.pointer (some ⟨qb,pb,none⟩)):=Upw.cell mb;have HU:=Lib.hid hu;clear c0 c1 c2 c3 c4 hc hkid hv hq hkb hu ja ma hsa ha ia za jb mb hsb hb ib zb
 go_enter Tryz.func39,Tryz.ntmps39
 go_wp2_with fail;refine qF (W:=W) HU.out (by kernel_rfl) (by kernel_rfl) ?_
 repeat (go_big_quiet_step (first
  | (go_at_call 84;first | with_reducible exact Calls.upw (Ca.out _) | with_reducible exact Calls.upw (Cb.out _))
  ))
 refine wpQuiet_nil ?_;rintro _ ⟨⟨w9,u9⟩,rfl⟩;go_wp2_with fail
 go_ret
 exact zD rfl u9
theorem zC3 (a b:Tr) (ha:zG a) (ia:isT B.nck B.long a 2=true) (za:(txE qE a).size≤100000000) (hb:zG b) (ib:isT B.nck B.long b 2=true) (zb:(txE qE b).size≤100000000):zG (nd 26 nob (fr2 a b)):=fun W w v hv hu=>by
 obtain⟨q,p,A,c,rfl,hq,c0,c1,c2,c3,c4,hc,hkid⟩:=InT.open hv;obtain⟨kb,ko,rfl,hkb,⟨va,ma,ja⟩,⟨vb,mb,jb⟩,-⟩:=hkid (by show 0<2;omega);have k0:w.cell? ⟨q,p,none⟩=some (.int .i64 26):=hu.cell c0;have k4:w.cell? ⟨q,p+4,none⟩=some (.slice (some ⟨kb,ko,none⟩) 2 c):=hu.cell c4;rw[zN2 ia ib];obtain⟨sa,hsa⟩:∃s,txE qE a=s:=⟨_,rfl⟩;have Ca:Hid (∀u:Upw W,Calls Tryz.prog 39 #[va] u.w fun e w'=>e = .returned (.string sa)∧Up W w'):=Lib.hid fun u=>by rw[←hsa];exact ha W u.w va ja u.h
 rw[hsa] at za ⊢;obtain⟨sb,hsb⟩:∃s,txE qE b=s:=⟨_,rfl⟩;have Cb:Hid (∀u:Upw W,Calls Tryz.prog 39 #[vb] u.w fun e w'=>e = .returned (.string sb)∧Up W w'):=Lib.hid fun u=>by rw[←hsb];exact hb W u.w vb jb u.h
 rw[hsb] at zb ⊢;obtain⟨qa,pa,rfl⟩:=InT.ptr ja;obtain⟨qb,pb,rfl⟩:=InT.ptr jb;have k4u:∀u:Upw W,u.w.cell? ⟨q,p+4,none⟩=some (.slice (some ⟨kb,ko,none⟩) 2 c):=Upw.cell c4;have kau:∀u:Upw W,u.w.cell? ⟨kb,ko,none⟩=some (.pointer (some ⟨qa,pa,none⟩)):=Upw.cell ma;have kbu:∀u:Upw W,u.w.cell? ⟨kb,ko+1,none⟩=some (.pointer (some ⟨qb,pb,none⟩)):=Upw.cell mb;have HU:=Lib.hid hu;clear c0 c1 c2 c3 c4 hc hkid hv hq hkb hu ja ma hsa ha ia jb mb hsb hb ib
 go_enter Tryz.func39,Tryz.ntmps39
 go_wp2_with fail;refine qF (W:=W) HU.out (by kernel_rfl) (by kernel_rfl) ?_
 repeat (go_big_quiet_step (first
  | (go_at_call 39;first | with_reducible exact Calls.upw (Ca.out _) | with_reducible exact Calls.upw (Cb.out _))
  ))
 refine wpQuiet_nil ?_;rintro _ ⟨⟨w9,u9⟩,rfl⟩;go_wp2_with fail
 go_ret
 exact zD rfl u9
theorem yYg (a:Tr) (ha:zG a) (ia:isT B.nck B.long a 2=true) (za:(txE qE a).size≤100000000):zG (nd 27 nob (fr1 a)):=fun W w v hv hu=>by
 obtain⟨q,p,A,c,rfl,hq,c0,c1,c2,c3,c4,hc,hkid⟩:=InT.open hv;obtain⟨kb,ko,rfl,hkb,⟨va,ma,ja⟩,-⟩:=hkid (by show 0<1;omega);have k0:w.cell? ⟨q,p,none⟩=some (.int .i64 27):=hu.cell c0;have k4:w.cell? ⟨q,p+4,none⟩=some (.slice (some ⟨kb,ko,none⟩) 1 c):=hu.cell c4;rw[zWt (.inl rfl) ia,if_pos rfl];have ya:=xW (nb:=qE) (t:=a) 5 za;obtain⟨sa,hsa⟩:∃s,atX qE a 5=s:=⟨_,rfl⟩;have Ca:Hid (∀u:Upw W,Calls Tryz.prog 84 #[va,.int .i64 5] u.w fun e w'=>e = .returned (.string sa)∧Up W w'):=Lib.hid fun u=>by rw[←hsa];exact xX ha (Nat.le_trans za (by omega)) 5 W u.w va ja u.h
 rw[hsa] at ya ⊢;obtain⟨qa,pa,rfl⟩:=InT.ptr ja;have kaw:w.cell? ⟨kb,ko,none⟩=some (.pointer (some ⟨qa,pa,none⟩)):=hu.cell ma;have HU:=Lib.hid hu;clear c0 c1 c2 c3 c4 hc hkid hv hq hkb hu ja ma hsa ha ia za
 go_enter Tryz.func39,Tryz.ntmps39
 go_wp2_with fail;refine(Ca.out ⟨w,HU.out⟩).mono ?_;rintro e w9 ⟨rfl,u9⟩;go_wp2_with fail
 go_ret
 exact zD rfl u9
theorem yYh (a:Tr) (ha:zG a) (ia:isT B.nck B.long a 2=true) (za:(txE qE a).size≤100000000):zG (nd 28 nob (fr1 a)):=fun W w v hv hu=>by
 obtain⟨q,p,A,c,rfl,hq,c0,c1,c2,c3,c4,hc,hkid⟩:=InT.open hv;obtain⟨kb,ko,rfl,hkb,⟨va,ma,ja⟩,-⟩:=hkid (by show 0<1;omega);have k0:w.cell? ⟨q,p,none⟩=some (.int .i64 28):=hu.cell c0;have k4:w.cell? ⟨q,p+4,none⟩=some (.slice (some ⟨kb,ko,none⟩) 1 c):=hu.cell c4;rw[zWt (.inr rfl) ia,if_neg (by decide)];have ya:=xW (nb:=qE) (t:=a) 5 za;obtain⟨sa,hsa⟩:∃s,atX qE a 5=s:=⟨_,rfl⟩;have Ca:Hid (∀u:Upw W,Calls Tryz.prog 84 #[va,.int .i64 5] u.w fun e w'=>e = .returned (.string sa)∧Up W w'):=Lib.hid fun u=>by rw[←hsa];exact xX ha (Nat.le_trans za (by omega)) 5 W u.w va ja u.h
 rw[hsa] at ya ⊢;obtain⟨qa,pa,rfl⟩:=InT.ptr ja;have kaw:w.cell? ⟨kb,ko,none⟩=some (.pointer (some ⟨qa,pa,none⟩)):=hu.cell ma;have HU:=Lib.hid hu;clear c0 c1 c2 c3 c4 hc hkid hv hq hkb hu ja ma hsa ha ia za
 go_enter Tryz.func39,Tryz.ntmps39
 go_wp2_with fail;refine(Ca.out ⟨w,HU.out⟩).mono ?_;rintro e w9 ⟨rfl,u9⟩;go_wp2_with fail
 go_ret
 exact zD rfl u9
theorem yYi (s:ByteArray) (a b:Tr) (ha:zG a) (ia:isT B.nck B.long a 2=true) (za:(txE qE a).size≤100000000) (hb:zG b) (ib:isT B.nck B.long b 2=true) (zb:(txE qE b).size≤100000000) (zs:s.size≤1000):zG (nd 29 s (fr2 a b)):=fun W w v hv hu=>by
 obtain⟨q,p,A,c,rfl,hq,c0,c1,c2,c3,c4,hc,hkid⟩:=InT.open hv;obtain⟨kb,ko,rfl,hkb,⟨va,ma,ja⟩,⟨vb,mb,jb⟩,-⟩:=hkid (by show 0<2;omega);have k0:w.cell? ⟨q,p,none⟩=some (.int .i64 29):=hu.cell c0;have k2:w.cell? ⟨q,p+2,none⟩=some (.string s):=hu.cell c2;have k4:w.cell? ⟨q,p+4,none⟩=some (.slice (some ⟨kb,ko,none⟩) 2 c):=hu.cell c4;rw[zFt ia ib];obtain⟨sa,hsa⟩:∃s,txE qE a=s:=⟨_,rfl⟩;have Ca:Hid (∀u:Upw W,Calls Tryz.prog 39 #[va] u.w fun e w'=>e = .returned (.string sa)∧Up W w'):=Lib.hid fun u=>by rw[←hsa];exact ha W u.w va ja u.h
 rw[hsa] at za ⊢;obtain⟨sb,hsb⟩:∃s,txE qE b=s:=⟨_,rfl⟩;have Cb:Hid (∀u:Upw W,Calls Tryz.prog 39 #[vb] u.w fun e w'=>e = .returned (.string sb)∧Up W w'):=Lib.hid fun u=>by rw[←hsb];exact hb W u.w vb jb u.h
 rw[hsb] at zb ⊢;obtain⟨qa,pa,rfl⟩:=InT.ptr ja;obtain⟨qb,pb,rfl⟩:=InT.ptr jb;have k4u:∀u:Upw W,u.w.cell? ⟨q,p+4,none⟩=some (.slice (some ⟨kb,ko,none⟩) 2 c):=Upw.cell c4;have k2u:∀u:Upw W,u.w.cell? ⟨q,p+2,none⟩=some (.string s):=Upw.cell c2;have kau:∀u:Upw W,u.w.cell? ⟨kb,ko,none⟩=some (.pointer (some ⟨qa,pa,none⟩)):=Upw.cell ma;have kbu:∀u:Upw W,u.w.cell? ⟨kb,ko+1,none⟩=some (.pointer (some ⟨qb,pb,none⟩)):=Upw.cell mb;have HU:=Lib.hid hu;clear c0 c1 c2 c3 c4 hc hkid hv hq hkb hu ja ma hsa ha ia jb mb hsb hb ib
 go_enter Tryz.func39,Tryz.ntmps39
 go_wp2_with fail;refine qF (W:=W) HU.out (by kernel_rfl) (by kernel_rfl) ?_
 repeat (go_big_quiet_step (first
  | (go_at_call 39;first | with_reducible exact Calls.upw (Ca.out _) | with_reducible exact Calls.upw (Cb.out _))
  ))
 refine wpQuiet_nil ?_;rintro _ ⟨⟨w9,u9⟩,rfl⟩;go_wp2_with fail
 go_ret
 exact zD rfl u9
theorem yTs (a b d:Tr) (ha:zG a) (ia:isT B.nck B.long a 2=true) (za:(txE qE a).size≤100000000) (hb:zG b) (ib:isT B.nck B.long b 2=true) (zb:(txE qE b).size≤100000000) (hd:zG d) (id:isT B.nck B.long d 2=true) (zd:(txE qE d).size≤100000000):zG (nd 30 nob (fr3 a b d)):=fun W w v hv hu=>by
 obtain⟨q,p,A,c,rfl,hq,c0,c1,c2,c3,c4,hc,hkid⟩:=InT.open hv;obtain⟨kb,ko,rfl,hkb,⟨va,ma,ja⟩,⟨vb,mb,jb⟩,⟨vd,md,jd⟩,-⟩:=hkid (by show 0<3;omega);have k0:w.cell? ⟨q,p,none⟩=some (.int .i64 30):=hu.cell c0;have k4:w.cell? ⟨q,p+4,none⟩=some (.slice (some ⟨kb,ko,none⟩) 3 c):=hu.cell c4;rw[yX3 ia ib id];obtain⟨sa,hsa⟩:∃s,txE qE a=s:=⟨_,rfl⟩;have Ca:Hid (∀u:Upw W,Calls Tryz.prog 39 #[va] u.w fun e w'=>e = .returned (.string sa)∧Up W w'):=Lib.hid fun u=>by rw[←hsa];exact ha W u.w va ja u.h
 rw[hsa] at za ⊢;obtain⟨sb,hsb⟩:∃s,txE qE b=s:=⟨_,rfl⟩;have Cb:Hid (∀u:Upw W,Calls Tryz.prog 39 #[vb] u.w fun e w'=>e = .returned (.string sb)∧Up W w'):=Lib.hid fun u=>by rw[←hsb];exact hb W u.w vb jb u.h
 rw[hsb] at zb ⊢;obtain⟨sd,hsd⟩:∃s,txE qE d=s:=⟨_,rfl⟩;have Cd:Hid (∀u:Upw W,Calls Tryz.prog 39 #[vd] u.w fun e w'=>e = .returned (.string sd)∧Up W w'):=Lib.hid fun u=>by rw[←hsd];exact hd W u.w vd jd u.h
 rw[hsd] at zd ⊢;obtain⟨qa,pa,rfl⟩:=InT.ptr ja;obtain⟨qb,pb,rfl⟩:=InT.ptr jb;obtain⟨qd,pd,rfl⟩:=InT.ptr jd;have k4u:∀u:Upw W,u.w.cell? ⟨q,p+4,none⟩=some (.slice (some ⟨kb,ko,none⟩) 3 c):=Upw.cell c4;have kau:∀u:Upw W,u.w.cell? ⟨kb,ko,none⟩=some (.pointer (some ⟨qa,pa,none⟩)):=Upw.cell ma;have kbu:∀u:Upw W,u.w.cell? ⟨kb,ko+1,none⟩=some (.pointer (some ⟨qb,pb,none⟩)):=Upw.cell mb;have kdu:∀u:Upw W,u.w.cell? ⟨kb,ko+2,none⟩=some (.pointer (some ⟨qd,pd,none⟩)):=Upw.cell md;have HU:=Lib.hid hu;clear c0 c1 c2 c3 c4 hc hkid hv hq hkb hu ja ma hsa ha ia jb mb hsb hb ib jd md hsd hd id
 go_enter Tryz.func39,Tryz.ntmps39
 go_wp2_with fail;refine qF (W:=W) HU.out (by kernel_rfl) (by kernel_rfl) ?_
 repeat (go_big_quiet_step (first
  | (go_at_call 39;first | with_reducible exact Calls.upw (Ca.out _) | with_reducible exact Calls.upw (Cb.out _) | with_reducible exact Calls.upw (Cd.out _))
  ))
 refine wpQuiet_nil ?_;rintro _ ⟨⟨w9,u9⟩,rfl⟩;go_wp2_with fail
 go_ret
 exact zD rfl u9
theorem yYj (s:ByteArray) (a b:Tr) (ha:TxtAt a) (ia:isT B.nck B.long a 1=true) (za:(tB (tkT a)).size≤100000000) (hb:zG b) (ib:isT B.nck B.long b 2=true) (zb:(txE qE b).size≤100000000) (zs:s.size≤1000):zG (nd 24 s (fr2 a b)):=fun W w v hv hu=>by
 obtain⟨q,p,A,c,rfl,hq,c0,c1,c2,c3,c4,hc,hkid⟩:=InT.open hv;obtain⟨kb,ko,rfl,hkb,⟨va,ma,ja⟩,⟨vb,mb,jb⟩,-⟩:=hkid (by show 0<2;omega);have k0:w.cell? ⟨q,p,none⟩=some (.int .i64 24):=hu.cell c0;have k2:w.cell? ⟨q,p+2,none⟩=some (.string s):=hu.cell c2;have k4:w.cell? ⟨q,p+4,none⟩=some (.slice (some ⟨kb,ko,none⟩) 2 c):=hu.cell c4;rw[zFs ia ib];obtain⟨sa,hsa⟩:∃s,tB (tkT a)=s:=⟨_,rfl⟩;have Ca:Hid (∀u:Upw W,Calls Tryz.prog 83 #[va] u.w fun e w'=>e = .returned (.string sa)∧Up W w'):=Lib.hid fun u=>by rw[←hsa];exact ha W u.w va ja u.h
 rw[hsa] at za ⊢;obtain⟨sb,hsb⟩:∃s,txE qE b=s:=⟨_,rfl⟩;have Cb:Hid (∀u:Upw W,Calls Tryz.prog 39 #[vb] u.w fun e w'=>e = .returned (.string sb)∧Up W w'):=Lib.hid fun u=>by rw[←hsb];exact hb W u.w vb jb u.h
 rw[hsb] at zb ⊢;obtain⟨qa,pa,rfl⟩:=InT.ptr ja;obtain⟨qb,pb,rfl⟩:=InT.ptr jb;have k4u:∀u:Upw W,u.w.cell? ⟨q,p+4,none⟩=some (.slice (some ⟨kb,ko,none⟩) 2 c):=Upw.cell c4;have k2u:∀u:Upw W,u.w.cell? ⟨q,p+2,none⟩=some (.string s):=Upw.cell c2;have kau:∀u:Upw W,u.w.cell? ⟨kb,ko,none⟩=some (.pointer (some ⟨qa,pa,none⟩)):=Upw.cell ma;have kbu:∀u:Upw W,u.w.cell? ⟨kb,ko+1,none⟩=some (.pointer (some ⟨qb,pb,none⟩)):=Upw.cell mb;have HU:=Lib.hid hu;clear c0 c1 c2 c3 c4 hc hkid hv hq hkb hu ja ma hsa ha ia jb mb hsb hb ib
 go_enter Tryz.func39,Tryz.ntmps39
 go_wp2_with fail;refine qF (W:=W) HU.out (by kernel_rfl) (by kernel_rfl) ?_
 repeat (go_big_quiet_step (first
  | (go_at_call 83;first | with_reducible exact Calls.upw (Ca.out _))
  | (go_at_call 39;first | with_reducible exact Calls.upw (Cb.out _))
  ))
 refine wpQuiet_nil ?_;rintro _ ⟨⟨w9,u9⟩,rfl⟩;go_wp2_with fail
 go_ret
 exact zD rfl u9
theorem rL (f:Fr) (h0:0<f.len) (hl:f.len≤100000) (hk:ArmOk B.nck B.long f) (hsz:1290*f.sz≤100000000) (hT:∀(j:Nat) c x b,f.get j=some (⟨34,0,c,x⟩,fr1 b)→zG b) (W w:World) (kb ko cap:Nat) (hf:InF W (fun q=>q<W.heap.size) f kb ko) (hu:Up W w) :
  Calls Tryz.prog 86 #[.slice (some ⟨kb,ko,none⟩) f.len cap] w (SrP (txA qE f++⟨#[32,101,110,100]⟩) W):=by
 have HF:=Lib.hid hf;have HU:=Lib.hid hu;have HK:=Lib.hid hk;have HT:=Lib.hid hT;have HSZ:Hid (∀j,(txA qE (xH j f)).size≤100000000):=Lib.hid fun j=>by
  have h1:=zP1 (nb:=qE) oO lD wU (eN f j hk);have h2:=zWu f j;omega
 obtain⟨n,hn⟩:∃n,f.len=n:=⟨_,rfl⟩;have HN:=Lib.hid hn;rw[hn] at h0 hl ⊢;obtain⟨Z,hZ⟩:∃Z,txA qE f++⟨#[32,101,110,100]⟩=Z:=⟨_,rfl⟩;rw[hZ];have HZ:=Lib.hid hZ;have h00:(⟨#[]⟩:ByteArray)=txA qE (xH 0 f):=(zM3 (nb:=qE)).symm;have H00:=Lib.hid h00;clear hf hu hk hT hn hZ hsz h00
 go_enter Tryz.func86,Tryz.ntmps86
 go_wp2_with fail
 go_loopw [3,4] (fun x y wr=>∃j:Nat,j≤n∧y = .int .i64 (j:Int)∧x = .string (txA qE (xH j f))∧Up W wr) (fun _ y _=>n+1-(intOf y).toNat)
 case atStart=>exact⟨0,Nat.zero_le _,rfl,by rw[←H00.out],HU.out⟩
 case round=>
  obtain⟨j,hj,rfl,rfl,hur⟩:=hrel;have HUR:=Lib.hid hur
  by_cases hlt:j<n
  ·have hjz:(j:Int)<(n:Int):=by omega
   have hw1:IntKind.i64.wrap ((j:Int)+1)=((j+1:Nat):Int):=by rw[IntKind.wrap_i64]<;>omega
   obtain⟨t,ht⟩:=Fr.get_some (f:=f) (i:=j) (by rw[HN.out];exact hlt);obtain⟨xc,xx,b,rfl,hc9,hx9,hb9⟩:=vR (nQ HK.out ht);have cU:=HT.out j xc xx b ht;obtain⟨vc,hvc,hTc⟩:=HF.out.at ht;obtain⟨q1,p1,A1,c',rfl,hq1,m0,m1,m2,m3,m4,hcc1,hkid1⟩:=InT.open hTc;obtain⟨kb2,ko2,rfl,hkb2,⟨va,ka,ia⟩,-⟩:=hkid1 (by show 0<1;omega);obtain⟨qa,pa,rfl⟩:=InT.ptr ia;have hbt:=dZ ht;have hm1:=HSZ.out (j+1);have hm0:=HSZ.out j;have kcu:∀u:Upw W,u.w.cell? ⟨kb,ko+j,none⟩=some (.pointer (some ⟨q1,p1,none⟩)):=Upw.cell hvc;have knu:∀u:Upw W,u.w.cell? ⟨q1,p1+2,none⟩=some (.string xc):=Upw.cell m2;have kmu:∀u:Upw W,u.w.cell? ⟨q1,p1+3,none⟩=some (.string xx):=Upw.cell m3;have kku:∀u:Upw W,u.w.cell? ⟨q1,p1+4,none⟩=some (.slice (some ⟨kb2,ko2,none⟩) 1 c'):=Upw.cell m4;have kau:∀u:Upw W,u.w.cell? ⟨kb2,ko2,none⟩=some (.pointer (some ⟨qa,pa,none⟩)):=Upw.cell ka;obtain⟨T,hTe⟩:∃T,txE qE b=T:=⟨_,rfl⟩;have cT:∀x:Upw W,Calls Tryz.prog 39 #[.pointer (some ⟨qa,pa,none⟩)] x.w fun e w'=>e = .returned (.string T)∧Up W w':=fun x=>by rw[←hTe];exact cU W x.w _ ia x.h
   have HTT:=Lib.hid cT;obtain⟨X,hX⟩:∃X,txA qE (xH j f)=X:=⟨_,rfl⟩;obtain⟨Y,hY⟩:∃Y,txA qE (xH (j+1) f)=Y:=⟨_,rfl⟩;rw[hX] at hm0 ⊢;have hYX:Y=(if j=0 then X else X++⟨#[32,124,32]⟩)++xc++⟨#[32]⟩++xx++⟨#[32,61,62,32]⟩++T:=by
    rw[←hY,←hX,hbt]
    by_cases hj0:j=0
    ·subst hj0
     rw[if_pos rfl];have e0:xH 0 f = .nil:=by cases f<;>rfl
     rw[e0,zM3]
     show txA qE (fr1 (⟨34,0,xc,xx⟩,fr1 b))=_
     rw[zN5 hb9];unfold tx1;rw[hTe];refine zP _ _ ?_;simp only[qM,List.append_assoc]
     rfl
    ·rw[if_neg hj0,zTt (by rw[uP f j (by rw[HN.out];exact hj)];omega) (eN f j HK.out) hb9]
     unfold tx1;rw[hTe];refine zP _ _ ?_;simp only[qM,List.append_assoc]
   rw[hY,hYX] at hm1;have hsz2:xc.size≤100000000∧xx.size≤100000000∧T.size≤100000000:=by simp only[ByteArray.size_append] at hm1;omega
   obtain⟨hxs,hys,hTs⟩:=hsz2;have HYX:=Lib.hid hYX;have HY:=Lib.hid hY;clear ht cU hvc hTc m0 m1 m2 m3 m4 hkid1 ka ia hbt hm1 hTe cT hX hY hYX hur hc9 hx9 hb9
   by_cases hj0:0<j
   ·have hj1:(0:Int)<(j:Int):=by omega
    go_wp2_with fail;refine qF (W:=W) HUR.out (by kernel_rfl) (by kernel_rfl) ?_
    repeat (go_big_quiet_step (first
     | (go_at_call 39;exact Calls.upw (HTT.out _))))
    refine wpQuiet_nil ?_;rintro w9 ⟨⟨_,u9⟩,rfl⟩;have U9:=Lib.hid u9;clear u9;go_wp2_with fail
    go_roundw
    case rel=>exact⟨j+1,by omega,rfl,by rw[HY.out,HYX.out,if_neg (by omega)],U9.out⟩
    case measure=>simp[intOf];omega
   ·obtain rfl:j=0:=by omega
    have kcu:∀u:Upw W,u.w.cell? ⟨kb,ko,none⟩=some (.pointer (some ⟨q1,p1,none⟩)):=kcu;go_wp2_with fail;refine qF (W:=W) HUR.out (by kernel_rfl) (by kernel_rfl) ?_
    repeat (go_big_quiet_step (first
     | (go_at_call 39;exact Calls.upw (HTT.out _))))
    refine wpQuiet_nil ?_;rintro w9 ⟨⟨_,u9⟩,rfl⟩;have U9:=Lib.hid u9;clear u9;go_wp2_with fail
    go_roundw
    case rel=>exact⟨1,by omega,rfl,by rw[HY.out,HYX.out,if_pos trivial],U9.out⟩
    case measure=>first | (simp[intOf];omega) | simp[intOf]
  ·obtain rfl:j=n:=by omega
   have hjz:¬(j:Int)<(j:Int):=by omega
   have hm0:=HSZ.out j;have hend:xH j f=f:=by rw[←HN.out];exact uO f
   rw[hend] at hm0 ⊢;have hfin:txA qE f++⟨#[32,101,110,100]⟩=Z:=HZ.out;obtain⟨X,hX⟩:∃X,txA qE f=X:=⟨_,rfl⟩;rw[hX] at hfin hm0 ⊢;have HFI:=Lib.hid hfin;clear hend hfin hX hur;go_wp2_with fail
   go_ret
   exact zD HFI.out.symm HUR.out
end Go.Proofs.YtbpijnalmakfaaaGreatDoor
