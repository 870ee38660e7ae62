/-
  Layer 5, the library's Grow, Concat and Repeat at lists of checks: what they make.
-/
import Derived.Test.YtbpijnalmakfaaaGreatDoorGs18
import Derived.Laws.AppendOwnNone
import Derived.Laws.CopyOwn
import Derived.Lib.AppendZeros
set_option maxHeartbeats 40000000
set_option maxRecDepth 100000
namespace Go.Proofs.YtbpijnalmakfaaaGreatDoor
open Go.RowKit
theorem zRb:(Tryz.prog.info? 146).map (fun i=>(i.zero,i.size,i.bytes))=some (some .nilFunc,1,8):=by kernel_rfl
def OwnCk (w:World) (B:Nat) (v:Value) (vs:List Value):Prop:=w.ownsRow B 146 1 v vs.length vs
def zO3 (vs:List Value) (w:World) (e:Ending) (w':World):Prop:=∃v,e = .returned v∧OwnCk w' w.heap.size v vs∧Below w.heap.size w w'
theorem zG2 (n:Nat) (w:World) (hn:n≤1000000):Calls Tryz.prog 192 #[.slice none 0 0,.int .i64 (n:Int)] w (zO3 [] w):=by
 by_cases h0:n=0
 ·subst h0
  go_enter Tryz.func192,Tryz.ntmps192
  go_wp2_with fail
  go_ret
  exact⟨_,rfl,World.ownsRow_nil _ _ _ _,Below.refl _ _⟩
 ·obtain⟨i0,hi,hz0,hz1,hz2⟩:=info_parts zRb
  have hrun:=Lib.run_append_nil_zeros (P:=Tryz.prog) w 183 3 183 146 i0 _ .i64 .i64 Tryz.underlying183 Tryz.underlying3 hi hz0 n (by omega) (by omega) (by omega) (by rw[hz2];omega);obtain⟨C,hC⟩:∃C,Go.grownCap w n 0 146=C:=⟨_,rfl⟩;have hge:n≤C:=by rw[←hC];exact grownCap_ge _ _ _ _
  have hle:C≤maxLen:=by rw[←hC];exact grownCap_le_maxLen _ _ _ _ (by unfold maxLen;omega)
  rw[hC] at hrun;obtain⟨cs,hcs⟩:∃cs,Go.Builtin.zeroCells Value.nilFunc.cells n++Go.Builtin.zeroCells Value.nilFunc.cells (C-n)=cs:=⟨_,rfl⟩;have hsz:cs.size=C*1:=by rw[←hcs,Array.size_append,size_zeroCells,size_zeroCells];show n*1+(C-n)*1=C*1;omega
  rw[hcs] at hrun;have h1:¬(n:Int)<0:=by omega
  have h2:0<(n:Int):=by omega
  have hb:Below w.heap.size w (w.drew.alloc (.cells cs 146)):=(Below.refl w.heap.size w).drew.alloc (Nat.le_refl _) _;have ho:=World.ownsRow_made (base:=w.heap.size) (e:=146) (size:=1) w.drew cs C (Nat.le_refl _) hle hsz;have HO:=Lib.hid ho;have HB:=Lib.hid hb;clear hi hz0 hz1 hz2 hC hcs hsz ho hb
  go_enter Tryz.func192,Tryz.ntmps192
  go_wp2_with (at_builtin;refine Lib.wpList_append_run _ rfl _ _ _ _ rfl _ _ rfl rfl _ _ hrun ?_)
  go_ret
  exact⟨_,rfl,HO.out,HB.out⟩
def Rds (w:World) (v:Value) (vs:List Value):Prop:=(v = .slice none 0 0∧vs=[])∨∃g o c,v = .slice (some ⟨g,o,none⟩) vs.length c∧g<w.heap.size∧∀(j:Nat) u,vs[j]? = some u→w.cell? ⟨g,o+j,none⟩=some u
theorem Rds.below {w w':World} {v:Value} {vs:List Value} (h:Rds w v vs) (hb:Below w.heap.size w w'):Rds w' v vs:=by
 rcases h with h | ⟨g,o,c,rfl,hg,h⟩
 ·exact .inl h
 ·exact .inr ⟨g,o,c,rfl,Nat.lt_of_lt_of_le hg hb.size,fun j u hu=>hb.cell hg |>.trans (h j u hu)⟩
def Fv (vs:List Value):Prop:=∀u∈vs,u.oneCell'=true
theorem bD {w:World} {ops:Array Oper} {rest:List Oper} {o:Oper} {a:Act} {Q:Exit→Act→World→Prop} (hgd:o.guard=none) (s x:Operand)
  (ho:o.op = .call {callee:=.builtin .append,args:=#[s,x],argTypes:=#[183,183]}) {B:Nat} {v u:Value} {vs us:List Value} (hs:a.eval s=v) (hown:OwnCk w B v vs)
  (hx:a.eval x=u) (hr:Rds w u us) (h1:Fv us) (hl:vs.length+us.length≤2000000) (hB:B≤w.heap.size)
  (h:∀v' w',OwnCk w' B v' (vs++us)→w.grownBy w' v.ownBlock→wpList Tryz.prog ops Q rest (a.put o.dst v') w'):wpList Tryz.prog ops Q (o::rest) a w:=by
 obtain⟨i0,hi,hz0,hz1,hz2⟩:=info_parts zRb
 rcases hr with ⟨rfl,rfl⟩ | ⟨g,p,c,rfl,hg,hc⟩
 ·refine wpList_append_own_none hgd s x 183 ho B 146 i0 1 Tryz.underlying183 hi v vs.length vs hs hown hx (h v w ?_ (jK _ _))
  rw[List.append_nil];exact hown
 ·refine wpList_append_own w hgd s x 183 ho B 146 i0 _ 1 8 Tryz.underlying183 hi hz0 hz1 hz2 rfl (by omega) v vs.length vs hs hown ⟨g,p,none⟩ us.length c us hx (by omega) (fun j u hu=>?_) h1 (by unfold maxLen;omega) (by omega) hB ?_
  ·rw[addAt]
   exact hc j u hu
  ·intro v' w' ho' hg' _
   refine h v' w' ?_ hg';unfold OwnCk;rw[List.length_append];exact ho'
theorem zG3 {w:World} {B:Nat} {v:Value} {vs:List Value} (h:OwnCk w B v vs):∀g,v.ownBlock=some g→B≤g:=fun g hg=>(World.ownsRow.lt h g hg).1
theorem zRc (g0:Nat) (u1 u2:Value) (n1 n2 c1 c2:Nat) (A1 A2:Option Addr) (l1 l2:List Value) (w:World) (h1:u1 = .slice A1 n1 c1) (h2:u2 = .slice A2 n2 c2) (hn1:l1.length=n1) (hn2:l2.length=n2)
  (hg:w.heap[g0]? = some (.cells #[u1,u2] 183 (0,0))) (r1:Rds w u1 l1) (r2:Rds w u2 l2) (f1:Fv l1) (f2:Fv l2) (hl1:n1≤400000) (hl2:n2≤400000) :
  Calls Tryz.prog 164 #[.slice (some ⟨g0,0,none⟩) 2 2] w (zO3 (l1++l2) w):=by
 have k1:w.cell? ⟨g0,0,none⟩=some u1:=cell_of_row w g0 0 _ _ _ hg;have k2:w.cell? ⟨g0,1,none⟩=some u2:=cell_of_row w g0 1 _ _ _ hg;have hgl:=qC hg;obtain⟨N,hN⟩:∃N,n1+n2=N:=⟨_,rfl⟩;have cG:=fun W=>zG2 N W (by omega)
 have R1:=Lib.hid r1;have R2:=Lib.hid r2;have K1:=Lib.hid k1;have K2:=Lib.hid k2;have U1:=Lib.hid h1;have U2:=Lib.hid h2;have F1:=Lib.hid f1;have F2:=Lib.hid f2;have CG:=Lib.hid cG;clear r1 r2 hg h1 h2 f1 f2 cG k1 k2
 go_enter Tryz.func164,Tryz.ntmps164
 go_wp2_with fail
 go_loopw [3,5,11] (fun sz _ i wr=>∃k:Nat,k≤2∧i = .int .i64 k∧sz = .int .i64 ((if k=0 then 0 else if k=1 then n1 else N:Nat):Int)∧wr=w) (fun _ _ i _=>2-(intOf i).toNat)
 case atStart=>exact⟨0,by omega,rfl,rfl,rfl⟩
 case round=>
  obtain⟨k,hk,rfl,rfl,rfl⟩:=hrel
  rcases(by omega:k=0∨k=1∨k=2) with rfl | rfl | rfl
  ·have e1:=K1.out
   rw[U1.out] at e1;have e2:¬(n1:Int)<0:=by omega
   go_wp2_with fail
   go_roundw
   case rel=>exact⟨1,by omega,by go_num,by simp,by trivial⟩
   case measure=>simp[intOf]
  ·have e1:=K2.out
   rw[U2.out] at e1;have e2:¬(n1:Int)+(n2:Int)<0:=by omega
   go_wp2_with fail
   go_roundw
   case rel=>exact⟨2,by omega,by go_num,yG (by simp;omega),by trivial⟩
   case measure=>simp[intOf]
  ·go_wp2_with fail
   refine(CG.out _).mono ?_;rintro e w1 ⟨v1,rfl,o1,b1⟩;have O1:=Lib.hid o1;have B1:=Lib.hid b1;clear o1 b1;go_wp2_with fail;obtain⟨L,hL⟩:∃L:Nat→List Value,L=fun k=>if k=0 then [] else if k=1 then l1 else l1++l2:=⟨_,rfl⟩
   have L0:L 0=[]:=by rw[hL];rfl
   have L1:L 1=l1:=by rw[hL];rfl
   have L2:L 2=l1++l2:=by rw[hL];rfl
   clear hL
   go_loopw [6,8,27] (fun nv _ i w2=>∃k:Nat,k≤2∧i = .int .i64 k∧OwnCk w2 wr.heap.size nv (L k)∧Below wr.heap.size wr w2) (fun _ _ i _=>2-(intOf i).toNat)
   case atStart=>exact⟨0,by omega,rfl,by rw[L0];exact O1.out,B1.out⟩
   case round=>
    obtain⟨k,hk2,rfl,ho,hb⟩:=hrel;have HO:=Lib.hid ho;have HB:=Lib.hid hb;have hbs:=hb.size;clear ho hb hk
    rename_i w2
    rcases(by omega:k=0∨k=1∨k=2) with rfl | rfl | rfl
    ·have e1:=HB.out.cell (p:=⟨g0,0,none⟩) hgl |>.trans K1.out
     go_wp2_with (at_builtin;refine bD rfl _ _ rfl rfl HO.out rfl (R1.out.below HB.out) F1.out (by rw[L0,hn1];simp;omega) hbs ?_;intro v3 w3 o3 g3)
     go_roundw
     case rel=>exact⟨1,by omega,by go_num,by rw[L1];rw[L0] at o3;exact o3,HB.out.grown g3 hbs (zG3 HO.out)⟩
     case measure=>simp[intOf]
    ·have e1:=HB.out.cell (p:=⟨g0,1,none⟩) hgl |>.trans K2.out
     go_wp2_with (at_builtin;refine bD rfl _ _ rfl rfl HO.out rfl (R2.out.below HB.out) F2.out (by rw[L1,hn1,hn2];omega) hbs ?_;intro v3 w3 o3 g3)
     go_roundw
     case rel=>exact⟨2,by omega,by go_num,by rw[L2];rw[L1] at o3;exact o3,HB.out.grown g3 hbs (zG3 HO.out)⟩
     case measure=>simp[intOf]
    ·go_wp2_with fail
     go_ret
     exact⟨_,rfl,by rw[←L2];exact HO.out,HB.out⟩
theorem iX {α:Type} (L:List α) (k:Nat) (cs:List α) (h:k+cs.length≤L.length):(splice L k cs).length=L.length:=length_splice L k cs h
theorem bE {fv:Value} {L:List Value} {k m:Nat} (h:k+m≤L.length) (hL:∀(j:Nat),j<k→L[j]? = some fv):∀(j:Nat),j<k+m→(splice L k (List.replicate m fv))[j]? = some fv:=by
 intro j hj;unfold splice
 by_cases h1:j<k
 ·rw[List.getElem?_append_left (by rw[List.length_take];omega),List.getElem?_take_of_lt h1]
  exact hL j h1
 ·rw[List.getElem?_append_right (by rw[List.length_take];omega),List.length_take,Nat.min_eq_left (by omega),List.getElem?_append_left (by rw[List.length_replicate];omega),List.getElem?_replicate,if_pos (by omega)]
theorem zRd {fv:Value} (h:fv.oneCell'=true) (m:Nat):∀v∈List.replicate m fv,v.oneCell'=true:=fun v hv=>by rw[List.eq_of_mem_replicate hv];exact h
def zO4 (fv:Value) (n:Nat) (w:World) (e:Ending) (w':World):Prop:=∃v,e = .returned v∧(∃A c,v = .slice A n c)∧Rds w' v (List.replicate n fv)∧Below w.heap.size w w'
theorem zO5 {fv:Value} {n H:Nat} {w w':World} {L:List Value} (_hH:w.heap.size=H) (hr:w'.heap[H]? = some (.cells L.toArray 146 (0,0))) (_hl:L.length=n) (hL:∀(j:Nat),j<n→L[j]? = some fv) (hb:Below w.heap.size w w') :
  zO4 fv n w (.returned (.slice (some ⟨H,0,none⟩) n n)) w':=by
 refine⟨_,rfl,⟨_,_,rfl⟩,.inr ⟨H,0,n,by rw[List.length_replicate],qC hr,fun j u hu=>?_⟩,hb⟩;rw[Nat.zero_add,cell_of_row w' H j _ _ _ hr];rw[List.getElem?_replicate] at hu
 by_cases h:j<n
 ·rw[if_pos h] at hu
  rw[←hu,List.getElem?_toArray];exact hL j h
 ·rw[if_neg h] at hu;cases hu
theorem zRe (gx c:Nat) (fv:Value) (n:Nat) (w:World) (hx:w.cell? ⟨gx,0,none⟩=some fv) (h1:fv.oneCell'=true) (hn:n≤400000) :
  Calls Tryz.prog 165 #[.slice (some ⟨gx,0,none⟩) 1 c,.int .i64 (n:Int)] w (zO4 fv n w):=by
 have cM:∀W,Calls Tryz.prog 193 #[.int .u64 1,.int .u64 (n:Int)] W fun e w'=>e = .returned (.tuple #[.int .u64 0,.int .u64 (n:Int)])∧w'=W:=fun W=>by
  have:=Tryz.bits_Mul 1 n (by omega) (by omega) W;rw[Nat.one_mul,Nat.div_eq_of_lt (by omega),Nat.mod_eq_of_lt (by omega)] at this;exact this
 have hxl:gx<w.heap.size:=yM hx;obtain⟨i0,hi,hz0,hz1,hz2⟩:=info_parts zRb;obtain⟨H,hH⟩:∃H,w.heap.size=H:=⟨_,rfl⟩;have hrun:=fun(W:World)=>run_make (P:=Tryz.prog) W 183 146 i0 _ Tryz.underlying183 hi hz0 .i64 .i64 (n:Int) (n:Int) (by omega) (Int.le_refl _) (by rw[hz2];omega) (by omega)
 obtain⟨Z,hZ⟩:∃Z:List Value,(madeCells Value.nilFunc.cells ((n:Int).toNat*i0.size))=Z.toArray:=⟨_,(Array.toArray_toList).symm⟩;have hZl:Z.length=n:=by
  have:=congrArg Array.size hZ;rw[size_madeCells] at this;simp only[List.size_toArray,Int.toNat_natCast,hz1] at this;omega
 rw[hZ] at hrun;simp only[Int.toNat_natCast] at hrun;have hb0:Below w.heap.size w (w.alloc (.cells Z.toArray 146)):=(Below.refl _ _).alloc (Nat.le_refl _) _;have hr0:(w.alloc (.cells Z.toArray 146)).heap[H]? = some (.cells Z.toArray 146 (0,0)):=by rw[←hH];exact heap_alloc_new w _
 have hx0:=hb0.cell hxl |>.trans hx;have hrw:=hrun w;have hbig:¬(9223372036854775807:Int)<(n:Int):=by omega
 have hcu:IntKind.u64.wrap (n:Int)=n:=by show(n:Int) % 18446744073709551616=n;omega
 have hci:IntKind.i64.wrap (n:Int)=n:=by rw[IntKind.wrap_i64];omega
 rw[hH] at hrw;have HH:=Lib.hid hH;have HR0:=Lib.hid hr0;have HB0:=Lib.hid hb0;have HBH:Hid (Below H w (w.alloc (.cells Z.toArray 146))):=Lib.hid (by rw[←hH];exact hb0);have HX0:=Lib.hid hx0;have HZL:=Lib.hid hZl;clear hi hz0 hz1 hz2 hZ hZl hrun hr0 hb0 hx0 hH
 by_cases h0:n=0
 ·subst h0
  have hrw0:(Instr.makeSlice 183 (.int .i64 0) (.int .i64 0)).run Tryz.prog w = .ok (.slice (some ⟨H,0,none⟩) 0 0) (w.alloc (.cells Z.toArray 146)):=hrw;clear hrw
  go_enter Tryz.func165,Tryz.ntmps165
  have hcp:∀W,(Builtin.copy_ #[183,183] 3 #[.slice (some ⟨H,0,none⟩) 0 0,.slice (some ⟨gx,0,none⟩) 1 c]).run Tryz.prog W = .ok (goInt 0) W:=fun W=>
   run_copy_none (P:=Tryz.prog) W _ _ _ 146 _ _ _ _ _ _ Tryz.underlying183 (by kernel_rfl) (by decide)
  go_wp2_with (go_at_call 193;refine(cM _).mono ?_;rintro e w1 ⟨rfl,he⟩;obtain rfl:=he.symm)
  go_loopw [8] (fun i wr=>i = .int .i64 0∧wr=w.alloc (.cells Z.toArray 146)) (fun _ _=>0)
  case atStart=>exact⟨rfl,rfl⟩
  case round=>
   obtain⟨rfl,rfl⟩:=hrel;go_wp2_with fail
   go_ret
   exact zO5 HH.out HR0.out HZL.out (fun j hj=>absurd hj (Nat.not_lt_zero _)) HB0.out
 ·have h0':0<n:=by omega
  have hpos:¬(n:Int)=0:=by omega
  obtain⟨w2,hcp,hr2,hb2⟩:∃w2,(Builtin.copy_ #[183,183] 3 #[.slice (some ⟨H,0,none⟩) n n,.slice (some ⟨gx,0,none⟩) 1 c]).run Tryz.prog (w.alloc (.cells Z.toArray 146)) = .ok (.int .i64 1) w2∧
    w2.heap[H]? = some (.cells (splice Z 0 (List.replicate 1 fv)).toArray 146 (0,0))∧Below H w w2:=by
   refine⟨_,run_copy_row (P:=Tryz.prog) _ _ _ _ 146 H 0 n n ⟨gx,0,none⟩ 1 c Z.toArray 146 (List.replicate 1 fv) Tryz.underlying183 (by kernel_rfl) HR0.out (by rw[List.length_replicate];exact(Nat.min_eq_left h0').symm) (fun j v hj=>?_) (by rw[List.length_replicate,List.size_toArray,HZL.out];omega) (zRd h1 1),?_,?_⟩
   ·rw[addAt,Nat.zero_add]
    rw[List.getElem?_replicate] at hj
    by_cases h:j<1
    ·rw[if_pos h] at hj
     obtain rfl:j=0:=by omega
     injection hj with hj;rw[←hj];exact HX0.out
    ·rw[if_neg h] at hj;cases hj
   ·simpa [splice] using setRow_heap _ H _ _ 146 _ HR0.out
   ·exact below_setRow HBH.out (Nat.le_refl _) _
  have HR2:=Lib.hid hr2;have HB2:=Lib.hid hb2;clear hr2 hb2
  go_enter Tryz.func165,Tryz.ntmps165
  go_wp2_with (go_at_call 193;refine(cM _).mono ?_;rintro e w1 ⟨rfl,he⟩;obtain rfl:=he.symm)
  clear hcp hrw cM hcu hci hx
  go_loopw [8] (fun i wr=>∃k:Nat,0<k∧k≤n∧i = .int .i64 k∧Below H w wr∧∃L:List Value,wr.heap[H]? = some (.cells L.toArray 146 (0,0))∧L.length=n∧∀(j:Nat),j<k→L[j]? = some fv) (fun i _=>n-(intOf i).toNat)
  case atStart=>
   refine⟨1,by omega,h0',rfl,HB2.out,_,HR2.out,by rw[iX _ _ _ (by rw[List.length_replicate,HZL.out];omega),HZL.out],?_⟩;exact bE (k:=0) (m:=1) (by rw[HZL.out];omega) (fun j hj=>absurd hj (Nat.not_lt_zero _))
  case round=>
   obtain⟨k,hk0,hk,rfl,hbw,L,hr,hl,hall⟩:=hrel
   rename_i wr
   have HR:=Lib.hid hr;have HBW:=Lib.hid hbw;have HL:=Lib.hid hl;have HALL:=Lib.hid hall;clear hr hbw hl hall
   by_cases hlt:k<n
   ·obtain⟨m,hm⟩:∃m,Nat.min k (n-k)=m:=⟨_,rfl⟩
    have hm1:0<m∧k+m≤n:=by
     have a:m≤n-k:=by rw[←hm];exact Nat.min_le_right _ _
     have b:0<m:=by rw[←hm];exact Nat.lt_min.2 ⟨hk0,by omega⟩
     omega
    have hkz:(k:Int)≤(n:Int):=by omega
    have hkl:(k:Int)<(n:Int):=by omega
    have hk00:¬(k:Int)<0:=by omega
    have ekn:¬n=k:=by omega
    have hmk:m≤k:=by rw[←hm];exact Nat.min_le_left _ _
    go_wp2_with fail;have hsrc:∀(j:Nat) v,(List.replicate m fv)[j]? = some v→wr.drew.cell? ((⟨H,0,none⟩:Addr).add j)=some v:=fun j v hj=>by
     rw[addAt,Nat.zero_add];rw[List.getElem?_replicate] at hj
     by_cases h:j<m
     ·rw[if_pos h] at hj
      injection hj with hj;rw[←hj];exact(cell_of_row wr H j _ _ _ HR.out).trans (by rw[List.getElem?_toArray];exact HALL.out j (by omega))
     ·rw[if_neg h] at hj;cases hj
    have HSRC:=Lib.hid hsrc;obtain⟨L',hL'⟩:∃L',splice L k (List.replicate m fv)=L':=⟨_,rfl⟩;have HA:Hid (L'.length=n):=Lib.hid (by rw[←hL'];exact(iX L k (List.replicate m fv) (by rw[List.length_replicate,HL.out];exact hm1.2)).trans HL.out);have HB:Hid (∀(j:Nat),j<k+m→L'[j]? = some fv):=Lib.hid (by rw[←hL'];exact bE (L:=L) (k:=k) (m:=m) (by rw[HL.out];exact hm1.2) HALL.out);have HL':=Lib.hid hL';clear hsrc hL';obtain⟨w4,hcp4,hg4,hb4⟩:∃w4,(Builtin.copy_ #[183,183] 3 #[.slice (some ⟨H,k,none⟩) (n-k) (n-k),.slice (some ⟨H,0,none⟩) k n]).run Tryz.prog wr.drew = .ok (.int .i64 (m:Int)) w4∧
      w4.heap[H]? = some (.cells L'.toArray 146 (0,0))∧Below H w w4:=by
     have hc:=run_copy_row (P:=Tryz.prog) wr.drew 183 183 3 146 H k (n-k) (n-k) ⟨H,0,none⟩ k n L.toArray 146 (List.replicate m fv) Tryz.underlying183 (by kernel_rfl) HR.out (by rw[List.length_replicate];exact hm.symm) HSRC.out (by rw[List.length_replicate,List.size_toArray,HL.out];exact hm1.2) (zRd h1 m);have e1:goInt (List.replicate m fv).length = .int .i64 (m:Int):=by rw[List.length_replicate];rfl
     rw[e1] at hc;refine⟨_,hc,?_,below_setRow (qF HBW.out 1) (Nat.le_refl _) _⟩;rw[←HL'.out]
     simpa [splice] using setRow_heap wr.drew H _ _ 146 _ HR.out
    have HB4:=Lib.hid hb4;have HG4:=Lib.hid hg4;clear hg4 hb4
    go_region
    go_wp2_with fail
    go_roundw
    case rel=>exact⟨k+m,by omega,hm1.2,by go_num,HB4.out,L',HG4.out,HA.out,HB.out⟩
    case measure=>simp[intOf];omega
   ·have hkn:k=n:=by omega
    subst hkn;go_wp2_with fail
    go_ret
    exact zO5 HH.out HR.out HL.out HALL.out (by rw[HH.out];exact HBW.out)
def fnV (y:FuncId×Array Value):Value:=.func (.func y.1) #[] y.2
theorem yW4 (l:List (FuncId×Array Value)):Fv (l.map fnV):=fun u hu=>by
 obtain⟨y,_,rfl⟩:=List.mem_map.1 hu
 rfl
theorem zBo {w:World} {B n c:Nat} {A:Option Addr} {fs:List (FuncId×Array Value)} {X:Option Nat} (h:OwnCk w B (.slice A n c) (fs.map fnV)) (hX:∀m,X=some m→m<B):n=fs.length∧Fns w X A fs:=by
 unfold OwnCk at h;rw[List.length_map] at h;obtain⟨h0,h⟩:=h
 rcases h with ⟨h,h1⟩ | ⟨g,cap,cur,h,hB,hg,_,_,hcs,hxs⟩
 ·injection h with h2 h3
  refine⟨by omega,fun j k cp hj=>?_⟩;rw[List.length_eq_zero_iff.1 h1] at hj
  cases hj
 ·injection h with h2 h3
  refine⟨h3,fun j k cp hj=>⟨g,0,h2,fun e=>by have:=hX g e;omega,?_⟩⟩;rw[Nat.zero_add,cell_of_row w g j _ _ _ hg];have hm:(fs.map fnV)[j]? = some (.func (.func k) #[] cp):=by rw[List.getElem?_map,hj];rfl
  rw[←hxs,List.getElem?_take] at hm
  split at hm
  ·rw[←hm,Array.getElem?_toList]
  ·cases hm
theorem zU8 (W w0:World) (v:Value) (x:Nod) (f:Fr) (hv:HasT W v (some (x,f))) (hu:Up W w0) (hf:f.len≤100000) (least:Nat) (hle:least≤1) (o:FuncId×Array Value)
  (A1:Option Addr) (c1:Nat) (fs:List (FuncId×Array Value)) (hfs:fs.length≤2) (r1:Rds w0 (.slice A1 fs.length c1) (fs.map fnV)) (X:Option Nat) (hX:∀m,X=some m→W.heap.size≤m∧m<w0.heap.size)
  (bs:Nat→Bool) (J:Nat→World→Prop) (hJ:∀w,Below w0.heap.size w0 w→J 0 w)
  (hc:∀(i:Nat) (t:Tr) (kv:Value) (w:World) k cap,f.get i=some t→(fs++List.replicate (f.len-fs.length) o)[i]? = some (k,cap)→HasT W kv (some t)→Up W w→J i w→
   Ent k∧Calls Tryz.prog k (#[kv]++cap) w fun e w'=>TelX (bs i) X w e w'∧(bs i=true→J (i+1) w')) :
  Calls Tryz.prog 108 #[v,.int .i64 (least:Int),fnV o,.slice A1 fs.length c1] w0 (TelX (decide (fs.length+least≤f.len)&&allB f.len bs) X w0):=by
 have hv0:=hv;obtain⟨q,p,A',c',rfl,hq,c0,k1,k2,k3,c4,hcc,hkid⟩:=InT.open hv;have c4':=hu.cell c4;obtain⟨n1,hn1⟩:∃n1,fs.length=n1:=⟨_,rfl⟩;obtain⟨M,hM⟩:∃M,f.len=M:=⟨_,rfl⟩;rw[hn1] at r1 hfs ⊢;rw[hM] at c4' hf ⊢;have HC:=Lib.hid hc;have HU:=Lib.hid hu;have HV:=Lib.hid hv0;have HX:=Lib.hid hX;have HJ:=Lib.hid hJ;have HM:=Lib.hid hM;have HN:=Lib.hid hn1;have R1:=Lib.hid r1;obtain⟨ko,co⟩:=o;have HFO:Hid (fnV (ko,co) = .func (.func ko) #[] co):=Lib.hid rfl;rw[HFO.out];clear hc hu hv hv0 hX hJ c0 k1 k2 k3 c4 hcc hkid hq hn1 hM r1
 by_cases h:n1+least≤M
 ·obtain⟨n,hn⟩:∃n,M-n1=n:=⟨_,rfl⟩
  have e1:(M:Int)-(n1:Int)=(n:Int):=by omega
  have e2:(least:Int)≤(n:Int):=by omega
  have HB:Hid ((decide (n1+least≤M)&&allB M bs)=allB M bs):=Lib.hid (by rw[decide_eq_true h];rfl);rw[HB.out];obtain⟨H,hH⟩:∃H,w0.heap.size=H:=⟨_,rfl⟩;have hx1:(w0.alloc (.cells #[.func (.func ko) #[] co] 146)).cell? ⟨H,0,none⟩=some (.func (.func ko) #[] co):=by rw[←hH];exact cell_of_row _ w0.heap.size 0 _ _ _ (heap_alloc_new w0 _)
  have cR:=zRe H 1 (.func (.func ko) #[] co) n _ hx1 rfl (by omega)
  go_enter Tryz.func108,Tryz.ntmps108
  go_wp2_with fail;refine cR.mono ?_;rintro e w2 ⟨v2,rfl,⟨A2,c2,rfl⟩,r2,b2⟩;go_wp2_with fail;have hs1:(w0.alloc (.cells #[.func (.func ko) #[] co] 146)).heap.size=w0.heap.size+1:=by simp
  have b02:Below w0.heap.size w0 w2:=((Below.refl w0.heap.size w0).alloc (Nat.le_refl _) _).trans (b2.mono (by omega));have hs2:=b02.size;obtain⟨W3,hW3⟩:∃W3,w2.alloc (.cells #[.slice A1 n1 c1,.slice A2 n c2] 183)=W3:=⟨_,rfl⟩;have b23:Below w2.heap.size w2 W3:=by rw[←hW3];exact(Below.refl _ _).alloc (Nat.le_refl _) _
  have b03:Below w0.heap.size w0 W3:=b02.trans (b23.mono hs2);have hs3:=b03.size;have hg3:W3.heap[w2.heap.size]? = some (.cells #[.slice A1 n1 c1,.slice A2 n c2] 183 (0,0)):=by rw[←hW3];exact heap_alloc_new w2 _
  have hn2:n1+n=M:=by omega
  have cC:=zRc w2.heap.size _ _ n1 n c1 c2 A1 A2 (fs.map fnV) (List.replicate n (.func (.func ko) #[] co)) W3 rfl rfl (by rw[List.length_map];exact HN.out) List.length_replicate hg3 (R1.out.below b03) (r2.below b23) (yW4 fs) (zRd rfl n) (by omega) (by omega);have hmap:fs.map fnV++List.replicate n (.func (.func ko) #[] co)=(fs++List.replicate n (ko,co)).map fnV:=by rw[List.map_append,List.map_replicate,HFO.out]
  have hlen:(fs++List.replicate n (ko,co)).length=M:=by rw[List.length_append,List.length_replicate,HN.out];exact hn2
  rw[hmap] at cC;rw[hW3];clear r2 b2 hg3 cR hx1 hW3 b23 b02;refine cC.mono ?_;rintro e w4 ⟨v4,rfl,o4,b4⟩;obtain⟨A4,c4,rfl⟩:=dM o4;obtain⟨-,hfn⟩:=zBo (X:=X) o4 (fun m hm=>by have:=HX.out m hm;omega);rw[List.length_map,hlen];have b04:Below w0.heap.size w0 w4:=b03.trans (b4.mono hs3);have cK:=zZi W w4 _ x f HV.out (HU.out.trans b04) (by rw[HM.out];omega) A4 c4 (fs++List.replicate n (ko,co)) (by rw[hlen];omega) X hfn (fun m hm=>(HX.out m hm).1) bs J (HJ.out w4 b04)
   (fun i t kv w k cap h1 h2=>HC.out i t kv w k cap h1 (by rw[HM.out,HN.out,hn];exact h2))
  rw[hlen,HM.out,decide_eq_true rfl,Bool.true_and] at cK;have B04:=Lib.hid b04;clear b04 b4 b03 hfn o4 cC hmap;go_wp2_with fail;refine cK.mono ?_;rintro e w5 ⟨rfl,g5⟩;go_wp2_with fail
  go_ret
  exact xX rfl (yY (kQ B04.out (Nat.le_refl _)) g5)
 ·have HB:Hid ((decide (n1+least≤M)&&allB M bs)=false):=Lib.hid (by rw[decide_eq_false h];rfl)
  rw[HB.out];have e2:¬(least:Int)≤(M:Int)-(n1:Int):=by omega
  go_enter Tryz.func108,Tryz.ntmps108
  go_wp2_with fail
  go_ret
  exact xX rfl (jK _ _)
section
variable (nk lg:ByteArray→Bool)
def IsAt (n:Nat):Prop:=∀(t:Tr),szT t≤n→okST t→∀(c:Int) (W w:World) (v:Value),HasT W v (some t)→Up W w→Calls Tryz.prog 81 #[v,.int .i64 c] w (BoP (isT nk lg t c) W)
end
theorem qU {a b:Bool} {W w':World} (h:b=a) (u:Up W w'):BoP b W (.returned (.bool a)) w':=⟨by rw[h],u⟩
def HasK (w:World) (v:Value) (f:Fr):Prop:=∃A c,v = .slice A f.len c∧f.len≤c∧(0<f.len→∃kb ko,A=some ⟨kb,ko,none⟩∧kb<w.heap.size∧InF w (fun q=>q<w.heap.size) f kb ko)
theorem HasK.up {W w:World} {v:Value} {f:Fr} (h:HasK W v f) (u:Up W w):HasK w v f:=by
 obtain⟨A,c,hv,hc,hk⟩:=h;refine⟨A,c,hv,hc,fun h0=>?_⟩;obtain⟨kb,ko,hA,h1,h2⟩:=hk h0;exact⟨kb,ko,hA,Nat.lt_of_lt_of_le h1 u.size,InF.keep (fun _ hq=>Nat.lt_of_lt_of_le hq u.size) (fun b hb=>u.block b hb) h1 h2⟩
theorem pI (c:UInt8) (r:List UInt8):∃T:ByteArray,byt (c::r)=T∧T.toList.isEmpty=false∧(T.toList==[])=false∧0<T.size∧T.size=r.length+1∧(∀h:0<T.size,T[0]'h=c)∧(∀d r',r=d::r'→∀h:1<T.size,T[1]'h=d)∧T.extract 1 T.size=byt r:=by
 have hsz:(byt (c::r)).size=r.length+1:=by rw[Lib.size_eq];rfl
 refine⟨_,rfl,?_,?_,by omega,hsz,fun h=>rfl,fun d r' e h=>by subst e;rfl,?_⟩
 ·rw[Lib.toList_data];rfl
 ·rw[Lib.toList_data];rfl
 ·apply yYi
  rw[Lib.extract_data,hsz]
  show((c::r).drop 1).take _=r
  simp
theorem zMp {nk lg:ByteArray→Bool} {n:Nat} (ih:IsAt nk lg n) (d:UInt8) (r:List UInt8) (f:Fr) (hf:f.sz≤n) (hs:okS f) (hn:n≤1000000) (W w:World) (v:Value) (hv:HasK W v f) (hu:Up W w) :
  Calls Tryz.prog 145 #[v,.string (byt (42::d::r))] w (BoP (seqOk (infF nk lg f) (42::d::r)) W):=by
 rw[zHt];obtain⟨T,hT,t1,t2,t3,t4,t5,t6,-⟩:=pI 42 (d::r);rw[hT];have h42:((T[0]'t3).toNat:Int)==42:=by rw[t5 t3];rfl
 have t7:1<T.size:=by rw[t4];simp
 have hd:T[1]'t7=d:=t6 d r rfl t7;have hcat:=fun W=>zO1 d W
 obtain⟨A,cp,rfl,hc,hk⟩:=id hv;have hlen:=Fr.len_le f;obtain⟨N,hN⟩:∃N,f.len=N:=⟨_,rfl⟩;rw[hN] at hc hlen hk ⊢;have hN6:N≤1000000:=by omega
 have HK:=Lib.hid hk;have HI:=Lib.hid ih;have HN:=Lib.hid hN;have HF:=Lib.hid hf;have HS:=Lib.hid hs;have HU:=Lib.hid hu;have HC:=Lib.hid hcat;clear hv hk ih hN hf hs hu hcat t2 t4 t5 t6 hT
 go_enter Tryz.func145,Tryz.ntmps145
 go_wp2_with fail
 go_loopw [5] (fun i wr=>∃I:Nat,i = .int .i64 I∧I≤N∧(∀(j:Nat) x,j<I→(infF nk lg f)[j]? = some x→xW d x=true)∧Up W wr) (fun i _=>N-(intOf i).toNat)
 case atStart=>exact⟨0,rfl,Nat.zero_le _,fun j x hj=>absurd hj (Nat.not_lt_zero _),HU.out⟩
 case round=>
  obtain⟨I,rfl,hI,hall,hur⟩:=hrel;have HALL:=Lib.hid hall;have HUR:=Lib.hid hur;clear hall hur
  by_cases hlt:I<N
  ·have hiz:(I:Int)<(N:Int):=by omega
   obtain⟨t,ht⟩:=Fr.get_some (f:=f) (i:=I) (by rw[HN.out];exact hlt);obtain⟨kb,ko,rfl,hkb,hin⟩:=HK.out (by omega);obtain⟨u,hcell,hu⟩:=hin.at ht;obtain⟨q,p,rfl⟩:=hu.ptr;obtain⟨q',p',A',c',hv',-,c0,-⟩:=InT.open (x:=t.1) (ks:=t.2) hu;injection hv' with hv';injection hv' with hv';injection hv' with hq hp;subst hq hp;have hgx:(infF nk lg f)[I]? = some (infT nk lg t):=by rw[mX,ht];rfl
   have hsz:=Fr.get_sz ht;have hT:HasT W (.pointer (some ⟨q,p,none⟩)) (some t):=hu;have cI:=fun W' (h:Up W W')=>HI.out t (by have:=HF.out;omega) (mK HS.out ht) (catOf d) W W' _ hT h
   have HGX:=Lib.hid hgx;have CI:=Lib.hid cI;have HXK:Hid ((infT nk lg t).k=t.1.k):=Lib.hid rfl;obtain⟨b,hb⟩:∃b,isT nk lg t (catOf d)=b:=⟨_,rfl⟩;have HB:Hid ((infT nk lg t).is (catOf d)=b):=Lib.hid hb;rw[hb] at cI;have CI:=Lib.hid cI;have HCELL:=Lib.hid hcell;have HC0:=Lib.hid c0;have hcr:=HUR.out.cell hcell;have c0r:=HUR.out.cell c0;have hcase:(b=false)∨(b=true∧d≠105∧((d.toNat:Int)==105)=false)∨(b=true∧d=105∧((d.toNat:Int)==105)=true∧((t.1.k=74∧(t.1.k==74)=true)∨(t.1.k=75∧(t.1.k==74)=false∧(t.1.k==75)=true)∨((t.1.k==74)=false∧(t.1.k==75)=false∧t.1.k≠74∧t.1.k≠75))):=by
    cases b with
    | false=>exact .inl rfl
    | true=>
     by_cases h:d=105
     ·refine .inr (.inr ⟨rfl,h,yYj (d:=105) h,?_⟩)
      by_cases h1:t.1.k=74
      ·exact .inl ⟨h1,by rw[h1];rfl⟩
      ·by_cases h2:t.1.k=75
       ·exact .inr (.inl ⟨h2,by rw[beq_eq_false_iff_ne];exact h1,by rw[h2];rfl⟩)
       ·exact .inr (.inr ⟨by rw[beq_eq_false_iff_ne];exact h1,by rw[beq_eq_false_iff_ne];exact h2,h1,h2⟩)
     ·exact .inr (.inl ⟨rfl,h,zU3 (d:=105) h⟩)
   have HNX:Hid (xW d (infT nk lg t)=true→∀(j:Nat) x,j<I+1→(infF nk lg f)[j]? = some x→xW d x=true):=Lib.hid fun h j x hj hx=>by
    by_cases e:j=I
    ·subst e
     rw[HGX.out] at hx;injection hx with hx;rw[←hx];exact h
    ·exact HALL.out j x (by omega) hx
   have HNO:Hid (xW d (infT nk lg t)=false→(infF nk lg f).all (xW d)=false):=Lib.hid fun h=>zR8 HGX.out h
   have HST:Hid (xW d (infT nk lg t)=(b && !(decide (d=105)&&(decide (t.1.k=74)||decide (t.1.k=75))))):=Lib.hid (by unfold xW;rw[HB.out,HXK.out]);clear hin hu hcell c0 hgx hT cI ht hb hsz;have hcu:∀u:Upw W,u.w.cell? ⟨kb,ko+I,none⟩=some (.pointer (some ⟨q,p,none⟩)):=fun u=>u.cell HCELL.out
   have c0u:∀u:Upw W,u.w.cell? ⟨q,p,none⟩=some (.int .i64 t.1.k):=fun u=>u.cell HC0.out
   rcases hcase with rfl | ⟨rfl,hd1,hd2⟩ | ⟨rfl,hd1,hd2,⟨k1,k2⟩ | ⟨k1,k2,k3⟩ | ⟨k2,k3,k4,k5⟩⟩
   ·have HE:Hid ((infF nk lg f).all (xW d)=false):=Lib.hid (HNO.out (by rw[HST.out];rfl))
    clear HNX HNO HST;go_wp2_with fail;refine qE HUR.out (by kernel_rfl) (by kernel_rfl) ?_
    repeat (go_big_quiet_step (first
      | (go_at_call 183;exact Calls.upw ((HC.out _).mono fun _ _ h=>⟨h.1,h.2▸(by assumption:Upw W).h⟩))
      | (go_at_call 81;exact Calls.upw (CI.out _ (by assumption:Upw W).h))))
    refine wpQuiet_nil ?_;rintro _ ⟨⟨w9,u9⟩,rfl⟩;go_wp2_with fail
    go_ret
    exact qU HE.out u9
   ·have HX:Hid (xW d (infT nk lg t)=true):=Lib.hid (by rw[HST.out,decide_eq_false hd1];rfl)
    clear HNO HST hd1;go_wp2_with fail;refine qE HUR.out (by kernel_rfl) (by kernel_rfl) ?_
    repeat (go_big_quiet_step (first
      | (go_at_call 183;exact Calls.upw ((HC.out _).mono fun _ _ h=>⟨h.1,h.2▸(by assumption:Upw W).h⟩))
      | (go_at_call 81;exact Calls.upw (CI.out _ (by assumption:Upw W).h))))
    refine wpQuiet_nil ?_;rintro _ ⟨⟨w9,u9⟩,rfl⟩;go_wp2_with fail
    go_roundw
    case rel=>exact⟨I+1,by go_num,by omega,HNX.out HX.out,u9⟩
    case measure=>simp[intOf];omega
   ·have HE:Hid ((infF nk lg f).all (xW d)=false):=Lib.hid (HNO.out (by rw[HST.out,decide_eq_true hd1,decide_eq_true k1];rfl))
    clear HNX HNO HST hd1 k1;go_wp2_with fail;refine qE HUR.out (by kernel_rfl) (by kernel_rfl) ?_
    repeat (go_big_quiet_step (first
      | (go_at_call 183;exact Calls.upw ((HC.out _).mono fun _ _ h=>⟨h.1,h.2▸(by assumption:Upw W).h⟩))
      | (go_at_call 81;exact Calls.upw (CI.out _ (by assumption:Upw W).h))))
    refine wpQuiet_nil ?_;rintro _ ⟨⟨w9,u9⟩,rfl⟩;go_wp2_with fail
    go_ret
    exact qU HE.out u9
   ·have HE:Hid ((infF nk lg f).all (xW d)=false):=Lib.hid (HNO.out (by rw[HST.out,decide_eq_true hd1,decide_eq_true k1,Bool.or_true];rfl))
    clear HNX HNO HST hd1 k1;go_wp2_with fail;refine qE HUR.out (by kernel_rfl) (by kernel_rfl) ?_
    repeat (go_big_quiet_step (first
      | (go_at_call 183;exact Calls.upw ((HC.out _).mono fun _ _ h=>⟨h.1,h.2▸(by assumption:Upw W).h⟩))
      | (go_at_call 81;exact Calls.upw (CI.out _ (by assumption:Upw W).h))))
    refine wpQuiet_nil ?_;rintro _ ⟨⟨w9,u9⟩,rfl⟩;go_wp2_with fail
    go_ret
    exact qU HE.out u9
   ·have HX:Hid (xW d (infT nk lg t)=true):=Lib.hid (by rw[HST.out,decide_eq_true hd1,decide_eq_false k4,decide_eq_false k5];rfl)
    clear HNO HST hd1 k4 k5;go_wp2_with fail;refine qE HUR.out (by kernel_rfl) (by kernel_rfl) ?_
    repeat (go_big_quiet_step (first
      | (go_at_call 183;exact Calls.upw ((HC.out _).mono fun _ _ h=>⟨h.1,h.2▸(by assumption:Upw W).h⟩))
      | (go_at_call 81;exact Calls.upw (CI.out _ (by assumption:Upw W).h))))
    refine wpQuiet_nil ?_;rintro _ ⟨⟨w9,u9⟩,rfl⟩;go_wp2_with fail
    go_roundw
    case rel=>exact⟨I+1,by go_num,by omega,HNX.out HX.out,u9⟩
    case measure=>simp[intOf];omega
  ·have hiz:¬(I:Int)<(N:Int):=by omega
   have HE:Hid ((infF nk lg f).all (xW d)=true):=Lib.hid (zXk fun i j hij=>HALL.out i j (by
    have:=(List.getElem?_eq_some_iff.1 hij).1;rw[jU,HN.out] at this
    omega) hij)
   go_wp2_with fail
   go_ret
   exact qU HE.out HUR.out
theorem zRf {nk lg:ByteArray→Bool} {W:World} {f:Fr} {A:Option Addr} {i N:Nat} (hN:f.len=N) (hi:i<N) (hk:0<N→∃kb ko,A=some ⟨kb,ko,none⟩∧kb<W.heap.size∧InF W (fun q=>q<W.heap.size) f kb ko) :
  ∃kb ko t q p,A=some ⟨kb,ko,none⟩∧f.get i=some t∧W.cell? ⟨kb,ko+i,none⟩=some (.pointer (some ⟨q,p,none⟩))∧W.cell? ⟨q,p,none⟩=some (.int .i64 t.1.k)∧W.cell? ⟨q,p+2,none⟩=some (.string t.1.a)∧
   HasT W (.pointer (some ⟨q,p,none⟩)) (some t)∧(infF nk lg f)[i]? = some (infT nk lg t)∧szT t≤f.sz:=by
 obtain⟨t,ht⟩:=Fr.get_some (f:=f) (i:=i) (by rw[hN];exact hi);obtain⟨kb,ko,rfl,hkb,hin⟩:=hk (by omega);obtain⟨u,hcell,hu⟩:=hin.at ht;obtain⟨q,p,A',c',rfl,-,c0,-,c2,-⟩:=InT.open (x:=t.1) (ks:=t.2) hu;exact⟨kb,ko,t,q,p,rfl,ht,hcell,c0,c2,hu,by rw[mX,ht];rfl,Fr.get_sz ht⟩
theorem yW5 {nk lg:ByteArray→Bool} {n:Nat} (ih:IsAt nk lg n) (r:List UInt8) (f:Fr) (hf:f.sz≤n) (hs:okS f) (hn:n≤1000000) (W w:World) (v:Value) (hv:HasK W v f) (hu:Up W w) :
  Calls Tryz.prog 145 #[v,.string (byt (65::r))] w (BoP (seqOk (infF nk lg f) (65::r)) W):=by
 obtain⟨T,hT,t1,t2,t3,t4,t5,t6,-⟩:=pI 65 r;rw[hT];have h42:(((T[0]'t3).toNat:Int)==42)=false:=by rw[t5 t3];rfl
 have h67:(((T[0]'t3).toNat:Int)==67)=false:=by rw[t5 t3];rfl
 have h65:(((T[0]'t3).toNat:Int)==65)=true:=by rw[t5 t3];rfl
 obtain⟨A,cp,rfl,hc,hk⟩:=id hv;have hlen:=Fr.len_le f;obtain⟨N,hN⟩:∃N,f.len=N:=⟨_,rfl⟩;rw[hN] at hc hlen hk ⊢;have hN6:N≤1000000:=by omega
 have hll:(infF nk lg f).length=N:=by rw[jU,hN]
 have HLL:=Lib.hid hll;have HK:=Lib.hid hk;have HI:=Lib.hid ih;have HN:=Lib.hid hN;have HF:=Lib.hid hf;have HS:=Lib.hid hs;have HU:=Lib.hid hu;clear hv hk ih hN hf hs hu t2 t4 t5 t6 hT hll
 go_enter Tryz.func145,Tryz.ntmps145
 go_wp2_with fail
 go_loopw [6,7] (fun i _ wr=>∃I:Nat,i = .int .i64 I∧I≤N∧(∀(j:Nat) x,j<I→(infF nk lg f)[j]? = some x→x.is 9=true)∧Up W wr) (fun i _ _=>N-(intOf i).toNat)
 case atStart=>exact⟨0,rfl,Nat.zero_le _,fun j x hj=>absurd hj (Nat.not_lt_zero _),HU.out⟩
 case round=>
  obtain⟨I,rfl,hI,hall,hur⟩:=hrel;have HALL:=Lib.hid hall;have HUR:=Lib.hid hur;clear hall hur
  by_cases hlt:I<N
  ·have hiz:(I:Int)<(N:Int):=by omega
   obtain⟨kb,ko,t,q,p,rfl,ht,hcell,c0,c2,hT,hgx,hsz⟩:=zRf (nk:=nk) (lg:=lg) HN.out hlt HK.out;have cI:=fun W' (h:Up W W')=>HI.out t (by have:=HF.out;omega) (mK HS.out ht) 9 W W' _ hT h
   have HGX:=Lib.hid hgx;obtain⟨b,hb⟩:∃b,isT nk lg t 9=b:=⟨_,rfl⟩;have HB:Hid ((infT nk lg t).is 9=b):=Lib.hid hb;rw[hb] at cI;have CI:=Lib.hid cI;have hcr:=HUR.out.cell hcell;clear hcell c0 c2 hT cI hgx hsz hb ht
   cases b with
   | false=>
    have HE:Hid (seqOk (infF nk lg f) (65::r)=false):=Lib.hid (zHv HGX.out HB.out);go_wp2_with fail;refine(CI.out _ HUR.out).mono ?_;rintro e w5 ⟨rfl,u5⟩;go_wp2_with fail
    go_ret
    exact qU HE.out u5
   | true=>
    go_wp2_with fail;refine(CI.out _ HUR.out).mono ?_;rintro e w5 ⟨rfl,u5⟩;have HNX:Hid (∀(j:Nat) x,j<I+1→(infF nk lg f)[j]? = some x→x.is 9=true):=Lib.hid fun j x hj hx=>by
     by_cases e:j=I
     ·subst e
      rw[HGX.out] at hx;injection hx with hx;rw[←hx];exact HB.out
     ·exact HALL.out j x (by omega) hx
    have U5:=Lib.hid u5;clear u5;go_wp2_with fail
    go_loopw [7] (fun k wb=>k = .int .i64 0∧wb=w5) (fun _ _=>0)
    case atStart=>exact⟨rfl,rfl⟩
    case round=>
     obtain⟨rfl,rfl⟩:=hrel
     by_cases h0:I=0
     ·have hz:¬(0:Int)<(I:Int):=by omega
      go_wp2_with fail
      go_roundw
      case rel=>exact⟨I+1,by go_num,by omega,HNX.out,U5.out⟩
      case measure=>simp[intOf];omega
     ·have hz:(0:Int)<(I:Int):=by omega
      go_wp2_with fail
      go_roundw
      case rel=>exact⟨I+1,by go_num,by omega,HNX.out,U5.out⟩
      case measure=>simp[intOf];omega
  ·have hiz:¬(I:Int)<(N:Int):=by omega
   have HE:Hid (seqOk (infF nk lg f) (65::r)=decide (0<N)):=Lib.hid (by
    rw[zMn fun i j hij=>HALL.out i j (by
     have:=(List.getElem?_eq_some_iff.1 hij).1;rw[HLL.out] at this
     omega) hij,HLL.out])
   go_wp2_with fail
   go_ret
   exact qU HE.out HUR.out
theorem yW6 {nk lg:ByteArray→Bool} {n:Nat} (ih:IsAt nk lg n) (r:List UInt8) (f:Fr) (hf:f.sz≤n) (hs:okS f) (hn:n≤1000000) (W w:World) (v:Value) (hv:HasK W v f) (hu:Up W w) :
  Calls Tryz.prog 145 #[v,.string (byt (67::r))] w (BoP (seqOk (infF nk lg f) (67::r)) W):=by
 obtain⟨T,hT,t1,t2,t3,t4,t5,t6,-⟩:=pI 67 r;rw[hT];have h42:(((T[0]'t3).toNat:Int)==42)=false:=by rw[t5 t3];rfl
 have h67:(((T[0]'t3).toNat:Int)==67)=true:=by rw[t5 t3];rfl
 have h65:(((T[0]'t3).toNat:Int)==65)=false:=by rw[t5 t3];rfl
 obtain⟨A,cp,rfl,hc,hk⟩:=id hv;have hlen:=Fr.len_le f;obtain⟨N,hN⟩:∃N,f.len=N:=⟨_,rfl⟩;rw[hN] at hc hlen hk ⊢;have hN6:N≤1000000:=by omega
 have hll:(infF nk lg f).length=N:=by rw[jU,hN]
 have HLL:=Lib.hid hll;have HK:=Lib.hid hk;have HI:=Lib.hid ih;have HN:=Lib.hid hN;have HF:=Lib.hid hf;have HS:=Lib.hid hs;have HU:=Lib.hid hu;clear hv hk ih hN hf hs hu t2 t4 t5 t6 hT hll
 go_enter Tryz.func145,Tryz.ntmps145
 go_wp2_with fail
 go_loopw [6,7] (fun i _ wr=>∃I:Nat,i = .int .i64 I∧I≤N∧(∀(j:Nat) x,j<I→(infF nk lg f)[j]? = some x→x.is 8=true∧∀(k:Nat) a,k<j→(infF nk lg f)[k]? = some a→a.a≠x.a)∧Up W wr) (fun i _ _=>N-(intOf i).toNat)
 case atStart=>exact⟨0,rfl,Nat.zero_le _,fun j x hj=>absurd hj (Nat.not_lt_zero _),HU.out⟩
 case round=>
  obtain⟨I,rfl,hI,hall,hur⟩:=hrel;have HALL:=Lib.hid hall;have HUR:=Lib.hid hur;clear hall hur
  by_cases hlt:I<N
  ·have hiz:(I:Int)<(N:Int):=by omega
   obtain⟨kb,ko,t,q,p,rfl,ht,hcell,c0,c2,hT,hgx,hsz⟩:=zRf (nk:=nk) (lg:=lg) HN.out hlt HK.out;have cI:=fun W' (h:Up W W')=>HI.out t (by have:=HF.out;omega) (mK HS.out ht) 8 W W' _ hT h
   have HGX:=Lib.hid hgx;obtain⟨b,hb⟩:∃b,isT nk lg t 8=b:=⟨_,rfl⟩;have HB:Hid ((infT nk lg t).is 8=b):=Lib.hid hb;rw[hb] at cI;have CI:=Lib.hid cI;have hcr:=HUR.out.cell hcell;have HCELL:=Lib.hid hcell;have HC2:=Lib.hid c2;clear hcell c0 c2 hT cI hgx hsz hb ht
   cases b with
   | false=>
    have HE:Hid (seqOk (infF nk lg f) (67::r)=false):=Lib.hid (zMk HGX.out HB.out);go_wp2_with fail;refine(CI.out _ HUR.out).mono ?_;rintro e w5 ⟨rfl,u5⟩;go_wp2_with fail
    go_ret
    exact qU HE.out u5
   | true=>
    go_wp2_with fail;refine(CI.out _ HUR.out).mono ?_;rintro e w5 ⟨rfl,u5⟩;have U5:=Lib.hid u5;clear u5;go_wp2_with fail
    go_loopw [7] (fun k wb=>∃K:Nat,k = .int .i64 K∧K≤I∧(∀(j:Nat) x,j<K→(infF nk lg f)[j]? = some x→x.a≠t.1.a)∧Up W wb) (fun k _=>I-(intOf k).toNat)
    case atStart=>exact⟨0,rfl,Nat.zero_le _,fun j x hj=>absurd hj (Nat.not_lt_zero _),U5.out⟩
    case round=>
     obtain⟨K,rfl,hK,hdis,hub⟩:=hrel;have HDIS:=Lib.hid hdis;have HUB:=Lib.hid hub;clear hdis hub
     by_cases hKI:K<I
     ·have hkz:(K:Int)<(I:Int):=by omega
      have hkn:(K:Int)<(N:Int):=by omega
      obtain⟨kb',ko',t',q',p',hA,ht',hcell',c0',c2',-,hgx',-⟩:=zRf (nk:=nk) (lg:=lg) HN.out (show K<N by omega) HK.out;injection hA with hA;injection hA with hA1 hA2;subst hA1 hA2;have HGX':=Lib.hid hgx';have hcu:∀u:Upw W,u.w.cell? ⟨kb,ko+I,none⟩=some (.pointer (some ⟨q,p,none⟩)):=fun u=>u.cell HCELL.out
      have c2u:∀u:Upw W,u.w.cell? ⟨q,p+2,none⟩=some (.string t.1.a):=fun u=>u.cell HC2.out
      have hcu':∀u:Upw W,u.w.cell? ⟨kb,ko+K,none⟩=some (.pointer (some ⟨q',p',none⟩)):=fun u=>u.cell hcell'
      have c2u':∀u:Upw W,u.w.cell? ⟨q',p'+2,none⟩=some (.string t'.1.a):=fun u=>u.cell c2'
      clear hcell' c0' c2' ht' hgx'
      by_cases hna:t'.1.a=t.1.a
      ·obtain⟨e1,f1⟩:=sH hna
       have HE:Hid (seqOk (infF nk lg f) (67::r)=false):=Lib.hid (zMl hKI HGX'.out HGX.out hna);clear hna;go_wp2_with fail;refine qE HUB.out (by kernel_rfl) (by kernel_rfl) ?_
       repeat (go_big_quiet_step (fail))
       refine wpQuiet_nil ?_;rintro _ ⟨⟨w9,u9⟩,rfl⟩;go_wp2_with fail
       go_ret
       exact qU HE.out u9
      ·obtain⟨e1,f1⟩:=iL hna
       have HNX:Hid (∀(j:Nat) x,j<K+1→(infF nk lg f)[j]? = some x→x.a≠t.1.a):=Lib.hid fun j x hj hx=>by
        by_cases e:j=K
        ·subst e
         rw[HGX'.out] at hx;injection hx with hx;rw[←hx];exact hna
        ·exact HDIS.out j x (by omega) hx
       clear hna;go_wp2_with fail;refine qE HUB.out (by kernel_rfl) (by kernel_rfl) ?_
       repeat (go_big_quiet_step (fail))
       refine wpQuiet_nil ?_;rintro _ ⟨⟨w9,u9⟩,rfl⟩;go_wp2_with fail
       go_roundw
       case rel=>exact⟨K+1,by go_num,by omega,HNX.out,u9⟩
       case measure=>simp[intOf];omega
     ·have hkz:¬(K:Int)<(I:Int):=by omega
      have HNX:Hid (∀(j:Nat) x,j<I+1→(infF nk lg f)[j]? = some x→x.is 8=true∧∀(k:Nat) a,k<j→(infF nk lg f)[k]? = some a→a.a≠x.a):=Lib.hid fun j x hj hx=>by
       by_cases e:j=I
       ·subst e
        rw[HGX.out] at hx;injection hx with hx;rw[←hx];exact⟨HB.out,fun k a hk ha=>HDIS.out k a (by omega) ha⟩
       ·exact HALL.out j x (by omega) hx
      go_wp2_with fail
      go_roundw
      case rel=>exact⟨I+1,by go_num,by omega,HNX.out,HUB.out⟩
      case measure=>simp[intOf];omega
  ·have hiz:¬(I:Int)<(N:Int):=by omega
   have HE:Hid (seqOk (infF nk lg f) (67::r)=decide (0<N)):=Lib.hid (by
    rw[zMm fun i j hij=>HALL.out i j (by
     have:=(List.getElem?_eq_some_iff.1 hij).1;rw[HLL.out] at this
     omega) hij,HLL.out])
   go_wp2_with fail
   go_ret
   exact qU HE.out HUR.out
theorem zG4 {nk lg:ByteArray→Bool} (f:Fr) (W w:World) (v:Value) (hv:HasK W v f) (hu:Up W w) :
  Calls Tryz.prog 145 #[v,.string (byt [])] w (BoP (seqOk (infF nk lg f) []) W):=by
 have t1:(byt []).toList.isEmpty=true:=by rw[Lib.toList_data];rfl
 have t2:((byt []).toList==[])=true:=by rw[Lib.toList_data];rfl
 obtain⟨A,cp,rfl,hc,-⟩:=hv;have hls:seqOk (infF nk lg f) []=((f.len:Int)==0):=by
  unfold seqOk;rw[←jU (nk:=nk) (lg:=lg)]
  cases infF nk lg f with
  | nil=>rfl
  | cons x l=>
   show false=_
   symm
   rw[beq_eq_false_iff_ne]
   simp
   omega
 have HLS:=Lib.hid hls;clear hls
 go_enter Tryz.func145,Tryz.ntmps145
 go_wp2_with fail
 go_ret
 exact qU HLS.out hu
theorem HasK.tail {W:World} {x:Nod} {k r:Fr} {cp:Nat} {kb ko:Nat} (h:HasK W (.slice (some ⟨kb,ko,none⟩) (Fr.cons x k r).len cp) (.cons x k r)) :
  HasK W (.slice (if cp=1 then some ⟨kb,ko,none⟩ else some ⟨kb,ko+1,none⟩) r.len (cp-1)) r:=by
 obtain⟨A,c,hv,hc,hk⟩:=h;injection hv with h1 h2 h3;subst h3;refine⟨_,_,rfl,by simp only[Fr.len] at hc;omega,fun h0=>?_⟩;obtain⟨kb',ko',hA,hkb,hin⟩:=hk (by simp only[Fr.len];omega);rw[hA] at h1;injection h1 with h1;injection h1 with h1 h4;subst h1 h4;refine⟨kb,ko+1,?_,hkb,hin.2⟩;rw[if_neg (by simp only[Fr.len] at hc;omega)]
theorem zMq {nk lg:ByteArray→Bool} {n:Nat} (ih:IsAt nk lg n) (c:UInt8) (r:List UInt8) (g1:c≠42) (g2:c≠67) (g3:c≠65) (f:Fr) (hf:f.sz≤n) (hs:okS f) (hn:n≤1000000) (W:World) (v:Value) (hv:HasK W v f)
  (hr:∀(f':Fr) (v':Value) (w':World),f'.sz≤n→okS f'→HasK W v' f'→Up W w'→Calls Tryz.prog 145 #[v',.string (byt r)] w' (BoP (seqOk (infF nk lg f') r) W)) (w:World) (hu:Up W w) :
  Calls Tryz.prog 145 #[v,.string (byt (c::r))] w (BoP (seqOk (infF nk lg f) (c::r)) W):=by
 obtain⟨T,hT,t1,t2,t3,t4,t5,t6,t7⟩:=pI c r;rw[hT];have h42:((c.toNat:Int)==42)=false:=zU3 (d:=42) g1;have h67:((c.toNat:Int)==67)=false:=zU3 (d:=67) g2;have h65:((c.toNat:Int)==65)=false:=zU3 (d:=65) g3;have hc0:T[0]'t3=c:=t5 t3;have hcat:=fun W=>zO1 c W
 have hsg:=zHw (l:=infF nk lg f) (r:=r) g1 g2 g3;have HC:=Lib.hid hcat;have HI:=Lib.hid ih;have HU:=Lib.hid hu;have HR:=Lib.hid hr;have HSG:=Lib.hid hsg;have t1z:(1:Int)≤(T.size:Int):=by omega
 clear hcat ih hu hr hsg t2 t4 t5 t6 hT g1 g2 g3
 cases f with
 | nil=>
  obtain⟨A,cp,rfl,hc,-⟩:=hv;have HE:Hid (seqOk (infF nk lg .nil) (c::r)=false):=Lib.hid (by rw[HSG.out];rfl);have hl0:(Fr.nil).len=0:=rfl;rw[hl0];clear HSG
  go_enter Tryz.func145,Tryz.ntmps145
  go_wp2_with fail;refine qE HU.out (by kernel_rfl) (by kernel_rfl) ?_
  repeat (go_big_quiet_step (fail))
  refine wpQuiet_nil ?_;rintro _ ⟨⟨w9,u9⟩,rfl⟩;go_wp2_with fail
  go_ret
  exact qU HE.out u9
 | cons x k rs=>
  obtain⟨A,cp,rfl,hc,hk⟩:=id hv;obtain⟨kb,ko,rfl,hkb,⟨u,hcell,hu⟩,hin⟩:=hk (Nat.succ_pos _);have htl:=HasK.tail hv;have hu:InT W (fun q=>q<W.heap.size) u (x,k):=hu;obtain⟨q,p,rfl⟩:=hu.ptr;have hT:HasT W (.pointer (some ⟨q,p,none⟩)) (some (x,k)):=hu;have hsz:(Fr.cons x k rs).sz=1+k.sz+rs.sz:=rfl;have hsz2:szT (x,k)=1+k.sz:=rfl;have cI:=fun W' (h:Up W W')=>HI.out (x,k) (by omega) ⟨hs.1,hs.2.1,hs.2.2.1⟩ (catOf c) W W' _ hT h
  have cR:=fun W' (h:Up W W')=>HR.out rs _ W' (by omega) hs.2.2.2 htl h
  obtain⟨b,hb⟩:∃b,isT nk lg (x,k) (catOf c)=b:=⟨_,rfl⟩;have HSQ:Hid (seqOk (infF nk lg (.cons x k rs)) (c::r)=(b&&seqOk (infF nk lg rs) r)):=Lib.hid (by rw[HSG.out,←hb];rfl);rw[hb] at cI;obtain⟨M,hM⟩:∃M,rs.len=M:=⟨_,rfl⟩;have hl:(Fr.cons x k rs).len=M+1:=by show rs.len+1=_;rw[hM]
  rw[hl] at hc ⊢;rw[hM] at cR;obtain⟨D,hD⟩:∃D,seqOk (infF nk lg rs) r=D:=⟨_,rfl⟩;rw[hD] at cR HSQ;have CI:=Lib.hid cI;have CR:=Lib.hid cR;have hll:=Fr.len_le (Fr.cons x k rs);have hM6:M≤1000000:=by omega
  have hcu:∀u:Upw W,u.w.cell? ⟨kb,ko,none⟩=some (.pointer (some ⟨q,p,none⟩)):=fun u=>u.cell hcell
  have hm0:(0:Int)<((M+1:Nat):Int):=by omega
  have hm1:(1:Int)≤((M+1:Nat):Int):=by omega
  have hm2:((M+1:Nat):Int)≤(cp:Int):=by omega
  clear hcell hin hu hT cI cR hb hsz hsz2 htl hk hv HSG hs hf hl hll hD hM
  cases b with
  | false=>
   go_enter Tryz.func145,Tryz.ntmps145
   go_wp2_with fail;refine qE HU.out (by kernel_rfl) (by kernel_rfl) ?_
   repeat (go_big_quiet_step (first
      | (go_at_call 183;exact Calls.upw ((HC.out _).mono fun _ _ h=>⟨h.1,h.2▸(by assumption:Upw W).h⟩))
      | (go_at_call 81;exact Calls.upw (CI.out _ (by assumption:Upw W).h))))
   refine wpQuiet_nil ?_;rintro _ ⟨⟨w9,u9⟩,rfl⟩;go_wp2_with fail
   go_ret
   exact qU HSQ.out u9
  | true=>
   by_cases h1:cp=1
   ·subst h1
    obtain rfl:M=0:=by omega
    rw[if_pos rfl] at CR
    go_enter Tryz.func145,Tryz.ntmps145
    go_wp2_with fail;refine qE HU.out (by kernel_rfl) (by kernel_rfl) ?_
    repeat (go_big_quiet_step (first
      | (go_at_call 183;exact Calls.upw ((HC.out _).mono fun _ _ h=>⟨h.1,h.2▸(by assumption:Upw W).h⟩))
      | (go_at_call 81;exact Calls.upw (CI.out _ (by assumption:Upw W).h))
      | (go_at_call 145;exact Calls.upw (CR.out _ (by assumption:Upw W).h))))
    refine wpQuiet_nil ?_;rintro _ ⟨⟨w9,u9⟩,rfl⟩;go_wp2_with fail
    go_ret
    exact qU HSQ.out u9
   ·rw[if_neg h1] at CR
    go_enter Tryz.func145,Tryz.ntmps145
    go_wp2_with fail;refine qE HU.out (by kernel_rfl) (by kernel_rfl) ?_
    repeat (go_big_quiet_step (first
      | (go_at_call 183;exact Calls.upw ((HC.out _).mono fun _ _ h=>⟨h.1,h.2▸(by assumption:Upw W).h⟩))
      | (go_at_call 81;exact Calls.upw (CI.out _ (by assumption:Upw W).h))
      | (go_at_call 145;exact Calls.upw (CR.out _ (by assumption:Upw W).h))))
    refine wpQuiet_nil ?_;rintro _ ⟨⟨w9,u9⟩,rfl⟩;go_wp2_with fail
    go_ret
    exact qU HSQ.out u9
theorem zU9 {nk lg:ByteArray→Bool} {n:Nat} (ih:IsAt nk lg n) (hn:n≤1000000) (W:World):∀(l:List UInt8),goodW l=true→∀(f:Fr) (v:Value) (w:World),f.sz≤n→okS f→HasK W v f→Up W w→
  Calls Tryz.prog 145 #[v,.string (byt l)] w (BoP (seqOk (infF nk lg f) l) W)
 | [],_,f,v,w,_,_,hv,hu=>zG4 f W w v hv hu
 | c::r,hg,f,v,w,hf,hs,hv,hu=>by
  unfold goodW at hg
  by_cases g1:c=42
  ·subst g1
   cases r with
   | nil=>simp at hg
   | cons d r=>exact zMp ih d r f hf hs hn W w v hv hu
  ·by_cases g2:c=67
   ·subst g2
    exact yW6 ih r f hf hs hn W w v hv hu
   ·by_cases g3:c=65
    ·subst g3
     exact yW5 ih r f hf hs hn W w v hv hu
    ·rw[if_neg g1,if_neg g2,if_neg g3] at hg
     exact zMq ih c r g1 g2 g3 f hf hs hn W v hv (fun f' v' w' h1 h2 h3 h4=>zU9 ih hn W r hg f' v' w' h1 h2 h3 h4) w hu
end Go.Proofs.YtbpijnalmakfaaaGreatDoor
