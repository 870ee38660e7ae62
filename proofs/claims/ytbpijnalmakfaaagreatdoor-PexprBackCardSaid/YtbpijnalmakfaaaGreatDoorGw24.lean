/-
  Layer 7, the program's operator: the signs of a rule's operations.
-/
import Derived.Test.YtbpijnalmakfaaaGreatDoorGw23
set_option maxHeartbeats 40000000
set_option maxRecDepth 100000
namespace Go.Proofs.YtbpijnalmakfaaaGreatDoor
open Go.RowKit
def opV:Array Value:=#[.string kPlus,.int .i64 1,.int .i64 2,.int .i64 2,.int .i64 3,.string vU,.int .i64 2,.int .i64 2,.int .i64 2,.int .i64 3,.string kStar,.int .i64 3,.int .i64 3,.int .i64 3,.int .i64 4,.string kEq,.int .i64 4,.int .i64 1,.int .i64 2,.int .i64 2,.string kLess,.int .i64 5,.int .i64 1,.int .i64 2,.int .i64 2]
def Op7 (w:World):Prop:=∃t z,w.heap[0]? = some (.cells opV t z)
theorem Op7.up {w w':World} (h:Op7 w) (u:Up w w'):Op7 w':=by
 obtain⟨t,z,h⟩:=h;exact⟨t,z,u.row h⟩
def opSg:Nat→ByteArray
 | 0=>kPlus
 | 1=>vU
 | 2=>kStar
 | 3=>kEq
 | _=>kLess
def opRu:Nat→Int
 | 0=>2
 | 1=>2
 | 2=>3
 | _=>1
def opLe:Nat→Int
 | 0=>2
 | 1=>2
 | 2=>3
 | _=>2
def opRi:Nat→Int
 | 0=>3
 | 1=>3
 | 2=>4
 | _=>2
theorem zQ0:∀k:Nat,k<5→∀w:World,(Instr.index 163 (.agg opV) (.int .i64 (k:Int))).run Tryz.prog w = .ok (.agg #[.string (opSg k),.int .i64 ((k+1:Nat):Int),.int .i64 (opRu k),.int .i64 (opLe k),.int .i64 (opRi k)]) w
 | 0,_,_=>by kernel_rfl
 | 1,_,_=>by kernel_rfl
 | 2,_,_=>by kernel_rfl
 | 3,_,_=>by kernel_rfl
 | 4,_,_=>by kernel_rfl
 | k+5,h,_=>absurd h (by omega)
def zTa (p:Nat→Bool):Option Nat:=if p 0 then some 0 else if p 1 then some 1 else if p 2 then some 2 else if p 3 then some 3 else if p 4 then some 4 else none
theorem zLh {p:Nat→Bool} {k:Nat} (hk:k<5) (hp:p k=true) (hn:∀j,j<k→p j=false):zTa p=some k:=by
 unfold zTa;obtain rfl | rfl | rfl | rfl | rfl:k=0∨k=1∨k=2∨k=3∨k=4:=by omega
 ·rw[hp];rfl
 ·rw[hn 0 (by omega),hp];rfl
 ·rw[hn 0 (by omega),hn 1 (by omega),hp];rfl
 ·rw[hn 0 (by omega),hn 1 (by omega),hn 2 (by omega),hp];rfl
 ·rw[hn 0 (by omega),hn 1 (by omega),hn 2 (by omega),hn 3 (by omega),hp];rfl
theorem pR {p:Nat→Bool} (hn:∀j,j<5→p j=false):zTa p=none:=by
 unfold zTa;rw[hn 0 (by omega),hn 1 (by omega),hn 2 (by omega),hn 3 (by omega),hn 4 (by omega)]
 rfl
def opT (l:List Tk) (rl:Int) (i:Nat) (e:Int) (k:Nat):Bool:=decide (opRu k=rl)&&tkB l i e (opSg k)
def opQ (l:List Tk) (rl:Int) (i:Nat) (e:Int):Option Nat:=zTa (opT l rl i e)
theorem zGs {l:List Tk} {rl:Int} {i:Nat} {e:Int} (h:¬e=0):opQ l rl i e=none:=pR fun j _=>by unfold opT;rw[kC h,Bool.and_false]
def opI (q:Option Nat) (i:Nat):Nat:=match q with
 | some _=>i+1
 | none=>i
def opK (q:Option Nat):Int:=match q with
 | some k=>((k+1:Nat):Int)
 | none=>0
def OpP (b:Nat) (v:Value) (q:Option Nat) (i:Nat) (e:Int) (w:World) (en:Ending) (w':World):Prop:=en = .returned (.tuple #[.int .i64 (opK q),.bool q.isSome])∧Gs (On b) w w'∧Psr w' b v (opI q i) e
section
variable {nk lg:ByteArray→Bool}
theorem lM {V0:World} {l:List Tk} (b:Nat) (v:Value) (i:Nat) (e:Int) (rl:Int) (w:World) (T:Toks nk lg V0 v l) (h:Psr w b v i e) (hu:Up V0 w) (hbW:V0.heap.size≤b) (hO:Op7 w) (hi:i≤1000000) :
  Calls Tryz.prog 123 #[.agg #[.pointer (some ⟨b,0,none⟩)],.int .i64 rl] w (OpP b v (opQ l rl i e) i e w):=by
 obtain⟨tp,zp,hpl⟩:=hO;have hb:b<w.heap.size:=qC h;have hpw:0<w.heap.size:=qC hpl;have H:=Lib.hid h;have HU:=Lib.hid hu;have HT:=Lib.hid T;have hpl2:(w.alloc (.cells #[.pointer (some ⟨b,0,none⟩)] 62)).heap[0]? = some (.cells opV tp zp):=((Up.refl w).alloc _).row hpl;obtain⟨q,hq⟩:∃q,opQ l rl i e=q:=⟨_,rfl⟩;have HQ:=Lib.hid hq;rw[hq];clear h hpl hu T hq
 go_enter Tryz.func123,Tryz.ntmps123
 go_wp2_with (refine wpList_load_row rfl 163 (.global 0) rfl 0 rfl tp opV zp _ hpl2 Tryz.underlying163 rfl (by kernel_rfl) ?_)
 generalize hA:opV=AR
 have HAR:=Lib.hid hA;obtain⟨W0,hW0⟩:∃W0,w.alloc (.cells #[.pointer (some ⟨b,0,none⟩)] 62)=W0:=⟨_,rfl⟩;have z0:W0.heap.size=w.heap.size+1:=by rw[←hW0];simp
 have b1:W0.heap[w.heap.size]? = some (.cells #[.pointer (some ⟨b,0,none⟩)] 62 (0,0)):=by rw[←hW0];exact heap_alloc_new w _
 have u0:Up w W0:=by rw[←hW0];exact(Up.refl w).alloc _
 have B1:=Lib.hid b1;have UZ:=Lib.hid u0;rw[hW0];clear hA hpl2 hW0 b1 u0
 go_loopw [9] (fun x wr=>∃k:Nat,k≤5∧x = .int .i64 (k:Int)∧Gs (On b) W0 wr∧Psr wr b v i e∧∀j,j<k→opT l rl i e j=false) (fun x _=>6-(intOf x).toNat)
 case atStart=>exact⟨0,Nat.zero_le _,rfl,Gs.refl _ _,H.out.up UZ.out,fun j hj=>absurd hj (by omega)⟩
 case round=>
  obtain⟨k,hk,rfl,hg,ps,hno⟩:=hrel;have hgs:=hg.size;have hur:Up V0 wr:=hg.up (HU.out.trans UZ.out) (fun q hq=>by rw[hq];exact hbW);have r1:wr.heap[w.heap.size]? = some (.cells #[.pointer (some ⟨b,0,none⟩)] 62 (0,0)):=hg.row B1.out (by unfold On;omega);have c1:wr.cell? ⟨w.heap.size,0,none⟩=some (.pointer (some ⟨b,0,none⟩)):=cell_of_row wr w.heap.size 0 _ _ _ r1;have hbw:w.heap.size<wr.heap.size:=by omega
  have HNO:=Lib.hid hno;clear hno r1
  by_cases hlt:k<5
  ·have hix:∀W,(Instr.index 163 (.agg AR) (.int .i64 (k:Int))).run Tryz.prog W = .ok (.agg #[.string (opSg k),.int .i64 ((k+1:Nat):Int),.int .i64 (opRu k),.int .i64 (opLe k),.int .i64 (opRi k)]) W:=fun W=>by rw[←HAR.out];exact zQ0 k hlt W
   have hw:IntKind.i64.wrap ((k:Int)+1)=((k+1:Nat):Int):=by rw[IntKind.wrap_i64];omega
   have hkz:(k:Int)<5:=by omega
   obtain⟨X,hX⟩:∃X,opSg k=X:=⟨_,rfl⟩;obtain⟨ka,hka⟩:∃ka,((k+1:Nat):Int)=ka:=⟨_,rfl⟩;obtain⟨le,hle⟩:∃le,opLe k=le:=⟨_,rfl⟩;obtain⟨ri,hri⟩:∃ri,opRi k=ri:=⟨_,rfl⟩;have HX:=Lib.hid hX;have HKA:=Lib.hid hka
   by_cases hr:opRu k=rl
   ·have HRU:=Lib.hid hr
    rw[hX,hka,hle,hri,hr] at hix;rw[hka] at hw;obtain⟨Wr,hWr⟩:∃Wr,wr.alloc (.cells #[.string X,.int .i64 ka,.int .i64 rl,.int .i64 le,.int .i64 ri] 162)=Wr:=⟨_,rfl⟩;have ur:Up wr Wr:=by rw[←hWr];exact(Up.refl wr).alloc _
    have cT:Calls Tryz.prog 47 #[.pointer (some ⟨b,0,none⟩),.string X] Wr (TaP b v i e (tkB l i e X) Wr):=qW b v i e X Wr HT.out (ps.up ur) (hur.trans ur) hi;have HG:=Lib.hid hg;have WRD:=Lib.hid hWr;have UR:=Lib.hid ur;clear hX hka hle hri hr hWr ur hg ps hur
    cases hd:tkB l i e X with
    | false=>
     rw[hd] at cT;have HD:=Lib.hid hd;clear hd;go_wp2_with fail;rw[WRD.out];refine cT.mono ?_;rintro en w2 ⟨rfl,g2,h2⟩;go_wp2_with fail
     go_roundw
     case rel=>
      refine⟨k+1,by omega,zV (by have:=HKA.out;omega),(HG.out.trans (Gs.of UR.out)).trans g2,h2,fun j hj=>?_⟩
      by_cases hjk:j=k
      ·subst hjk
       unfold opT;rw[HX.out,HD.out,Bool.and_false]
      ·exact HNO.out j (by omega)
     case measure=>simp[intOf];have:=HKA.out;omega
    | true=>
     rw[hd] at cT;have hqk:q=some k:=by
      rw[←HQ.out];refine zLh hlt ?_ HNO.out;unfold opT;rw[HX.out,hd,Bool.and_true,HRU.out,decide_eq_true rfl]
     have HQK:=Lib.hid hqk;clear hd hqk;go_wp2_with fail;rw[WRD.out];refine cT.mono ?_;rintro en w2 ⟨rfl,g2,h2⟩;have hx2:w2.heap[wr.heap.size]? = some (.cells #[.string X,.int .i64 ka,.int .i64 rl,.int .i64 le,.int .i64 ri] 162 (0,0)):=g2.row (by rw[←WRD.out];exact heap_alloc_new wr _) (by unfold On;omega);have ck:w2.cell? ⟨wr.heap.size,1,none⟩=some (.int .i64 ka):=cell_of_row w2 _ 1 _ _ _ hx2;have hwb:=qC hx2;have HGA:=Lib.hid ((((Gs.of UZ.out).trans HG.out).trans (Gs.of UR.out)).trans g2:Gs (On b) w w2);have H2:=Lib.hid h2;clear hx2 g2 h2 c1;go_wp2_with fail
     go_ret2
     unfold OpP;rw[HQK.out];exact⟨by rw[←HKA.out];rfl,HGA.out,H2.out⟩
   ·obtain⟨ru,hru⟩:∃ru,opRu k=ru:=⟨_,rfl⟩
    have HRU:=Lib.hid hru;rw[hX,hka,hle,hri,hru] at hix;rw[hka] at hw;rw[hru] at hr;have hno2:opT l rl i e k=false:=by unfold opT;rw[HRU.out,decide_eq_false hr,Bool.false_and]
    have HN2:=Lib.hid hno2;obtain⟨Wr,hWr⟩:∃Wr,wr.alloc (.cells #[.string X,.int .i64 ka,.int .i64 ru,.int .i64 le,.int .i64 ri] 162)=Wr:=⟨_,rfl⟩;have ur:Up wr Wr:=by rw[←hWr];exact(Up.refl wr).alloc _
    have HG:=Lib.hid hg;have HPS:=Lib.hid ps;have WRD:=Lib.hid hWr;have UR:=Lib.hid ur;clear hX hka hle hri hru hWr ur hg ps hur hno2;go_wp2_with fail
    go_roundw
    case rel=>
     rw[WRD.out];refine⟨k+1,by omega,zV (by have:=HKA.out;omega),HG.out.trans (Gs.of UR.out),HPS.out.up UR.out,fun j hj=>?_⟩
     by_cases hjk:j=k
     ·subst hjk
      exact HN2.out
     ·exact HNO.out j (by omega)
    case measure=>simp[intOf];have:=HKA.out;omega
  ·obtain rfl:k=5:=by omega
   have hqk:q=none:=by rw[←HQ.out];exact pR HNO.out
   have HQK:=Lib.hid hqk;have HG:=Lib.hid hg;have HPS:=Lib.hid ps;clear hg ps hur hqk;go_wp2_with fail
   go_ret2
   unfold OpP;rw[HQK.out];exact⟨rfl,(Gs.of UZ.out).trans HG.out,HPS.out⟩
end
theorem opQ_0 (l:List Tk) (rl:Int) (i:Nat):opQ l rl i 0=zTa fun k=>decide (opRu k=rl)&&key l i (opSg k):=by
 unfold opQ
 congr 1
def sgo (l:List Te) (rl:Int) (j:Nat):Option (Nod×Nat):=(opQ (tks l) rl j 0).map fun k=>(opN ((k+1:Nat):Int),1)
theorem zQ1 (l:List Tk) (rl:Int) (j:Nat):opQ l rl j 0=if decide ((2:Int)=rl)&&key l j kPlus then some 0 else if decide ((2:Int)=rl)&&key l j vU then some 1 else if decide ((3:Int)=rl)&&key l j kStar then some 2 else if decide ((1:Int)=rl)&&key l j kEq then some 3 else if decide ((1:Int)=rl)&&key l j kLess then some 4 else none:=opQ_0 l rl j
theorem sgo_3 (l:List Te) (j:Nat):sgo l 3 j=sMul l j:=by
 unfold sgo sMul;rw[zQ1]
 cases key (tks l) j kStar<;>rfl
theorem sgo_2 (l:List Te) (j:Nat):sgo l 2 j=sAdd l j:=by
 unfold sgo sAdd;rw[zQ1]
 generalize key (tks l) j kPlus=x
 generalize key (tks l) j vU=y
 cases x<;>cases y<;>rfl
theorem sgo_1 (l:List Te) (j:Nat):sgo l 1 j=sCmp l j:=by
 unfold sgo sCmp;rw[zQ1]
 generalize key (tks l) j kEq=x
 generalize key (tks l) j kLess=y
 cases x<;>cases y<;>rfl
end Go.Proofs.YtbpijnalmakfaaaGreatDoor
namespace Go.Proofs.YtbpijnalmakfaaaGreatDoor
def Px7 (w:World):Prop:=Op7 w∧Pl w
theorem Px7.up {W w:World} (h:Px7 W) (u:Up W w):Px7 w:=⟨h.1.up u,h.2.up u⟩
end Go.Proofs.YtbpijnalmakfaaaGreatDoor
namespace Go.Proofs.YtbpijnalmakfaaaGreatDoor
open Go.RowKit
structure Vx7 (w:World):Prop where
 lx:B.Lx w
 px:Px7 w
theorem Vx7.up {W w:World} (h:Vx7 W) (u:Up W w):Vx7 w:=⟨B.Lx.below h.lx u,h.px.up u⟩
theorem Vx7.nx {w:World} (h:Vx7 w):B.Nx w:=⟨h.lx.2.1,h.lx.2.2.1⟩
def teq (t:B.Tok×Nat):Te:=⟨⟨t.1.k,B.T t.1.x⟩,t.1.n⟩
theorem uE {w:World} {v:Value} {l:List (B.Tok×Nat)} (h:B.Tks w w.heap.size v l):Tke w v (l.map teq):=by
 obtain⟨A,c,hv,hc⟩:=h;refine⟨A,c,by rw[hv,List.length_map],fun j t ht=>?_⟩;rw[List.getElem?_map] at ht;obtain⟨x,hx,rfl⟩:=Option.map_eq_some_iff.1 ht;obtain⟨ad,hA,hlt,hcell⟩:=hc j x hx;have hj:j<l.length:=(List.getElem?_eq_some_iff.1 hx).1;obtain⟨x0,hx0⟩:∃x0,l[0]? = some x0:=⟨_,List.getElem?_eq_getElem (by omega)⟩;obtain⟨ad0,hA0,_,hcell0⟩:=hc 0 x0 hx0;have e0:ad0=ad:=by rw[hA] at hA0;exact(Option.some.inj hA0).symm
 subst e0;have h0:=hcell0 0 _ rfl;have hsp:ad0.spot=none:=by
  have e:ad0.add (0*4+0)=ad0:=by simp[Addr.add]
  rw[e] at h0;unfold World.cell? at h0
  cases hs:ad0.spot with
  | none=>rfl
  | some z=>
   rw[hs] at h0
   cases hh:w.heap[ad0.block]? with
   | none=>rw[hh] at h0;cases h0
   | some ob=>rw[hh] at h0;cases ob<;>simp at h0
 have ha:∀i,ad0.add i=⟨ad0.block,ad0.off+i,none⟩:=fun i=>by
  unfold Addr.add
  split
  ·rename_i hi
   subst hi;rw[←hsp]
   rfl
  ·rfl
 have c0:=hcell 0 _ rfl;have c1:=hcell 1 _ rfl;have c2:=hcell 2 _ rfl;have c3:=hcell 3 _ rfl;rw[ha] at c0 c1 c2 c3;refine⟨ad0.block,ad0.off,?_,hlt,?_,?_,?_,(x.2:Int),?_⟩
 ·rw[hA,←hsp]
 ·rw[Nat.add_zero] at c0;exact c0
 ·rw[←Nat.add_assoc] at c1;exact c1
 ·rw[←Nat.add_assoc] at c2;exact c2
 ·rw[←Nat.add_assoc] at c3;exact c3
def yVb:ByteArray:=⟨#[102,32,120,32,43,32,50,32,42,32,121]⟩
def zGt:List (B.Tok×Nat):=[(⟨1,[102],0⟩,0),(⟨1,[120],0⟩,2),(⟨3,[43],0⟩,4),(⟨2,[50],2⟩,6),(⟨3,[42],0⟩,8),(⟨1,[121],0⟩,10)]
def vr7 (s:ByteArray):Tr:=nd 23 s .nil
def exT7:Tr:=(opN 1,fr2 (⟨25,0,nob,nob⟩,fr2 (vr7 ⟨#[102]⟩) (vr7 ⟨#[120]⟩)) (opN 3,fr2 (⟨20,2,nob,nob⟩,.nil) (vr7 ⟨#[121]⟩)))
def nM:Tr:=nd 25 nob (fr2 (vr7 ⟨#[102]⟩) (nd 25 nob (fr2 (vr7 ⟨#[103]⟩) (vr7 ⟨#[120]⟩))))
def zTb:ByteArray:=⟨#[102,32,40,32,103,32,120,32,41]⟩
theorem zOo:B.lexR yVb=(zGt,0,0):=by kernel_rfl
theorem zOp:expZ B.nck B.long (zGt.map teq) 14 0 = .inl (exT7,6):=by kernel_rfl
theorem zWi:chk B.nck B.long (some nM) 2=0:=by kernel_rfl
theorem eJ:zLb (some nM)=zTb:=by kernel_rfl
theorem zGu:∀t∈zGt.map teq,t.t.s.size≤1000000000:=by decide
theorem zGv:okSO (some nM):=fun t h=>by
 have h:=Option.some.inj h;subst h;unfold okST;simp only[nM,vr7,nd,fr2,fr1,okS]
 decide
theorem zGw {W w:World} {v:Value} (h:InT w (fun q=>W.heap.size≤q∧q<w.heap.size) v exT7):∃q p kb ko c q6 p6,v = .pointer (some ⟨q,p,none⟩)∧w.cell? ⟨q,p,none⟩=some (.int .i64 31)∧w.cell? ⟨q,p+1,none⟩=some (.int .i64 1)∧w.cell? ⟨q,p+4,none⟩=some (.slice (some ⟨kb,ko,none⟩) 2 c)∧
  w.cell? ⟨kb,ko,none⟩=some (.pointer (some ⟨q6,p6,none⟩))∧w.cell? ⟨q6,p6,none⟩=some (.int .i64 25):=by
 obtain⟨q,p,A,c,rfl,hq,c0,c1,c2,c3,c4,hc,hkid⟩:=InT.open h;obtain⟨kb,ko,rfl,hkb,⟨va,ca,ia⟩,⟨vb,cb,ib⟩,-⟩:=hkid (by show 0<2;omega);obtain⟨q6,p6,A6,c6,rfl,hq6,d0,-⟩:=InT.open (x:=⟨25,0,nob,nob⟩) (ks:=fr2 (vr7 ⟨#[102]⟩) (vr7 ⟨#[120]⟩)) ia;exact⟨q,p,kb,ko,c,q6,p6,rfl,c0,c1,c4,ca,d0⟩
theorem refV (s:ByteArray) (w:World) :
  Calls Tryz.prog 28 #[.string s] w fun e w'=>e = .returned (.pointer (some ⟨w.heap.size,0,none⟩))∧w'=w.alloc (.cells #[.int .i64 23,.int .i64 0,.string s,.string ⟨#[]⟩,.slice none 0 0] 57):=by
 go_enter Tryz.func28,Tryz.ntmps28
 go_wp2_with fail
 go_ret
 exact⟨rfl,rfl⟩
def ber (k:Int) (l:List Tk) (i:Nat):Option ByteArray:=match l[i]? with
 | some t=>if t.k=k then some t.s else none
 | none=>none
def berZ (k:Int) (l:List Tk) (i:Int):Option ByteArray:=if 0≤i then ber k l i.toNat else none
theorem yVc {k:Int} {l:List Tk} {i:Nat} {s:ByteArray} (hz:∀t∈l,t.s.size≤1000000000) (h:ber k l i=some s):s.size≤1000000000:=by
 unfold ber at h
 split at h
 ·rename_i t ht
  split at h
  ·rw[←Option.some.inj h];exact hz t (List.mem_of_getElem? ht)
  ·cases h
 ·cases h
theorem zWj (p:ByteArray→Bool) (l:List Tk) (i:Int):namZ p l i=(match berZ 1 l i with
  | some s=>if p s then some s else none
  | none=>none):=by
 unfold namZ berZ ber nam
 by_cases h:0≤i
 ·rw[if_pos h,if_pos h]
  cases l[i.toNat]? with
  | none=>rfl
  | some t=>
   simp only
   by_cases h3:t.k=1
   ·rw[decide_eq_true h3,if_pos h3,Bool.true_and]
   ·rw[decide_eq_false h3,if_neg h3,Bool.false_and];rfl
 ·rw[if_neg h,if_neg h]
theorem zAc (l:List Tk) (i:Int) (x:ByteArray) (w:World) (v:Value) (hv:Tkm w v l) :
  Calls Tryz.prog 166 #[v,.int .i64 i,.string x] w (BoU (keyZ l i x) w):=by
 obtain⟨A,c,rfl,hc⟩:=hv;obtain⟨n,hn⟩:∃n,l.length=n:=⟨_,rfl⟩;rw[hn]
 by_cases h0:0≤i
 ·obtain⟨k,rfl⟩:=Int.eq_ofNat_of_zero_le h0
  by_cases hk:k<n
  ·obtain⟨t,ht⟩:∃t,l[k]? = some t:=⟨_,List.getElem?_eq_getElem (by rw[hn];exact hk)⟩
   obtain⟨b,o,rfl,hb,c0,c1⟩:=hc k t ht;have hki:(k:Int)<(n:Int):=by omega
   have HE:Hid (keyZ l (k:Int) x=(decide (t.k=3)&&decide (t.s=x))):=Lib.hid (by unfold keyZ;rw[decide_eq_true h0,Int.toNat_natCast];unfold key;rw[ht];rfl);rw[HE.out];clear hc ht hn HE
   by_cases h3:t.k=3
   ·rw[decide_eq_true h3,Bool.true_and]
    go_enter Tryz.func166,Tryz.ntmps166
    go_wp2_with fail
    go_ret
    exact kK (oP _ _).symm (Up.refl _)
   ·rw[decide_eq_false h3,Bool.false_and]
    go_enter Tryz.func166,Tryz.ntmps166
    go_wp2_with fail
    go_ret
    exact kK rfl (Up.refl _)
  ·have hki:¬(k:Int)<(n:Int):=by omega
   have HE:Hid (keyZ l (k:Int) x=false):=Lib.hid (by unfold keyZ;rw[Int.toNat_natCast,kI (by omega),Bool.and_false]);rw[HE.out]
   go_enter Tryz.func166,Tryz.ntmps166
   go_wp2_with fail
   go_ret
   exact kK rfl (Up.refl _)
 ·have HE:Hid (keyZ l i x=false):=Lib.hid (by unfold keyZ;rw[decide_eq_false h0,Bool.false_and])
  rw[HE.out]
  go_enter Tryz.func166,Tryz.ntmps166
  go_wp2_with fail
  go_ret
  exact kK rfl (Up.refl _)
theorem zYc (l:List Tk) (i:Int) (w:World) (v:Value) (hv:Tkm w v l) (hz:∀t∈l,t.s.size≤1000000000) (hx:B.Nx w) :
  Calls Tryz.prog 115 #[v,.int .i64 i] w (NaP (namZ B.long l i) w):=by
 obtain⟨A,c,rfl,hc⟩:=hv;obtain⟨n,hn⟩:∃n,l.length=n:=⟨_,rfl⟩;rw[hn]
 by_cases h0:0≤i
 ·obtain⟨k,rfl⟩:=Int.eq_ofNat_of_zero_le h0
  have h0':¬(k:Int)<0:=by omega
  by_cases hk:k<n
  ·obtain⟨t,ht⟩:∃t,l[k]? = some t:=⟨_,List.getElem?_eq_getElem (by rw[hn];exact hk)⟩
   obtain⟨b,o,rfl,hb,c0,c1⟩:=hc k t ht;have hs:t.s.size≤1000000000:=hz t (List.mem_of_getElem? ht);have hki:¬(n:Int)≤(k:Int):=by omega
   have HE:Hid (namZ B.long l (k:Int)=if decide (t.k=1)&&B.long t.s then some t.s else none):=Lib.hid (by unfold namZ;rw[if_pos h0,Int.toNat_natCast];unfold nam;rw[ht]);rw[HE.out];have HX:=Lib.hid hx;clear hc ht hn HE hz hx
   by_cases h3:t.k=1
   ·have cC:=fun(W:World) (u:Up w W)=>B.zVw t.s W hs (Nx.up HX.out u)
    have c0u:∀u:Upw w,u.w.cell? ⟨b,o+k*4,none⟩=some (.int .i64 t.k):=Upw.cell c0;have c1u:∀u:Upw w,u.w.cell? ⟨b,o+k*4+1,none⟩=some (.string t.s):=Upw.cell c1;obtain⟨p,hp⟩:∃p,B.long t.s=p:=⟨_,rfl⟩;rw[hp] at cC;have HE2:Hid ((if decide (t.k=1)&&B.long t.s then some t.s else none:Option ByteArray)=if p then some t.s else none):=Lib.hid (by rw[hp,decide_eq_true h3,Bool.true_and]);rw[HE2.out];clear hp HE2;rw[h3] at c0 c0u
    cases p
    ·go_enter Tryz.func115,Tryz.ntmps115
     go_wp2_with fail;refine(cC w (Up.refl w)).mono ?_;rintro e w2 ⟨rfl,u2⟩;go_wp2_with fail
     go_ret2
     exact⟨rfl,u2⟩
    ·go_enter Tryz.func115,Tryz.ntmps115
     go_wp2_with fail;refine(cC w (Up.refl w)).mono ?_;rintro e w2 ⟨rfl,u2⟩;have c9:=(show Up w w2 from u2).cell c1;go_wp2_with fail
     go_ret2
     exact⟨rfl,u2⟩
   ·rw[decide_eq_false h3,Bool.false_and]
    go_enter Tryz.func115,Tryz.ntmps115
    go_wp2_with fail
    go_ret2
    exact⟨rfl,Up.refl _⟩
  ·have hki:(n:Int)≤(k:Int):=by omega
   have HE:Hid (namZ B.long l (k:Int)=none):=Lib.hid (by unfold namZ;rw[if_pos h0,Int.toNat_natCast];unfold nam;rw[List.getElem?_eq_none (by omega)]);rw[HE.out]
   go_enter Tryz.func115,Tryz.ntmps115
   go_wp2_with fail
   go_ret2
   exact⟨rfl,Up.refl _⟩
 ·have HE:Hid (namZ B.long l i=none):=Lib.hid (by unfold namZ;rw[if_neg h0])
  have h0':i<0:=by omega
  rw[HE.out]
  go_enter Tryz.func115,Tryz.ntmps115
  go_wp2_with fail
  go_ret2
  exact⟨rfl,Up.refl _⟩
theorem zLi (l:List UInt8):(0≤Lib.index l [46])↔(46:UInt8)∈l:=by
 induction l with
 | nil=>
  have e:Lib.index [] [46] = -1:=rfl;rw[e]
  constructor
  ·intro h;omega
  ·intro h;cases h
 | cons b r ih=>
  have hge:=Lib.index_ge r [46]
  by_cases hb:(46:UInt8)=b
  ·subst hb
   have e:Lib.index (46::r) [46]=0:=rfl;rw[e];exact⟨fun _=>List.mem_cons_self,fun _=>Int.le_refl 0⟩
  ·have hp:([46]:List UInt8).isPrefixOf (b::r)=false:=by
    show((46:UInt8)==b&&([]:List UInt8).isPrefixOf r)=false
    rw[beq_eq_false_iff_ne.2 hb,Bool.false_and]
   have e:Lib.index (b::r) [46]=(if Lib.index r [46] == -1 then -1 else Lib.index r [46]+1):=by
    show(if ([46]:List UInt8).isPrefixOf (b::r) then 0 else _)=_
    rw[hp];rfl
   rw[e];have hm:(46:UInt8)∈b::r↔(46:UInt8)∈r:=by
    rw[List.mem_cons];exact⟨fun h=>h.resolve_left hb,Or.inr⟩
   rw[hm,←ih]
   by_cases h1:Lib.index r [46] = -1
   ·rw[h1]
    simp
   ·rw[if_neg (by simpa using h1)]
    omega
theorem zGx (s:ByteArray):Lib.contains s.data.toList (⟨#[46]⟩:ByteArray).data.toList=decide ((46:UInt8)∈s.data.toList):=by
 unfold Lib.contains;exact decide_eq_decide.2 (zLi _)
theorem zQ2 (s:ByteArray):B.nck s=(B.long s && !decide ((46:UInt8)∈s.data.toList)):=by
 by_cases hd:(46:UInt8)∈s.data.toList
 ·rw[decide_eq_true hd,Bool.not_true,Bool.and_false]
  cases hn:B.nck s with
  | false=>rfl
  | true=>exact absurd hd (B.zPg hn)
 ·have hp:B.pc s=[s]:=by
   unfold B.pc;rw[B.wM hd]
   show[B.tx s.data.toList]=[s]
   rw[B.zPf]
  rw[decide_eq_false hd,Bool.not_false,Bool.and_true]
  cases hn:B.nck s with
  | true=>
   refine(B.pD.2 ⟨?_,?_⟩).symm
   ·have:=(B.iL hn).2;omega
   ·rw[hp];simp[hn]
  | false=>
   cases hl:B.long s with
   | false=>rfl
   | true=>
    have:=(B.pD.1 hl).2;rw[hp] at this
    simp[hn] at this
theorem zGy (l:List Tk) (i:Int):namZ B.nck l i=(match namZ B.long l i with
  | some s=>if decide ((46:UInt8)∈s.data.toList) then none else some s
  | none=>none):=by
 rw[zWj,zWj]
 cases berZ 1 l i with
 | none=>rfl
 | some s=>
  simp only;rw[zQ2]
  cases B.long s with
  | false=>rfl
  | true=>
   rw[Bool.true_and]
   show(if (!decide ((46:UInt8)∈s.data.toList))=true then some s else none)=(if decide ((46:UInt8)∈s.data.toList)=true then none else some s)
   cases decide ((46:UInt8)∈s.data.toList)<;>rfl
theorem zLj (l:List Tk) (i:Int) (w:World) (v:Value) (hv:Tkm w v l) (hz:∀t∈l,t.s.size≤1000000000) (hx:B.Nx w) :
  Calls Tryz.prog 50 #[v,.int .i64 i] w (NaP (namZ B.nck l i) w):=by
 have cL:=zYc l i w v hv hz hx;have HE:=Lib.hid (zGy l i);have hsz:∀s,namZ B.long l i=some s→s.size≤1000000000:=fun s h=>by
  rw[zWj] at h;unfold berZ at h
  split at h
  ·rename_i t ht
   split at ht
   ·split at h
    ·rw[←Option.some.inj h];exact yVc hz ht
    ·cases h
   ·cases ht
  ·cases h
 rw[HE.out];have HX:=Lib.hid hx;have cC:=fun(s:ByteArray) (hs:s.size≤1000000000) (W:World) (u:Up w W)=>(show Calls Tryz.prog 116 #[.string s,.string ⟨#[46]⟩] W (fun e w'=>e = .returned (.bool (decide ((46:UInt8)∈s.data.toList)))∧w'=W) from by
  obtain⟨m,hm⟩:=(Nx.up HX.out u).2;rw[←zGx];exact Tryz.strings_Contains s ⟨#[46]⟩ m W (by omega) hm)
 clear hv HE hz hx HX
 cases hb:namZ B.long l i with
 | none=>
  rw[hb] at cL;have cN:=cC ⟨#[]⟩ (by decide);clear hb hsz cC
  go_enter Tryz.func50,Tryz.ntmps50
  go_wp2_with fail;refine cL.mono ?_;rintro e w1 ⟨rfl,u1⟩;go_wp2_with fail;refine(cN w1 u1).mono ?_;rintro e w2 ⟨rfl,rfl⟩;go_wp2_with fail
  go_ret2
  exact⟨rfl,u1⟩
 | some s=>
  have cN:=cC s (hsz s hb);rw[hb] at cL;obtain⟨p,hp⟩:∃p,decide ((46:UInt8)∈s.data.toList)=p:=⟨_,rfl⟩;rw[hp] at cN;simp only[hp];clear hb hsz hp cC
  cases p
  ·go_enter Tryz.func50,Tryz.ntmps50
   go_wp2_with fail;refine cL.mono ?_;rintro e w1 ⟨rfl,u1⟩;go_wp2_with fail;refine(cN w1 u1).mono ?_;rintro e w2 ⟨rfl,rfl⟩;go_wp2_with fail
   go_ret2
   exact⟨rfl,u1⟩
  ·go_enter Tryz.func50,Tryz.ntmps50
   go_wp2_with fail;refine cL.mono ?_;rintro e w1 ⟨rfl,u1⟩;go_wp2_with fail;refine(cN w1 u1).mono ?_;rintro e w2 ⟨rfl,rfl⟩;go_wp2_with fail
   go_ret2
   exact⟨rfl,u1⟩
theorem zOq {W0:World} {v:Value} {l:List Tk} (hv:Tkm W0 v l) (hz:∀t∈l,t.s.size≤1000000000) (hx:B.Nx W0):Toks B.nck B.long W0 v l:=⟨fun i x w u=>by
  have h:=zAc l (i:Int) x w v (hv.up u);have e:keyZ l (i:Int) x=key l i x:=by unfold keyZ;rw[decide_eq_true (by omega),Int.toNat_natCast,Bool.true_and]
  rw[e] at h;exact h,fun i w u=>by
  have h:=zLj l (i:Int) w v (hv.up u) hz (Nx.up hx u);have e:namZ B.nck l (i:Int)=nam B.nck l i:=by unfold namZ;rw[if_pos (by omega),Int.toNat_natCast]
  rw[e] at h;exact h,fun i w u=>by
  have h:=zYc l (i:Int) w v (hv.up u) hz (Nx.up hx u);have e:namZ B.long l (i:Int)=nam B.long l i:=by unfold namZ;rw[if_pos (by omega),Int.toNat_natCast]
  rw[e] at h;exact h⟩
theorem tyLit (b:Nat) (P:Option Addr→World→Prop) (w:World) (cA:Calls Tryz.prog 170 #[.agg #[.pointer (some ⟨b,0,none⟩)]] w fun e w'=>∃A,e = .returned (.pointer A)∧P A w') :
  Calls Tryz.prog 169 #[.pointer (some ⟨b,0,none⟩)] w fun e w'=>∃A,e = .returned (.pointer A)∧P A w':=by
 go_enter Tryz.func169,Tryz.ntmps169
 go_wp2_with fail;refine cA.mono ?_;rintro en w1 ⟨A,rfl,h⟩;have H:=Lib.hid h;clear h;go_wp2_with fail
 go_ret
 exact⟨A,rfl,H.out⟩
def parW (w:World) (v:Value) (i:Nat):World:=w.alloc (.cells #[v,.int .i64 (i:Int),.int .i64 0] 99)
theorem zOr (w:World) (v:Value) (i:Nat):Up w (parW w v i):=(Up.refl w).alloc _
theorem zTc (w:World) (v:Value) (i:Nat):Psr (parW w v i) w.heap.size v i 0:=heap_alloc_new w _
theorem bQ (A:Option Addr) (n c:Nat) (i:Int) (F:Value) (w:World) (h:i<0∨(n:Int)<i) :
  Calls Tryz.prog 24 #[.slice A n c,.int .i64 i,F] w fun e w'=>e = .returned (.tuple #[.pointer none,.int .i64 0,.int .i64 2])∧Up w w':=by
 by_cases h0:i<0
 ·go_enter Tryz.func24,Tryz.ntmps24
  go_wp2_with fail
  go_ret3
  exact⟨rfl,Up.refl _⟩
 ·have h1:(n:Int)<i:=by omega
  clear h
  go_enter Tryz.func24,Tryz.ntmps24
  go_wp2_with fail
  go_ret3
  exact⟨rfl,Up.refl _⟩
theorem bR (A:Option Addr) (n c:Nat) (i p:Nat) (r:Int) (k:FuncId) (hE:EntF k) (w:World) (hi:i≤n) (hr:¬r=0)
  (cR:Calls Tryz.prog k #[.pointer (some ⟨w.heap.size,0,none⟩)] (parW w (.slice A n c) i) fun e w'=>(∃u,e = .returned u)∧Up w w'∧Psr w' w.heap.size (.slice A n c) p r) :
  Calls Tryz.prog 24 #[.slice A n c,.int .i64 (i:Int),.func (.func k) #[] #[]] w fun e w'=>e = .returned (.tuple #[.pointer none,.int .i64 (p:Int),.int .i64 r])∧Up w w':=by
 have h0:¬(i:Int)<0:=by omega
 have h1:¬(n:Int)<(i:Int):=by omega
 have HE:=Lib.hid hE;have HW:Hid (parW w (.slice A n c) i=w.alloc (.cells #[.slice A n c,.int .i64 (i:Int),.int .i64 0] 99)):=Lib.hid rfl;have HC:=Lib.hid cR;clear cR hE
 go_enter Tryz.func24,Tryz.ntmps24
 go_wp2_with fail;rw[HE.out,Oper.upon_enter];refine Calls.mono HC.out ?_;rintro en w1 ⟨⟨u,rfl⟩,u1,h⟩;obtain⟨c0,c1,c2,f1,f2⟩:=h.cells;have U1:=Lib.hid u1;clear u1 h HC;go_wp2_with fail
 go_quiet (fail)
 go_wp2_with fail
 go_ret3
 exact⟨rfl,U1.out.drewN _⟩
theorem uG (A:Option Addr) (n c:Nat) (i j:Nat) (k:FuncId) (hE:EntF k) (P:Value→World→Prop) (w:World) (hi:i≤n)
  (cR:Calls Tryz.prog k #[.pointer (some ⟨w.heap.size,0,none⟩)] (parW w (.slice A n c) i) fun e w'=>(∃u,e = .returned u∧P u w')∧Up w w'∧Psr w' w.heap.size (.slice A n c) j 0)
  (hP:∀u w' q,P u w'→P u (w'.drewN q)) :
  Calls Tryz.prog 24 #[.slice A n c,.int .i64 (i:Int),.func (.func k) #[] #[]] w fun e w'=>∃u,e = .returned (.tuple #[u,.int .i64 (j:Int),.int .i64 0])∧P u w'∧Up w w':=by
 have h0:¬(i:Int)<0:=by omega
 have h1:¬(n:Int)<(i:Int):=by omega
 have HE:=Lib.hid hE;have HPD:=Lib.hid hP;have HC:=Lib.hid cR;clear cR hE hP
 go_enter Tryz.func24,Tryz.ntmps24
 go_wp2_with fail;rw[HE.out,Oper.upon_enter];refine Calls.mono HC.out ?_;rintro en w1 ⟨⟨u,rfl,hu⟩,u1,h⟩;obtain⟨c0,c1,c2,f1,f2⟩:=h.cells;have U1:=Lib.hid u1;have HU:=Lib.hid hu;clear u1 h HC hu;go_wp2_with fail
 go_quiet (fail)
 go_wp2_with fail
 go_ret3
 exact⟨_,rfl,HPD.out _ _ _ HU.out,U1.out.drewN _⟩
theorem NewT.drewN {W w:World} {v:Value} {t:Tr} (h:NewT W w v t) (q:Nat):NewT W (w.drewN q) v t:=InT.keep h (fun _ h=>h) fun _ _=>rfl
theorem zLk (v:Value) (i:Int) (P:Value→Int→Int→World→Prop) (w:World) (cP:Calls Tryz.prog 24 #[v,.int .i64 i,.func (.func 169) #[] #[]] w fun e w'=>∃u j r,e = .returned (.tuple #[u,.int .i64 j,.int .i64 r])∧P u j r w') :
  Calls Tryz.prog 121 #[v,.int .i64 i] w fun e w'=>∃u j r,e = .returned (.tuple #[u,.int .i64 j,.int .i64 r])∧P u j r w':=by
 go_enter Tryz.func121,Tryz.ntmps121
 go_wp2_with fail;refine cP.mono ?_;rintro en w1 ⟨u,j,r,rfl,h⟩;have H:=Lib.hid h;clear h;go_wp2_with fail
 go_ret3
 exact⟨u,j,r,rfl,H.out⟩
theorem pType (l:List Tk) (i:Int) (hl:l.length≤100000) (hz:∀t∈l,t.s.size≤1000000000) (w:World) (v:Value) (hv:Tkm w v l) (hx:B.Nx w) (hp:Pl w) :
  Calls Tryz.prog 121 #[v,.int .i64 i] w (sP (typZ B.nck B.long l i) w):=by
 have hv0:=hv;obtain⟨A,c,rfl,-⟩:=hv;have key:Calls Tryz.prog 121 #[.slice A l.length c,.int .i64 i] w fun e w'=>∃u j r,e = .returned (.tuple #[u,.int .i64 j,.int .i64 r])∧RtV (typZ B.nck B.long l i) w w' u j r∧Up w w':=by
  refine zLk _ i (fun u j r w'=>RtV (typZ B.nck B.long l i) w w' u j r∧Up w w') w ?_
  by_cases h:i<0∨(l.length:Int)<i
  ·unfold typZ
   rw[if_pos h];exact(bQ A l.length c i _ w h).mono fun e w' ⟨h1,h2⟩=>⟨_,_,_,h1,⟨rfl,rfl,rfl⟩,h2⟩
  ·have he:typZ B.nck B.long l i=typL B.nck B.long l i.toNat:=if_neg h
   rw[he];obtain⟨k,rfl⟩:=Int.eq_ofNat_of_zero_le (by omega:0≤i);have hk:k≤l.length:=by omega
   rw[Int.toNat_natCast];have Q:Prs B.nck B.long w (.slice A l.length c) l w.heap.size:=⟨zOq hv0 hz hx,hp,Nat.le_refl _,hl,hz⟩;have up:=zOr w (.slice A l.length c) k;have cA:=(zT7 Q _ k (Nat.le_refl _) hk).1 _ up (zTc w _ k);have hle:=mF (nk:=B.nck) (lg:=B.long) l k hk;have gu:∀w',Gs (On w.heap.size) (parW w (.slice A l.length c) k) w'→Up w w':=fun w' g=>g.up up fun q hq=>by rw[hq];exact Nat.le_refl _
   cases hT:typL B.nck B.long l k with
   | inr e=>
    obtain⟨p,r⟩:=e;rw[hT] at cA hle;have hr:¬r=0:=hle.2 p r rfl;refine(bR A l.length c k p r 169 (fun _ _=>by kernel_rfl) w hk hr ?_).mono fun e w' ⟨h1,h2⟩=>⟨_,_,_,h1,⟨rfl,rfl,rfl⟩,h2⟩
    refine(tyLit w.heap.size (fun _ w'=>Up w w'∧Psr w' w.heap.size (.slice A l.length c) p r) _ (cA.mono fun e w' ⟨B,h1,g,h2⟩=>⟨B,h1,gu w' g,h2⟩)).mono fun e w' ⟨B,h1,h2,h3⟩=>⟨⟨_,h1⟩,h2,h3⟩
   | inl e=>
    obtain⟨t,j⟩:=e;rw[hT] at cA;refine(uG A l.length c k j 169 (fun _ _=>by kernel_rfl) (fun u w'=>NewT w w' u t) w hk ?_ (fun u w' q h=>h.drewN q)).mono fun e w' ⟨u,h1,h2,h3⟩=>⟨_,_,_,h1,⟨h2,rfl,rfl⟩,h3⟩
    refine(tyLit w.heap.size (fun B w'=>NewT w w' (.pointer B) t∧Up w w'∧Psr w' w.heap.size (.slice A l.length c) j 0) _ (cA.mono fun e w' ⟨B,h1,g,h2,h3,_⟩=>⟨B,h1,h2.base up.size,gu w' g,h3⟩)).mono fun e w' ⟨B,h1,h2,h3,h4⟩=>⟨⟨_,h1,h2⟩,h3,h4⟩
 exact key.mono fun e w' ⟨u,j,r,h1,h2,h3⟩=>⟨u,j,r,h1,h2,h3⟩
theorem PaT.psr {S:Nat→Prop} {b:Nat} {v:Value} {R:Rs Tr} {w w':World} {en:Ending} (h:PaT S b v R (fun _ _=>True) w en w'):∃A,en = .returned (.pointer A)∧Gs S w w'∧Psr w' b v (rI R) (rE R)∧∀t j,R = .inl (t,j)→NewT w w' (.pointer A) t:=by
 obtain⟨A,h1,h2,h3⟩:=h
 cases R with
 | inl r=>exact⟨A,h1,h2,h3.2.1,fun t j e=>by injection e with e;rw[e] at h3;exact h3.1⟩
 | inr r=>exact⟨A,h1,h2,h3,fun t j e=>by cases e⟩
theorem PaT.mk {S:Nat→Prop} {b:Nat} {v:Value} {R:Rs Tr} {w w':World} {A:Option Addr} (g:Gs S w w') (p:Psr w' b v (rI R) (rE R)) (n:∀t j,R = .inl (t,j)→NewT w w' (.pointer A) t):PaT S b v R (fun _ _=>True) w (.returned (.pointer A)) w':=by
 refine⟨A,rfl,g,?_⟩
 cases R with
 | inl r=>exact⟨n r.1 r.2 rfl,p,trivial⟩
 | inr r=>exact p
theorem NewT.gsb {b:Nat} {W w w':World} {v:Value} {t:Tr} (h:NewT W w v t) (g:Gs (On b) w w') (hb:b<W.heap.size):NewT W w' v t:=
 InT.keep h (fun _ hq=>⟨hq.1,Nat.lt_of_lt_of_le hq.2 g.size⟩) fun q hq=>g.block q hq.2 (by have:=hq.1;unfold On;omega)
theorem zOs (n:Int) (a b:Option Addr) (w:World) :
  Calls Tryz.prog 124 #[.int .i64 n,.pointer a,.pointer b] w fun e w'=>e = .returned (.pointer (some ⟨w.heap.size+1,0,none⟩))∧w'=(w.alloc (.cells #[.pointer a,.pointer b] 24)).alloc (.cells #[.int .i64 31,.int .i64 n,.string ⟨#[]⟩,.string ⟨#[]⟩,.slice (some ⟨w.heap.size,0,none⟩) 2 2] 57):=by
 go_enter Tryz.func124,Tryz.ntmps124
 go_wp2_with fail
 go_ret
 exact⟨rfl,rfl⟩
def boolN (v:Value) (n:Nat):Nat:=match v with
 | .bool true=>n
 | _=>0
theorem lN {b:Bool} {n m:Nat} (h0:0<n) (h:b=true→m<n):boolN (.bool b) m<boolN (.bool true) n:=by
 cases b with
 | false=>exact h0
 | true=>exact h rfl
inductive LeQ (i0:Nat) (e0:Int) (l:List Te) (b:Nat) (v:Value) (R:Rs Tr) (Tq:Nat→Rs Tr) (rl:Int) (w wr:World) (nv kv iv:Value):Prop
 | good (a:Tr) (j f:Nat) (q:Option Nat) (he:e0=0∧i0≤j) (hj:j≤l.length) (hR:R=lop Tq (sgo l rl) f a j) (hf:l.length-j+1≤f) (hn:NewT w wr nv a) (hq:opQ (tks l) rl j 0=q) (hk:kv = .int .i64 (opK q)) (hi:iv = .bool q.isSome) (hp:Psr wr b v (opI q j) 0):LeQ i0 e0 l b v R Tq rl w wr nv kv iv
 | bad (p:Nat) (r:Int) (A:Option Addr) (hr:¬r=0) (hR:R = .inr (p,r)) (hn:nv = .pointer A) (hk:kv = .int .i64 0) (hi:iv = .bool false) (hp:Psr wr b v p r):LeQ i0 e0 l b v R Tq rl w wr nv kv iv
theorem LeQ.of {i0:Nat} {e0:Int} {l:List Te} {b:Nat} {v:Value} {R:Rs Tr} {Tq:Nat→Rs Tr} {rl:Int} {w w2 wr:World} {A:Option Addr} {X:Rs Tr} {kv iv:Value} {f:Nat} {g:Tr→Tr} (hX:∀a j,X = .inl (a,j)→(e0=0∧i0≤j)∧j≤l.length∧R=lop Tq (sgo l rl) f (g a) j∧l.length-j+1≤f∧NewT w wr (.pointer A) (g a)) (hX2:∀p r,X = .inr (p,r)→¬r=0∧R = .inr (p,r))
  (h:OpP b v (opQ (tks l) rl (rI X) (rE X)) (rI X) (rE X) w2 (.returned (.tuple #[kv,iv])) wr):LeQ i0 e0 l b v R Tq rl w wr (.pointer A) kv iv:=by
 obtain⟨h1,_,h3⟩:=h;injection h1 with h1;injection h1 with h1;have e1:kv = .int .i64 (opK (opQ (tks l) rl (rI X) (rE X))):=by have:=congrArg (·[0]?) h1;exact Option.some.inj this
 have e2:iv = .bool (opQ (tks l) rl (rI X) (rE X)).isSome:=by have:=congrArg (·[1]?) h1;exact Option.some.inj this
 cases X with
 | inl r=>
  obtain⟨a,j⟩:=r;obtain⟨h8,h4,h5,h6,h7⟩:=hX a j rfl;exact .good (g a) j f _ h8 h4 h5 h6 h7 rfl e1 e2 h3
 | inr r=>
  obtain⟨p,r⟩:=r;obtain⟨h4,h5⟩:=hX2 p r rfl;have hq:opQ (tks l) rl p r=none:=zGs h4;simp only[rI,rE] at e1 e2 h3;rw[hq] at e1 e2 h3;exact .bad p r A h4 h5 rfl e1 e2 h3
theorem zAd {l:List Te} {b:Nat} {v:Value} {rl:Int} {j:Nat} {Y:Rs Tr} {w2 w3:World} {en:Ending} (hin:In l.length (j+1) Y) (h:OpP b v (opQ (tks l) rl (rI Y) (rE Y)) (rI Y) (rE Y) w2 en w3) (hs:(opQ (tks l) rl (rI Y) (rE Y)).isSome=true):l.length+1-posW b w3<l.length+1-(j+1):=by
 obtain⟨_,_,h3⟩:=h
 cases Y with
 | inr r=>
  have hne:=hin.ne (p:=r.1) (e:=r.2) rfl;rw[show opQ (tks l) rl (rI (.inr r:Rs Tr)) (rE (.inr r:Rs Tr))=none from zGs hne] at hs
  cases hs
 | inl r=>
  obtain⟨a,m⟩:=r;have hm:j+1<m∧m≤l.length:=hin;obtain⟨q,hq⟩:∃q,opQ (tks l) rl (rI (.inl (a,m):Rs Tr)) (rE (.inl (a,m):Rs Tr))=some q:=Option.isSome_iff_exists.1 hs;rw[hq] at h3;rw[h3.pos]
  show l.length+1-(m+1)<_
  omega
section
variable {nk lg:ByteArray→Bool}
theorem lO {V0:World} {l:List Te} (b:Nat) (v:Value) (kt:FuncId) (pre cap:Array Value) (hE:EntF kt) (rl:Int) (Tq:Nat→Rs Tr) (hT:∀j,j≤l.length→In l.length j (Tq j)) (n i:Nat) (e:Int) (hi:i≤l.length) (hn:e=0→l.length-i+1≤n) (hl:l.length≤100000) (w:World)
  (T:Toks nk lg V0 v (tks l)) (h:Psr w b v i e) (hu:Up V0 w) (hbW:V0.heap.size≤b) (hO:Op7 V0)
  (cT:∀(j:Nat) (e':Int) (w':World),j≤l.length→(e'=0→e=0∧i≤j)→Up V0 w'→Psr w' b v j e'→Calls Tryz.prog kt (pre++cap) w' (PaT (On b) b v (at0 Tq (j,e')) (fun _ _=>True) w')) :
  Calls Tryz.prog 171 #[.agg #[.pointer (some ⟨b,0,none⟩)],.func (.func kt) pre cap,.int .i64 rl] w (PaT (On b) b v (at0 (lopS Tq (sgo l rl) n) (i,e)) (fun _ _=>True) w):=by
 have hb:b<w.heap.size:=qC h;obtain⟨W0,hW0⟩:∃W0,w.alloc (.cells #[.pointer (some ⟨b,0,none⟩)] 62)=W0:=⟨_,rfl⟩;have u0:Up w W0:=by rw[←hW0];exact(Up.refl w).alloc _
 have b1:W0.heap[w.heap.size]? = some (.cells #[.pointer (some ⟨b,0,none⟩)] 62 (0,0)):=by rw[←hW0];exact heap_alloc_new w _
 have c0:=cT i e W0 hi (fun h=>⟨h,Nat.le_refl _⟩) (hu.trans u0) (h.up u0);have hgU:∀w',Gs (On b) W0 w'→Up V0 w':=fun w' g=>g.up (hu.trans u0) fun q hq=>by rw[hq];exact hbW
 have hOp:∀(j:Nat) (e':Int) (w':World),j≤l.length→Gs (On b) W0 w'→Psr w' b v j e'→Calls Tryz.prog 123 #[.agg #[.pointer (some ⟨b,0,none⟩)],.int .i64 rl] w' (OpP b v (opQ (tks l) rl j e') j e' w'):=fun j e' w' hj g p=>lM b v j e' rl w' T p (hgU w' g) hbW (hO.up (hgU w' g)) (by omega)
 obtain⟨R,hR⟩:∃R,at0 (lopS Tq (sgo l rl) n) (i,e)=R:=⟨_,rfl⟩;have hX1:∀a j,at0 Tq (i,e) = .inl (a,j)→(e=0∧i≤j)∧j≤l.length∧R=lop Tq (sgo l rl) n a j∧l.length-j+1≤n:=fun a j hX=>by
  by_cases he:e=0
  ·subst he
   rw[qR] at hX hR;have h1:=hT i hi;rw[hX] at h1;have h1:i<j∧j≤l.length:=h1;have:=hn rfl;refine⟨⟨rfl,by omega⟩,h1.2,?_,by omega⟩;rw[←hR];unfold lopS;rw[hX]
   rfl
  ·rw[kP _ he] at hX
   cases hX
 have hX2:∀p r,at0 Tq (i,e) = .inr (p,r)→¬r=0∧R = .inr (p,r):=fun p r hX=>by
  by_cases he:e=0
  ·subst he
   rw[qR] at hX hR;refine⟨(hT i hi).ne hX,?_⟩;rw[←hR];unfold lopS;rw[hX]
   rfl
  ·rw[kP _ he] at hX hR
   rw[←hR,hX];injection hX with hX;injection hX with _ hX;exact⟨by rw[←hX];exact he,rfl⟩
 have hXl:rI (at0 Tq (i,e))≤l.length:=by
  by_cases he:e=0
  ·subst he
   rw[qR];have h1:=hT i hi
   cases hX:Tq i with
   | inl r=>rw[hX] at h1;exact h1.2
   | inr r=>rw[hX] at h1;exact h1.2.1
  ·rw[kP _ he];exact hi
 rw[hR];obtain⟨X,hXe⟩:∃X,at0 Tq (i,e)=X:=⟨_,rfl⟩;rw[hXe] at c0 hX1 hX2 hXl;have HE:=Lib.hid hE;have HT:=Lib.hid hT;have HOP:=Lib.hid hOp;have HX1:=Lib.hid hX1;have HX2:=Lib.hid hX2;have HGU:=Lib.hid hgU;have HCT:=Lib.hid cT;have B1:=Lib.hid b1;have UZ:=Lib.hid u0;have HW0:=Lib.hid hW0;have z0:W0.heap.size=w.heap.size+1:=by rw[←hW0];simp
 clear hT hOp hX1 hX2 hgU cT b1 u0 hW0 h hu hR hXe hE T hn
 go_enter Tryz.func171,Tryz.ntmps171
 go_wp2_with fail;rw[HE.out,Oper.upon_enter,HW0.out];refine c0.mono ?_;rintro en w1 hP1;obtain⟨A1,rfl,g1,p1,n1⟩:=hP1.psr;have cO:=HOP.out _ _ w1 hXl g1 p1;have r1:w1.heap[w.heap.size]? = some (.cells #[.pointer (some ⟨b,0,none⟩)] 62 (0,0)):=g1.row B1.out (by unfold On;omega);have c1:w1.cell? ⟨w.heap.size,0,none⟩=some (.pointer (some ⟨b,0,none⟩)):=cell_of_row w1 w.heap.size 0 _ _ _ r1;have hb1:=qC r1;have G1:=Lib.hid g1;have HN1:=Lib.hid n1;clear r1 g1 n1 p1 c0 hP1;go_wp2_with fail;refine cO.mono ?_;rintro en w2 hOP;obtain⟨rfl,g2,h2⟩:=id hOP;have hst:LeQ i e l b v R Tq rl w w2 (.pointer A1) (.int .i64 (opK (opQ (tks l) rl (rI X) (rE X)))) (.bool (opQ (tks l) rl (rI X) (rE X)).isSome):=by
  refine LeQ.of (f:=n) (g:=fun a=>a) (fun a j hX=>?_) HX2.out hOP;obtain⟨h8,h4,h5,h6⟩:=HX1.out a j hX;refine⟨h8,h4,h5,h6,?_⟩;exact((HN1.out a j hX).base UZ.out.size).gsb g2 hb
 have HST:=Lib.hid hst;have G2:=Lib.hid (G1.out.trans g2);clear hst hOP g2 h2 cO c1
 generalize (opK (opQ (tks l) rl (rI X) (rE X)))=k0 at HST ⊢
 generalize ((opQ (tks l) rl (rI X) (rE X)).isSome)=q0 at HST ⊢
 go_wp2_with fail
 go_loopw [7,8,9] (fun nv kv iv wr=>Gs (On b) W0 wr∧LeQ i e l b v R Tq rl w wr nv kv iv) (fun _ _ iv wr=>boolN iv (l.length+1-posW b wr))
 case atStart=>exact⟨G2.out,HST.out⟩
 case round=>
  obtain⟨hg,hst⟩:=hrel;have hgs:=hg.size;have r1:wr.heap[w.heap.size]? = some (.cells #[.pointer (some ⟨b,0,none⟩)] 62 (0,0)):=hg.row B1.out (by unfold On;omega);have HR1:=Lib.hid r1;have HG:=Lib.hid hg;clear r1 hg
  cases hst with
  | bad p r A hr hRe hnv hkv hiv hp=>
   subst hnv hkv hiv;have HP:=Lib.hid hp;have HRR:=Lib.hid hRe;clear hp hRe hr;go_wp2_with fail
   go_ret
   refine⟨A,rfl,(Gs.of UZ.out).trans HG.out,?_⟩;rw[HRR.out];exact HP.out
  | good a j f q hij hj hRl hf hnw hq hkv hiv hp=>
   subst hkv hiv;obtain⟨o1,p1,rfl⟩:=InT.ptr hnw;have HP:=Lib.hid hp;have HN:=Lib.hid hnw;have HRR:=Lib.hid hRl;have HQ:=Lib.hid hq;clear hp hnw hRl hq;obtain⟨f,rfl⟩:∃g,f=g+1:=⟨f-1,by omega⟩
   cases q with
   | none=>
    go_wp2_with fail
    go_ret
    refine⟨_,rfl,(Gs.of UZ.out).trans HG.out,?_⟩;have hs:sgo l rl j=none:=by unfold sgo;rw[HQ.out];rfl
    have hRR:R = .inl (a,j):=by rw[HRR.out];unfold lop;rw[hs]
    rw[hRR];exact⟨HN.out,HP.out,trivial⟩
   | some k=>
    have hs:sgo l rl j=some (opN ((k+1:Nat):Int),1):=by unfold sgo;rw[HQ.out];rfl
    have hjl:j+1≤l.length:=by
     by_cases hjl:j<l.length
     ·exact hjl
     ·have hq:=HQ.out
      unfold opQ at hq;have:zTa (opT (tks l) rl j 0)=none:=pR fun m _=>by
       unfold opT;rw[yA,kI (by rw[yV];omega),Bool.and_false]
      rw[this] at hq
      cases hq
    have hRR:R=thn (Tq (j+1)) fun b m=>lop Tq (sgo l rl) f (opN ((k+1:Nat):Int),fr2 a b) m:=by rw[HRR.out];conv=>lhs;unfold lop;rw[hs]
    have hin:=HT.out (j+1) hjl;have cT:=HCT.out (j+1) 0 wr hjl (fun _=>⟨hij.1,by omega⟩) (HGU.out wr HG.out) HP.out;have HIN:=Lib.hid hin;have HRR2:=Lib.hid hRR;rw[qR] at cT;obtain⟨Y,hY⟩:∃Y,Tq (j+1)=Y:=⟨_,rfl⟩;rw[hY] at cT;have HY:=Lib.hid hY;have hpos:=HP.out.pos;clear hs hRR hin hY;go_wp2_with fail;rw[HE.out,Oper.upon_enter];refine cT.mono ?_;rintro en w3 hP3;obtain⟨A3,rfl,g3,p3,n3⟩:=hP3.psr;obtain⟨w4,hw4⟩:∃w4,(w3.alloc (.cells #[.pointer (some ⟨o1,p1,none⟩),.pointer A3] 24)).alloc (.cells #[.int .i64 31,.int .i64 (opK (some k)),.string ⟨#[]⟩,.string ⟨#[]⟩,.slice (some ⟨w3.heap.size,0,none⟩) 2 2] 57)=w4:=⟨_,rfl⟩;have u4:Up w3 w4:=by rw[←hw4];exact((Up.refl _).alloc _).alloc _
    have hz3:=g3.size;have hwz:w.heap.size≤wr.heap.size:=by omega
    have hnd:∀b' m,Y = .inl (b',m)→NewT w w4 (.pointer (some ⟨w3.heap.size+1,0,none⟩)) (opN ((k+1:Nat):Int),fr2 a b'):=fun b' m hYe=>by
     have h1:=HN.out.gsb g3 hb;have h2:=hasOp (k:=opK (some k)) (by omega) h1 ((n3 b' m hYe).base hwz);rw[hw4] at h2;exact h2
    have r4:w4.heap[w.heap.size]? = some (.cells #[.pointer (some ⟨b,0,none⟩)] 62 (0,0)):=u4.row (g3.row HR1.out (by unfold On;omega));have c4:w4.cell? ⟨w.heap.size,0,none⟩=some (.pointer (some ⟨b,0,none⟩)):=cell_of_row w4 w.heap.size 0 _ _ _ r4;have hb4:=qC r4;have hYl:rI Y≤l.length:=by
     have h1:=HIN.out;rw[HY.out] at h1
     cases Y with
     | inl r=>exact h1.2
     | inr r=>exact h1.2.1
    have G4:=Lib.hid ((HG.out.trans g3).trans (Gs.of u4));have cO:=HOP.out _ _ w4 hYl G4.out (p3.up u4);have HND:=Lib.hid hnd;have HW4:=Lib.hid hw4;clear n3 g3 p3 hnd u4 r4 hw4 cT hYl hP3;go_wp2_with fail;refine(zOs _ _ _ _).mono ?_;rintro en w4' ⟨rfl,rfl⟩;rw[HW4.out];go_wp2_with fail;refine cO.mono ?_;rintro en w5 hOP;obtain⟨rfl,g5,h5⟩:=id hOP;have hst:LeQ i e l b v R Tq rl w w5 (.pointer (some ⟨w3.heap.size+1,0,none⟩)) (.int .i64 (opK (opQ (tks l) rl (rI Y) (rE Y)))) (.bool (opQ (tks l) rl (rI Y) (rE Y)).isSome):=by
     refine LeQ.of (f:=f) (g:=fun b'=>(opN ((k+1:Nat):Int),fr2 a b')) (fun b' m hYe=>?_) (fun p r hYe=>?_) hOP
     ·have h1:=HIN.out
      have hR:=HRR2.out;rw[HY.out,hYe] at h1 hR;have h1:j+1<m∧m≤l.length:=h1;exact⟨⟨hij.1,by omega⟩,h1.2,hR,by omega,(HND.out b' m hYe).gsb g5 hb⟩
     ·have h1:=HIN.out
      have hR:=HRR2.out;rw[HY.out,hYe] at hR;exact⟨h1.ne (by rw[HY.out,hYe]),hR⟩
    have HST:=Lib.hid hst;have HOPP:=Lib.hid hOP;have G5:=Lib.hid (G4.out.trans g5);have hls:boolN (.bool (opQ (tks l) rl (rI Y) (rE Y)).isSome) (l.length+1-posW b w5)<boolN (.bool true) (l.length+1-posW b wr):=by
     have hpos:posW b wr=j+1:=hpos;refine lN (by rw[hpos];omega) fun hs=>?_
     rw[hpos];exact zAd (HY.out▸HIN.out) HOPP.out hs
    have HLS:=Lib.hid hls;clear hst hOP g5 h5 hls cO c4
    generalize (opK (opQ (tks l) rl (rI Y) (rE Y)))=k1 at HST ⊢
    generalize ((opQ (tks l) rl (rI Y) (rE Y)).isSome)=q1 at HST HLS ⊢
    go_wp2_with fail;exact⟨⟨G5.out,HST.out⟩,HLS.out⟩
end
end Go.Proofs.YtbpijnalmakfaaaGreatDoor
