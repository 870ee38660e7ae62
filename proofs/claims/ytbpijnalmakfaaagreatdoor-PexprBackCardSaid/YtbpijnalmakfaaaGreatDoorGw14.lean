/-
  The program's sum, keep, gauge.of, measured, Size, Deep: what they tell of trees.
-/
import Derived.Test.YtbpijnalmakfaaaGreatDoorGw13
import Derived.Carry
import Derived.Deep.Onto
import Derived.Laws.OwnMore
import Derived.MapKept
set_option maxHeartbeats 40000000
set_option maxRecDepth 100000
namespace Go.Proofs.YtbpijnalmakfaaaGreatDoor
open Go.RowKit
theorem jF (w:World) (r:Option Nat):w.grownBy w r:=⟨rfl,rfl,rfl,Nat.le_refl _,fun _ _ _=>rfl⟩
theorem yT {a b c:World} {r:Option Nat} (h:a.grownBy b r) (k:b.grownBy c r):a.grownBy c r:=
 ⟨k.os.trans h.os,k.tape.trans h.tape,k.output.trans h.output,Nat.le_trans h.size k.size,fun i hi hr=>(k.block i (Nat.lt_of_lt_of_le hi h.size) hr).trans (h.block i hi hr)⟩
theorem kO {a b:World} {B:Nat} {r:Option Nat} (h:Below B a b) (hB:a.heap.size≤B):a.grownBy b r:=⟨h.os,h.tape,h.output,h.size,fun i hi _=>h.block i (by omega)⟩
theorem gD {a b:World} {r:Option Nat} (h:a.grownBy b r) (o:Obj):a.grownBy (b.alloc o) r:=yT h (kO ((Below.refl b.heap.size b).alloc (Nat.le_refl _) o) (Nat.le_refl _))
theorem mC {a b:World} {r:Option Nat} (h:a.grownBy b r) (p:Addr) (u:Value) (hp:a.heap.size≤p.block∨r=some p.block):a.grownBy (b.setCell p u) r:=
 ⟨h.os,h.tape,h.output,by have:=h.size;simpa [World.setCell] using this,fun i hi hr=>(Below.heap_setCell _ _ _ _ (by
  rcases hp with hp | hp
  ·omega
  ·intro e;exact hr (by rw[hp,e]))).trans (h.block i hi hr)⟩
theorem zO1 {a b c:World} {r:Option Nat} {B:Nat} (h:Below B a b) (k:b.grownBy c r) (hB:B≤b.heap.size) (hr:∀g,r=some g→B≤g):Below B a c:=h.grown k hB hr
theorem yQ {w:World} {b i:Nat} {cs:Array Value} {e:TypeId} {z:Nat×Nat} (u:Value) (h:w.heap[b]? = some (.cells cs e z)):(w.setCell ⟨b,i,none⟩ u).heap[b]? = some (.cells (cs.setIfInBounds i u) e z):=by
 simp[World.setCell,Array.getElem?_modify,h]
theorem vA {w:World} {b:Nat} {a:Addr} {o:Obj} (u:Value) (h:w.heap[b]? = some o) (hne:b≠a.block):(w.setCell a u).heap[b]? = some o:=(Below.heap_setCell _ _ _ _ hne).trans h
theorem yD {w:World} {b:Nat} {o:Obj} (ob:Obj) (h:w.heap[b]? = some o):(w.alloc ob).heap[b]? = some o:=(Below.heap_alloc _ _ _ (qC h)).trans h
theorem zO2 (a b:Nat) (w:World) (ha:a≤1000000000) (hb:b≤1000000000):Calls Tryz.prog 215 #[.int .i64 (a:Int),.int .i64 (b:Int)] w fun e w'=>e = .returned (.int .i64 ((a:Int)+(b:Int)))∧w=w':=by
 have h1:¬(9223372036854775807-(b:Int))<(a:Int):=by omega
 go_enter Tryz.func215,Tryz.ntmps215
 go_wp2_with fail
 go_ret
 exact⟨rfl,rfl⟩
def Gg (w:World) (gb mb k:Nat):Prop:=w.heap[gb]? = some (.cells #[.int .i64 (k:Int),.map (some mb)] 203 (0,0))∧w.heap[mb]? = some (.map #[] 0)
theorem zUd (gb mb k:Nat) (v:Value) (x:Array Value) (w:World) (h:Gg w gb mb k) (hk:k≤65536) :
  Calls Tryz.prog 214 #[.pointer (some ⟨gb,0,none⟩),v,.agg x] w fun e w'=>e = .returned (.tuple #[])∧Below w.heap.size w w':=by
 have c0:=cell_of_row w gb 0 _ _ _ h.1;have h1:¬(65536:Int)<(k:Int):=by omega
 have hg:=qC h.1;clear h
 go_enter Tryz.func214,Tryz.ntmps214
 go_wp2_with fail;go_end0;exact⟨rfl,(Below.refl _ _).alloc (Nat.le_refl _) _⟩
theorem zMw (n:Nat) (v:Value) (w:World):(Instr.checkKey true (n+1) 24 v).run Tryz.prog w = .ok () w:=by
 rw[Instr.checkKey]
 simp[run_underlying Tryz.underlying24,Result.andThen]
theorem zRi {w:World} {mb:Nat} (v:Value) (h:w.heap[mb]? = some (.map #[] 0)) :
  (Instr.lookup 201 (.map (some mb)) v true).run Tryz.prog w = .ok (.tuple #[.agg #[.int .i64 0,.int .i64 0,.bool false],.bool false]) w:=by
 have hz:(zeroValue 181).run Tryz.prog w = .ok (.agg #[.int .i64 0,.int .i64 0,.bool false]) w:=by kernel_rfl
 have hc:=zMw 9999 v w;simp only[Nat.reduceAdd] at hc
 simp[Instr.lookup,run_underlying Tryz.underlying201,run_underlying Tryz.underlying24,MapKept.run_getObj_map h,hc,Instr.findKey,Instr.findNow,hz,Result.andThen]
def yWk (t:Tr) (gb mb k:Nat) (w:World) (e:Ending) (w':World):Prop:=e = .returned (.agg #[.int .i64 (szT t:Int),.int .i64 (dpT t:Int),.bool false])∧Gg w' gb mb (k+szT t)∧w.grownBy w' (some gb)
theorem Gg.grown {w w':World} {gb mb k:Nat} (h:Gg w gb mb k) (hb:Below w.heap.size w w'):Gg w' gb mb k:=⟨qS h.1 hb,qS h.2 hb⟩
theorem Gg.store {w:World} {gb mb k:Nat} {z:Int} {m:Nat} (h:Gg w gb mb k) (hne:mb≠gb) (hz:z=(m:Int)):Gg (w.setCell ⟨gb,0,none⟩ (.int .i64 z)) gb mb m:=by
 subst hz;exact⟨by rw[yQ _ h.1];rfl,vA _ h.2 hne⟩
theorem Gg.far {w:World} {gb mb k b i:Nat} (h:Gg w gb mb k) (u:Value) (h1:gb≠b) (h2:mb≠b):Gg (w.setCell ⟨b,i,none⟩ u) gb mb k:=⟨vA _ h.1 h1,vA _ h.2 h2⟩
theorem tQ {w w':World} {gb:Nat} (h:w.grownBy w' (some gb)) {p:Addr} {v:Value} (hc:w.cell? p=some v) (hne:p.block≠gb):w'.cell? p=some v:=h.cell hc fun e=>hne (by injection e)
theorem Kid.gb {w w':World} {S:Nat→Prop} {A:Option Addr} {r:Fr} {i gb:Nat} (h:Kid w S A r i) (hS:Bel S w.heap.size) (hg:¬S gb) (hw:w.grownBy w' (some gb)):Kid w' S A r i:=
 h.keep (fun _ h=>h) fun pp hp=>hw.block pp (hS _ hp) fun e=>by injection e with e;exact hg (by rw[←e];exact hp)
theorem kE {w w':World} {gb b:Nat} {o:Obj} (h:w.grownBy w' (some gb)) (hb:w.heap[b]? = some o) (hne:b≠gb):w'.heap[b]? = some o:=(h.block b (qC hb) fun e=>hne (by injection e)).trans hb
theorem tR {w:World} {b:Nat} {u v s:Value} {e:TypeId} {z:Nat×Nat} (h:w.heap[b]? = some (.cells #[u,v,s] e z)):w.cell? ⟨b,0,none⟩=some u:=cell_of_row w b 0 _ _ _ h
theorem tS {w:World} {b:Nat} {u v s:Value} {e:TypeId} {z:Nat×Nat} (h:w.heap[b]? = some (.cells #[u,v,s] e z)):w.cell? ⟨b,1,none⟩=some v:=cell_of_row w b 1 _ _ _ h
theorem tT {w:World} {b:Nat} {u v s:Value} {e:TypeId} {z:Nat×Nat} (h:w.heap[b]? = some (.cells #[u,v,s] e z)):w.cell? ⟨b,2,none⟩=some s:=cell_of_row w b 2 _ _ _ h
theorem set3 {w:World} {b:Nat} {u v s:Value} {e:TypeId} {z:Nat×Nat} (h:w.heap[b]? = some (.cells #[u,v,s] e z)) (u' v' s':Value):(((w.setCell ⟨b,0,none⟩ u').setCell ⟨b,1,none⟩ v').setCell ⟨b,2,none⟩ s').heap[b]? = some (.cells #[u',v',s'] e z):=by
 rw[yQ _ (yQ _ (yQ _ h))]
 rfl
theorem zHi:∀(n:Nat) (t:Tr),szT t≤n→n≤65536→∀(w:World) (Sq:Nat→Prop) (v:Value) (gb mb k:Nat),Bel Sq w.heap.size→¬Sq gb→InT w Sq v t→Gg w gb mb k→mb≠gb→k+szT t≤65536→
  Calls Tryz.prog 189 #[.pointer (some ⟨gb,0,none⟩),v] w (yWk t gb mb k w)
 | 0,t,h,_,_,_,_,_,_,_,_,_,_,_,_,_=>absurd h (by unfold szT;omega)
 | n+1,(x,ks),hn,hbig,w,Sq,v,gb,mb,k,hbel,hgS,hin,hgg,hmg,hk=>by
  have ih:=zHi n;obtain⟨q,p,A,c,rfl,hq1,c0,c1,c2,c3,c4,hc,hkid⟩:=hin.open;have hqw:=yL c4;have hqg:q≠gb:=fun e=>hgS (by rw[←e];exact hq1)
  have g0:=cell_of_row w gb 0 _ _ _ hgg.1;have g1:=cell_of_row w gb 1 _ _ _ hgg.1;have gf:=frozen_of_row w gb 0 _ _ hgg.1;have hgw:=qC hgg.1;have hmw:=qC hgg.2;have hlk:=fun W (hW:W.heap[mb]? = some (.map #[] 0))=>zRi (w:=W) (.pointer (some ⟨q,p,none⟩)) hW
  have hlk1:=hlk (w.alloc (.cells #[.int .i64 0,.int .i64 0,.bool false] 181)) (yD _ hgg.2);have HG:=Lib.hid hgg;clear hgg hlk
  go_enter Tryz.func189,Tryz.ntmps189
  go_wp2_with fail;obtain⟨H,hH⟩:∃H,w.heap.size=H:=⟨_,rfl⟩;have hsz:szT (x,ks)=1+ks.sz:=rfl;have hdp:dpT (x,ks)=1+ks.dp:=rfl;have hll:=Fr.len_le ks;obtain⟨W3,hW3⟩:∃W3,W3=((w.setCell ⟨gb,0,none⟩ (.int .i64 ((k:Int)+1))).alloc (.cells #[.int .i64 0,.int .i64 0,.bool false] 181)).alloc (.cells #[.int .i64 0,.int .i64 0,.bool false] 181):=⟨_,rfl⟩;have hs0:(w.setCell ⟨gb,0,none⟩ (.int .i64 ((k:Int)+1))).heap.size=H:=by simp[World.setCell,hH]
  have hgg3:Gg W3 gb mb (k+1):=by
   rw[hW3];have h1:=HG.out.store (m:=k+1) hmg (z:=(k:Int)+1) (by omega);exact⟨yD _ (yD _ h1.1),yD _ (yD _ h1.2)⟩
  have hR3:W3.heap[H]? = some (.cells #[.int .i64 0,.int .i64 0,.bool false] 181 (0,0)):=by
   rw[hW3,←hs0];exact yD _ (heap_alloc_new _ _)
  have hgb3:w.grownBy W3 (some gb):=by rw[hW3];exact gD (gD (mC (jF w _) _ _ (.inr rfl)) _) _
  have hs3:W3.heap.size=H+2:=by rw[hW3];simp;omega
  rw[←hW3];have HGG3:=Lib.hid hgg3;have cK1:=zUd gb mb (k+1) (.pointer (some ⟨q,p,none⟩)) #[.int .i64 9223372036854775807,.int .i64 9223372036854775807,.bool false] W3 hgg3 (by omega);clear hgg3 hW3;refine cK1.mono ?_;rintro e w1 ⟨rfl,hb1⟩;have hgg1:=HGG3.out.grown hb1;have hR1:=qS hR3 hb1;have hgb1:w.grownBy w1 (some gb):=yT hgb3 (kO hb1 (Nat.le_refl _));have hs1:=hb1.size;rw[hs3] at hs1;have c41:=tQ hgb1 c4 hqg;obtain⟨X,hX⟩:∃X,w1.heap.size=X:=⟨_,rfl⟩;rw[hX] at hs1;have hqX:q<w1.heap.size:=by omega
  obtain⟨N,hN⟩:∃N,ks.len=N:=⟨_,rfl⟩;rw[hN] at c41 hll;have hN1:N≤1000000:=by omega
  have HK:Hid (Kid (w1.alloc (.cells #[.int .i64 1,.int .i64 0,.bool false] 181)) Sq A ks 0):=Lib.hid (hkid.gb hbel hgS (gD hgb1 _));have HGG1:=Lib.hid hgg1;have HR1:=Lib.hid hR1;have HGB1:=Lib.hid hgb1;have HNN:=Lib.hid hN;have HSZ:=Lib.hid hsz;have HDP:=Lib.hid hdp;have HX:=Lib.hid hX;have HH:=Lib.hid hH;have HN0:=Lib.hid hn;have HIH:=Lib.hid ih;have HBEL:=Lib.hid hbel;have HGS:=Lib.hid hgS;clear hlk1 cK1 HGG3 hb1 hgb3 hR3 hgg1 hR1 hgb1 hN hsz hdp hX hkid hin c0 c1 c2 c3 c4 g0 g1 gf hs0 hs3 hH hn ih hbel hgS;go_wp2_with fail;have hXb:(w1.alloc (.cells #[.int .i64 1,.int .i64 0,.bool false] 181)).heap[X]? = some (.cells #[.int .i64 1,.int .i64 0,.bool false] 181 (0,0)):=by rw[←HX.out];exact heap_alloc_new w1 _
  have HXB:=Lib.hid hXb;rw[HX.out,HH.out];clear hXb
  go_loopw [9,10,42] (fun _ _ i wr=>∃(j:Nat) (done rest:Fr),i = .int .i64 j∧j=done.len∧ks=done.app rest∧Kid wr Sq A rest j∧Gg wr gb mb (k+1+done.sz)∧wr.heap[X]? = some (.cells #[.int .i64 ((1+done.sz:Nat):Int),.int .i64 (done.dp:Int),.bool false] 181 (0,0))∧
   wr.heap[H]? = some (.cells #[.int .i64 0,.int .i64 0,.bool false] 181 (0,0))∧w.grownBy wr (some gb)) (fun _ _ i _=>N-(intOf i).toNat)
  case atStart=>exact⟨0,.nil,ks,rfl,rfl,rfl,HK.out,HGG1.out.grown ((Below.refl _ _).alloc (Nat.le_refl _) _),HXB.out,yD _ HR1.out,gD HGB1.out _⟩
  case round=>
   obtain⟨j,done,rest,rfl,hj,hks,hkid,hgg,hxb,hrb,hgw⟩:=hrel;have hl:N=done.len+rest.len:=by rw[←HNN.out,hks,Fr.len_app]
   have hs:ks.sz=done.sz+rest.sz:=by rw[hks,Fr.sz_app]
   have hsz:=HSZ.out;have hn:=HN0.out;have hddp:=Fr.dp_le done;have hXr:=qC hxb;have hrw:=hgw.size;have HKS:=Lib.hid hks
   by_cases hlt:0<rest.len
   ·obtain⟨y,l,r,rfl⟩:=Fr.cut hlt
    obtain⟨kb,ko,u,rfl,hkb,hcell,hu,hnext⟩:=hkid.next;have hyl:szT (y,l)=1+l.sz:=rfl;have hyd:dpT (y,l)=1+l.dp:=rfl;have hld:=Fr.dp_le l;have hsr:(Fr.cons y l r).sz=1+l.sz+r.sz:=rfl;have hlr:(Fr.cons y l r).len=r.len+1:=rfl;have hbelr:Bel Sq wr.heap.size:=fun q' h'=>by have:=HBEL.out q' h';omega
    have cI:=HIH.out (y,l) (by omega) (by omega) wr Sq u gb mb (k+1+done.sz) hbelr HGS.out hu hgg hmg (by omega);have HNX:Hid (∀w2,wr.grownBy w2 (some gb)→Kid w2 Sq (some ⟨kb,ko,none⟩) r (j+1)):=Lib.hid fun w2 hw2=>hnext.gb hbelr HGS.out hw2
    have hjz:(j:Int)<(N:Int):=by omega
    obtain⟨Z,hZ⟩:∃Z,szT (y,l)=Z:=⟨_,rfl⟩;obtain⟨D,hD⟩:∃D,dpT (y,l)=D:=⟨_,rfl⟩;obtain⟨S,hS⟩:∃S,1+done.sz=S:=⟨_,rfl⟩;obtain⟨E,hE⟩:∃E,done.dp=E:=⟨_,rfl⟩;rw[hS,hE] at hxb;have hSb:S≤65536∧Z≤65536∧E≤65536∧D≤65536:=by omega
    have HSN:Hid (1+(done.app (.cons y l .nil)).sz=S+Z):=Lib.hid (by rw[Fr.sz_app];simp only[Fr.sz];omega);have HEN:Hid ((done.app (.cons y l .nil)).dp=max E D):=Lib.hid (by rw[Fr.dp_app];simp only[Fr.dp];omega);have HLN:Hid (j+1=(done.app (.cons y l .nil)).len):=Lib.hid (by rw[Fr.len_app];simp only[Fr.len];omega);have HKN:Hid (k+1+done.sz+szT (y,l)=k+1+(done.app (.cons y l .nil)).sz):=Lib.hid (by rw[Fr.sz_app];simp only[Fr.sz];omega);have HZ:=Lib.hid hZ;have HD:=Lib.hid hD;have HRB:=Lib.hid hrb;have HXBR:=Lib.hid hxb;have HGW:=Lib.hid hgw;have hXg:X≠gb:=by have:=HX.out;have:=HGB1.out.size;have:=HH.out;omega
    have hXm:X≠mb:=by have:=HX.out;have:=HGB1.out.size;have:=HH.out;omega
    have HHG:Hid (H≠gb):=Lib.hid (by have:=HH.out;omega);have cS:=fun W=>zO2 S Z W (by omega) (by omega)
    have hjN:j<N:=by omega
    clear hkid hnext hu hks hj hl hlr hsr hsz hyl hyd hld hZ hD hE hS hbelr hgg hgw hn hddp hxb hrb hs;go_wp2_with fail;refine cI.mono ?_;rintro e w2 ⟨rfl,hgg2,hgw2⟩;rw[HZ.out,HD.out];have HGG2:=Lib.hid hgg2;have HGW2:=Lib.hid hgw2;have hs2:=hgw2.size;have hx2:X<w2.heap.size:=by omega
    have hxb2:=kE hgw2 HXBR.out hXg;have HXB2:=Lib.hid hxb2;have cx0:=tR hxb2;have cx1:=tS hxb2;have cx2:=tT hxb2;have fx:=fun i=>frozen_of_row w2 X i _ _ hxb2
    have fx0:=fx 0;have fx1:=fx 1;have fx2:=fx 2;clear hgg2 hgw2 hxb2 fx;go_wp2_with fail;refine(cS _).mono ?_;rintro e w3 ⟨rfl,rfl⟩;go_wp2_with fail
    go_roundw
    case rel=>
     have hmx:max (E:Int) (D:Int)=(if E<D then (D:Int) else (E:Int)):=by split<;>omega
     try rw[hmx]
     clear hmx;have hset:=set3 HXB2.out (.int .i64 ((S:Int)+(Z:Int))) (.int .i64 (if E<D then (D:Int) else (E:Int))) (.bool false);have hgbw:w.grownBy ((((w2.setCell ⟨X,0,none⟩ (.int .i64 ((S:Int)+(Z:Int)))).setCell ⟨X,1,none⟩ (.int .i64 (if E<D then (D:Int) else (E:Int)))).setCell ⟨X,2,none⟩ (.bool false)).alloc (.cells #[.int .i64 (Z:Int),.int .i64 (D:Int),.bool false] 181)) (some gb):=by
      have hX':w.heap.size≤X:=by rw[HH.out];omega
      exact gD (mC (mC (mC (yT HGW.out HGW2.out) _ _ (.inl hX')) _ _ (.inl hX')) _ _ (.inl hX')) _
     refine⟨j+1,done.app (.cons y l .nil),r,by go_num,HLN.out,by rw[HKS.out,Fr.app_cons],?_,?_,?_,?_,hgbw⟩
     ·refine(HNX.out w2 HGW2.out).keep (fun _ h=>h) fun pp hp=>?_
      have hpw:pp<w.heap.size:=HBEL.out _ hp;have h1:=HH.out;rw[Below.heap_alloc _ _ _ (by simp[World.setCell];omega),Below.heap_setCell _ _ _ _ (by simp only;omega),Below.heap_setCell _ _ _ _ (by simp only;omega),Below.heap_setCell _ _ _ _ (by simp only;omega)]
     ·rw[←HKN.out]
      exact(((HGG2.out.far _ (Ne.symm hXg) (Ne.symm hXm)).far _ (Ne.symm hXg) (Ne.symm hXm)).far _ (Ne.symm hXg) (Ne.symm hXm)).grown ((Below.refl _ _).alloc (Nat.le_refl _) _)
     ·rw[HSN.out,HEN.out]
      have e1:((S+Z:Nat):Int)=(S:Int)+(Z:Int):=by omega
      have e2:((max E D:Nat):Int)=if E<D then (D:Int) else (E:Int):=by split<;>omega
      rw[e1,e2];exact yD _ hset
     ·have hHX:H≠X:=by omega
      exact yD _ (vA _ (vA _ (vA _ (kE HGW2.out HRB.out HHG.out) hHX) hHX) hHX)
    case measure=>simp[intOf];omega
   ·have h0:rest = .nil:=by
     cases rest with
     | nil=>rfl
     | cons y l r=>exact absurd (Nat.succ_pos _) hlt
    subst h0;have hjz:¬(j:Int)<(N:Int):=by have:(Fr.nil).len=0:=rfl;omega
    have hfin:ks=done:=by rw[hks,Fr.app_nil]
    obtain⟨S,hS⟩:∃S,1+done.sz=S:=⟨_,rfl⟩;obtain⟨D,hD⟩:∃D,done.dp=D:=⟨_,rfl⟩;have hsn:(Fr.nil).sz=0:=rfl;have hSb:S≤65536∧D≤65536∧k+S≤65536:=by omega
    rw[hS,hD] at hxb;have HSZ':Hid (szT (x,ks)=S):=Lib.hid (by omega);have HDP':Hid (dpT (x,ks)=D+1):=Lib.hid (by rw[HDP.out,hfin,hD];omega);have HGGR:Hid (Gg wr gb mb (k+S)):=Lib.hid (by rw[←hS];have e:k+(1+done.sz)=k+1+done.sz:=by omega
                                                                                                                                                                                            rw[e];exact hgg)
    have cx0:=tR hxb;have cx1:=tS hxb;have cx2:=tT hxb;have fx:=fun i=>frozen_of_row wr X i _ _ hxb
    have fx0:=fx 0;have fx1:=fx 1;have fx2:=fx 2;have HRB:=Lib.hid hrb;have HXBR:=Lib.hid hxb;have HGW:=Lib.hid hgw;have cS:=fun W=>zO2 D 1 W (by omega) (by omega)
    clear hkid hks hj hl hsz hS hD hn hddp hxb hrb hs hgg hgw hfin hsn fx;go_wp2_with fail;refine(cS _).mono ?_;rintro e w3 ⟨rfl,rfl⟩;go_wp2_with fail;have hggK:Gg (wr.setCell ⟨X,1,none⟩ (.int .i64 ((D:Int)+1))) gb mb (k+S):=HGGR.out.far _ (by have:=HX.out;have:=HGB1.out.size;have:=HH.out;omega) (by have:=HX.out;have:=HGB1.out.size;have:=HH.out;omega);have hxbK:(wr.setCell ⟨X,1,none⟩ (.int .i64 ((D:Int)+1))).heap[X]? = some (.cells #[.int .i64 (S:Int),.int .i64 ((D:Int)+1),.bool false] 181 (0,0)):=by
     rw[yQ _ HXBR.out]
     rfl
    have hrbK:(wr.setCell ⟨X,1,none⟩ (.int .i64 ((D:Int)+1))).heap[H]? = some (.cells #[.int .i64 0,.int .i64 0,.bool false] 181 (0,0)):=vA _ HRB.out (by simp only;omega);have hgwK:w.grownBy (wr.setCell ⟨X,1,none⟩ (.int .i64 ((D:Int)+1))) (some gb):=mC HGW.out _ _ (.inl (by rw[HH.out];simp only;omega));have cK:=zUd gb mb (k+S) (.pointer (some ⟨q,p,none⟩)) #[.int .i64 (S:Int),.int .i64 ((D:Int)+1),.bool false] _ hggK (by omega);have HGGK:=Lib.hid hggK;have HXBK:=Lib.hid hxbK;have HRBK:=Lib.hid hrbK;have HGWK:=Lib.hid hgwK;clear hggK hxbK hrbK hgwK;refine cK.mono ?_;rintro e w5 ⟨rfl,hb5⟩;have HB5:=Lib.hid hb5;have hxb5:=qS HXBK.out hb5;have hrb5:=qS HRBK.out hb5;have dx0:=tR hxb5;have dx1:=tS hxb5;have dx2:=tT hxb5;have dr0:=tR hrb5;have dr1:=tS hrb5;have dr2:=tT hrb5;have gx:=fun i=>frozen_of_row w5 H i _ _ hrb5
    have gx0:=gx 0;have gx1:=gx 1;have gx2:=gx 2;have hHX:H<X:=by omega
    clear cK cx0 cx1 cx2 fx0 fx1 fx2 hb5 hxb5 hrb5 gx;go_wp2_with fail;have hgwF:w.grownBy (((w5.setCell ⟨H,0,none⟩ (.int .i64 (S:Int))).setCell ⟨H,1,none⟩ (.int .i64 ((D:Int)+1))).setCell ⟨H,2,none⟩ (.bool false)) (some gb):=by
     have hX':w.heap.size≤H:=by rw[HH.out];omega
     exact mC (mC (mC (yT HGWK.out (kO HB5.out (Nat.le_refl _))) _ _ (.inl hX')) _ _ (.inl hX')) _ _ (.inl hX')
    have hHg:gb≠H:=by have:=HH.out;omega
    have hHm:mb≠H:=by have:=HH.out;omega
    have hggF:=(((HGGK.out.grown HB5.out).far (b:=H) (i:=0) (.int .i64 (S:Int)) hHg hHm).far (b:=H) (i:=1) (.int .i64 ((D:Int)+1)) hHg hHm).far (b:=H) (i:=2) (.bool false) hHg hHm;exact bodyPost_ret (v:=.agg #[.int .i64 (S:Int),.int .i64 ((D:Int)+1),.bool false]) (by simp[results,Tryz.results189,go_sem,dr0,dr1,dr2]) rfl ⟨by rw[HSZ'.out,HDP'.out];rfl,by rw[HSZ'.out];exact hggF,hgwF⟩
theorem yWl (gb:Nat) (w:World) :
  Calls Tryz.prog 189 #[.pointer (some ⟨gb,0,none⟩),.pointer none] w fun e w'=>e = .returned (.agg #[.int .i64 0,.int .i64 0,.bool true])∧Below w.heap.size w w':=by
 go_enter Tryz.func189,Tryz.ntmps189
 go_wp2_with fail;exact bodyPost_ret (v:=.agg #[.int .i64 0,.int .i64 0,.bool true]) (by simp[results,Tryz.results189,go_sem]) rfl ⟨rfl,((Below.refl _ _).alloc (Nat.le_refl _) _)⟩
def yWm (s d:Nat) (g:Bool) (w:World) (e:Ending) (w':World):Prop:=e = .returned (.agg #[.int .i64 (s:Int),.int .i64 (d:Int),.bool g])∧Below w.heap.size w w'
def yWn (n:Nat) (w:World) (e:Ending) (w':World):Prop:=e = .returned (.int .i64 (n:Int))∧Below w.heap.size w w'
theorem vZ (o:Option Tr) (w:World) (Sq:Nat→Prop) (v:Value) (hbel:Bel Sq w.heap.size) (hin:InO w Sq v o) (hsz:szO o≤65536) :
  Calls Tryz.prog 157 #[v] w (yWm (szO o) (dpO o) (o.isNone) w):=by
 have hmm:=@run_makeMap Tryz.prog;have three:=vY w (.cells #[.int .i64 0,.int .i64 0,.bool false] 181) (.map #[] 0) (.cells #[.int .i64 0,.map (some (w.heap.size+1))] 203) rfl;obtain⟨H,hH⟩:∃H,w.heap.size=H:=⟨_,rfl⟩;rw[hH] at three hbel;have HT:=Lib.hid three;have HH:=Lib.hid hH;clear three;obtain⟨S,hS⟩:∃S,szO o=S:=⟨_,rfl⟩;obtain⟨D,hD⟩:∃D,dpO o=D:=⟨_,rfl⟩;obtain⟨G,hG⟩:∃G,o.isNone=G:=⟨_,rfl⟩;have HS:=Lib.hid hS;have HD:=Lib.hid hD;have HG:=Lib.hid hG;have HBEL:=Lib.hid hbel;have HIN:=Lib.hid hin;rw[hS,hD,hG];clear hH hbel hin hS hD hG
 go_enter Tryz.func157,Tryz.ntmps157
 go_wp2_with fail;rw[HH.out];obtain⟨W,hW⟩:∃W,W=((w.alloc (.cells #[.int .i64 0,.int .i64 0,.bool false] 181)).alloc (.map #[] 0)).alloc (.cells #[.int .i64 0,.map (some (H+1))] 203):=⟨_,rfl⟩;have ht:=HT.out;rw[←hW] at ht ⊢;obtain⟨t1,t2,t3,hb1,hs1⟩:=ht;have hgg:Gg W (H+2) (H+1) 0:=⟨t3,t2⟩;have key:Calls Tryz.prog 189 #[.pointer (some ⟨H+1+1,0,none⟩),v] W fun e w'=>e = .returned (.agg #[.int .i64 (S:Int),.int .i64 (D:Int),.bool G])∧W.grownBy w' (some (H+2)):=by
  rw[←HS.out,←HD.out,←HG.out]
  cases o with
  | none=>
   have hv:v = .pointer none:=HIN.out;subst hv;refine(yWl (H+2) W).mono ?_;rintro e w' ⟨rfl,hb⟩;exact⟨rfl,kO hb (Nat.le_refl _)⟩
  | some t=>
   refine(zHi (szT t) t (Nat.le_refl _) hsz W Sq v (H+2) (H+1) 0 (fun q h=>by have:=HBEL.out q h;omega) (fun h=>by have:=HBEL.out _ h;omega) (InT.below HIN.out HBEL.out hb1) hgg (by omega) (by have:szO (some t)=szT t:=rfl;omega)).mono ?_;rintro e w' ⟨rfl,_,hb⟩;exact⟨rfl,hb⟩
 have HT1:=Lib.hid t1;have HB1:=Lib.hid hb1;have HHs:=Lib.hid hs1;clear t1 t2 t3 hgg hW hb1 hs1 HT;refine key.mono ?_;rintro e w1 ⟨rfl,hg1⟩;have hr1:=kE hg1 HT1.out (by omega);have dr0:=tR hr1;have dr1:=tS hr1;have dr2:=tT hr1;have gx:=fun i=>frozen_of_row w1 H i _ _ hr1
 have gx0:=gx 0;have gx1:=gx 1;have gx2:=gx 2;have HG1:=Lib.hid hg1;clear key hr1 gx hg1;go_wp2_with fail;have hbF:Below H w (((w1.setCell ⟨H,0,none⟩ (.int .i64 (S:Int))).setCell ⟨H,1,none⟩ (.int .i64 (D:Int))).setCell ⟨H,2,none⟩ (.bool G)):=
  (((zO1 HB1.out HG1.out (by have:=HHs.out;omega) (fun g hg=>by injection hg with hg;omega)).setCell (Nat.le_refl _) _).setCell (Nat.le_refl _) _).setCell (Nat.le_refl _) _
 exact bodyPost_ret (v:=.agg #[.int .i64 (S:Int),.int .i64 (D:Int),.bool G]) (by simp[results,Tryz.results157,go_sem,dr0,dr1,dr2]) rfl ⟨rfl,by rw[HH.out];exact hbF⟩
theorem yWo (a b g:Value) (w:World):(Instr.field 181 (.agg #[a,b,g]) 1).run Tryz.prog w=(.ok b w:Result Value):=by kernel_rfl
theorem yWp (o:Option Tr) (w:World) (Sq:Nat→Prop) (v:Value) (hbel:Bel Sq w.heap.size) (hin:InO w Sq v o) (hsz:szO o≤65536) :
  Calls Tryz.prog 101 #[v] w (yWn (dpO o) w):=by
 have cM:=vZ o w Sq v hbel hin hsz;obtain⟨S,hS⟩:∃S,szO o=S:=⟨_,rfl⟩;obtain⟨D,hD⟩:∃D,dpO o=D:=⟨_,rfl⟩;obtain⟨G,hG⟩:∃G,o.isNone=G:=⟨_,rfl⟩;rw[hS,hD,hG] at cM;rw[hD];clear hbel hin hS hD hG
 go_enter Tryz.func101,Tryz.ntmps101
 go_wp2_with fail;refine cM.mono ?_;rintro e w1 ⟨rfl,hb⟩;have hf:=yWo (.int .i64 (S:Int)) (.int .i64 (D:Int)) (.bool G) w1;go_wp2_with fail
 go_ret
 exact⟨rfl,hb⟩
theorem addAt (b o j:Nat):(⟨b,o,none⟩:Addr).add j=⟨b,o+j,none⟩:=by unfold Addr.add;split<;>simp_all
theorem zUe (w:World) (a:Addr):(binOp .eql 24 (.pointer (some a)) (.pointer none)).run Tryz.prog w = .ok (.bool false) w:=by
 have h:∀d:Nat,(Op.equalIn (d+1) 24 (.pointer (some a)) (.pointer none)).run Tryz.prog w = .ok false w:=fun d=>by simp[Op.equalIn,run_underlying Tryz.underlying24]
 simp only[binOp]
 simp[Op.equal,Op.maxDepth,h 9999]
theorem InF.vals {w:World} {S:Nat→Prop}:∀{f:Fr} {b o:Nat},InF w S f b o→∃us,PtF w S us f∧∀(j:Nat) u,us[j]? = some u→w.cell? ⟨b,o+j,none⟩=some u
 | .nil,b,o,_=>⟨[],trivial,fun j u h=>by simp at h⟩
 | .cons x k r,b,o,⟨⟨v,hv,hn⟩,hr⟩=>by
  obtain⟨us,h1,h2⟩:=InF.vals (f:=r) hr;refine⟨v::us,⟨hn,h1⟩,fun j u hu=>?_⟩
  cases j with
  | zero=>simp at hu;subst hu;exact hv
  | succ j=>
   have:=h2 j u (by simpa using hu);rw[show o+(j+1)=o+1+j by omega];exact this
theorem Kid.vals {w:World} {S:Nat→Prop} {A:Option Addr} {f:Fr} (h:Kid w S A f 0) (hS:Bel S w.heap.size):∃us,PtF w S us f∧(0<f.len→∃b o,A=some ⟨b,o,none⟩∧b<w.heap.size∧∀(j:Nat) u,us[j]? = some u→w.cell? ⟨b,o+j,none⟩=some u):=by
 rcases Nat.eq_zero_or_pos f.len with h0 | h0
 ·have:f = .nil:=by
   cases f with
   | nil=>rfl
   | cons x k r=>simp[Fr.len] at h0
  subst this;exact⟨[],trivial,fun h=>by omega⟩
 ·obtain⟨kb,ko,hA,h1,h2⟩:=h h0
  obtain⟨us,h3,h4⟩:=InF.vals h2;exact⟨us,h3,fun _=>⟨kb,ko,hA,hS _ h1,h4⟩⟩
theorem dB {w:World} {base:Nat} {e:TypeId} {v:Value} {n:Nat} {xs:List Value} (h:w.ownsRow base e 1 v n xs):∃A c,v = .slice A n c:=by
 rcases h.2 with ⟨h1,h2⟩ | ⟨g,cap,cur,h1,_⟩
 ·exact⟨none,0,by rw[h1,h2]⟩
 ·exact⟨_,_,h1⟩
def Sx (H:Nat) (w:World) (vo vk:Value) (q:Nat):Prop:=H<q∧q<w.heap.size∧vo.ownBlock≠some q∧vk.ownBlock≠some q
def CeRel (w:World) (H:Nat) (x:Nod) (vo vk:Value) (cs:List Cel) (rs:List Int) (wr:World):Prop:=
 ∃vs,wr.ownsRow (H+1) 78 5 vo cs.length (flat cs vs)∧CsF wr (Sx H wr vo vk) vs cs∧wr.ownsRow (H+1) 3 1 vk rs.length (ints rs)∧
  wr.heap[H]? = some (.cells #[.int .i64 x.k,.int .i64 x.n,.string x.a,.string x.m,vk] 78 (0,0))∧Below H w wr∧(∀g,vo.ownBlock=some g→vk.ownBlock≠some g)
theorem zZx (l:List Int) (z:Int):ints (l++[z])=ints l++[.int .i64 z]:=by simp[ints]
theorem CeRel.step {w wr w2 w4 w6:World} {H m cap2 g2:Nat} {x:Nod} {vo vk v4 v6:Value} {cs ds:List Cel} {rs:List Int} {z:Int} {vs vs2:List Value} {ob:Obj}
  (ho:wr.ownsRow (H+1) 78 5 vo cs.length (flat cs vs)) (hf:CsF wr (Sx H wr vo vk) vs cs) (hk:wr.ownsRow (H+1) 3 1 vk rs.length (ints rs))
  (hc:wr.heap[H]? = some (.cells #[.int .i64 x.k,.int .i64 x.n,.string x.a,.string x.m,vk] 78 (0,0))) (hbw:Below H w wr) (hap:∀g,vo.ownBlock=some g→vk.ownBlock≠some g)
  (hb2:Below wr.heap.size wr w2) (hf2:CsF w2 (So wr.heap.size w2 (.slice (some ⟨g2,0,none⟩) m cap2)) vs2 ds)
  (ho4:w4.ownsRow (H+1) 78 5 v4 (cs.length+ds.length) (flat cs vs++flat ds vs2)) (hg4:w2.grownBy w4 vo.ownBlock) (hat4:v4.ownBlock=vo.ownBlock∨v4.ownBlock=some w2.heap.size)
  (ho6:w6.ownsRow (H+1) 3 1 v6 (rs.length+1) (ints rs++[.int .i64 z])) (hg6:(w4.alloc ob).grownBy w6 vk.ownBlock) (hat6:v6.ownBlock=vk.ownBlock∨v6.ownBlock=some (w4.heap.size+1)) :
  CeRel w H x v4 v6 (cs++ds) (rs++[z]) (w6.setCell ⟨H,4,none⟩ v6):=by
 have hHr:=qC hc;have hs2:=hb2.size;have hs4:=hg4.size;have hsa:(w4.alloc ob).heap.size=w4.heap.size+1:=by simp
 have hs6:=hg6.size;have hsz7:(w6.setCell ⟨H,4,none⟩ v6).heap.size=w6.heap.size:=by simp[World.setCell]
 have hol:=ho.lt;have hkl:=hk.lt;have h4l:=ho4.lt;have h6l:=ho6.lt;have hst:∀b,b<w2.heap.size→b≠H→vo.ownBlock≠some b→vk.ownBlock≠some b→(w6.setCell ⟨H,4,none⟩ v6).heap[b]? = w2.heap[b]?:=by
  intro b h1 h2 h3 h4;rw[Below.heap_setCell _ _ _ _ h2,hg6.block b (by omega) (fun e=>h4 e.symm),Below.heap_alloc _ _ _ (by omega),hg4.block b h1 (fun e=>h3 e.symm)]
 have hS:∀q,H<q→q<w2.heap.size→vo.ownBlock≠some q→vk.ownBlock≠some q→Sx H (w6.setCell ⟨H,4,none⟩ v6) v4 v6 q:=by
  intro q h1 h2 h3 h4;refine⟨h1,by omega,?_,?_⟩
  ·rcases hat4 with h | h
   ·rw[h];exact h3
   ·rw[h];intro e;injection e with e;omega
  ·rcases hat6 with h | h
   ·rw[h];exact h4
   ·rw[h];intro e;injection e with e;omega
 have hap4:∀g,v4.ownBlock=some g→vk.ownBlock≠some g:=by
  intro g hg
  rcases hat4 with h | h
  ·exact hap g (by rw[←h];exact hg)
  ·rw[h] at hg
   injection hg with hg;intro e;have:=(hkl g e).2;omega
 refine⟨vs++vs2,?_,?_,?_,?_,?_,?_⟩
 ·rw[List.length_append,nC ds vs2 hf.len]
  have h1:w6.ownsRow (H+1) 78 5 v4 (cs.length+ds.length) (flat cs vs++flat ds vs2):=(ho4.alloc ob).kept hg6 (by
   cases hv:v4.ownBlock with
   | none=>exact .inl rfl
   | some g=>exact .inr fun e=>hap4 g hv e.symm)
  exact zC h1 _ _ fun g hg=>by have:=(h4l g hg).1;simp only;omega
 ·refine CsF.app (hf.keep (fun q h=>hS q h.1 (by have:=h.2.1;omega) h.2.2.1 h.2.2.2) fun b h=>?_) (hf2.keep (fun q h=>?_) fun b h=>?_)
  ·rw[hst b (by have:=h.2.1;omega) (by have:=h.1;omega) h.2.2.1 h.2.2.2]
   exact hb2.block b h.2.1
  ·exact hS q (by have:=h.1;omega) h.2.1 (fun e=>by have:=(hol q e).2;have:=h.1;omega) (fun e=>by have:=(hkl q e).2;have:=h.1;omega)
  ·exact hst b h.2.1 (by have:=h.1;omega) (fun e=>by have:=(hol b e).2;have:=h.1;omega) (fun e=>by have:=(hkl b e).2;have:=h.1;omega)
 ·rw[zZx,List.length_append]
  exact zC ho6 _ _ fun g hg=>by have:=(h6l g hg).1;simp only;omega
 ·have h1:w6.heap[H]? = some (.cells #[.int .i64 x.k,.int .i64 x.n,.string x.a,.string x.m,vk] 78 (0,0)):=by
   rw[hg6.block H (by omega) (fun e=>by have:=(hkl H e.symm).1;omega),Below.heap_alloc _ _ _ (by omega),hg4.block H (by omega) (fun e=>by have:=(hol H e.symm).1;omega),hb2.block H hHr];exact hc
  rw[yQ _ h1]
  rfl
 ·have h1:=(hbw.trans (hb2.mono (by omega))).grown hg4 (by omega) (fun g hg=>by have:=(hol g hg).1;omega)
  exact((h1.alloc (by omega) ob).grown hg6 (by omega) (fun g hg=>by have:=(hkl g hg).1;omega)).setCell (Nat.le_refl _) _
 ·intro g hg e
  rcases hat6 with h | h
  ·exact hap4 g hg (by rw[←h];exact e)
  ·rw[h] at e
   injection e with e;have:=(h4l g hg).2;omega
theorem zZy (a:Fr) (y:Nod) (l:Fr) (f:Nat):celF (a.app (.cons y l .nil)) f=((celF a f).1++celT (y,l) (f+a.sz),(celF a f).2++[((f+a.sz+l.sz:Nat):Int)]):=by
 rw[zHh];have e:celF (.cons y l .nil) (f+a.sz)=(celT (y,l) (f+a.sz),[((f+a.sz+l.sz:Nat):Int)]):=by
  simp[celF,celT,(wO l (f+a.sz)).1]
 rw[e]
theorem jB {w:World} {base:Nat} {e:TypeId} {v:Value} {n:Nat} {xs:List Value} (h:w.ownsRow base e 5 v n xs):∃A c,v = .slice A n c:=by
 rcases h.2 with ⟨h1,h2⟩ | ⟨g,cap,cur,h1,_⟩
 ·exact⟨none,0,by rw[h1,h2]⟩
 ·exact⟨_,_,h1⟩
theorem zHj {vo vk:Value} (h:∀g,vo.ownBlock=some g→vk.ownBlock≠some g):vk.ownBlock=none∨vk.ownBlock≠vo.ownBlock:=by
 cases hv:vk.ownBlock with
 | none=>exact .inl rfl
 | some g=>exact .inr fun e=>h g e.symm hv
theorem dC {w:World} {B:Nat} {a b c d v:Value} {t:TypeId} {z:Nat×Nat} (hb:w.heap[B]? = some (.cells #[a,b,c,d,v] t z)):∀j u,[a,b,c,d,v][j]? = some u→w.cell? ((⟨B,0,none⟩:Addr).add j)=some u:=fun j u hu=>by
 rw[addAt,Nat.zero_add,cell_of_row w B j _ t z hb]
 simpa using hu
theorem oA {a b:Int} {s t:ByteArray} {v:Value} (h:v.oneCell'=true):∀u∈[Value.int .i64 a,.int .i64 b,.string s,.string t,v],u.oneCell'=true:=by
 intro u hu;simp only[List.mem_cons,List.not_mem_nil,or_false] at hu
 rcases hu with rfl | rfl | rfl | rfl | rfl
 ·rfl
 ·rfl
 ·rfl
 ·rfl
 ·exact h
theorem zUf:∀(n:Nat) (t:Tr),szT t≤n→n≤100000→∀(f:Nat),f+szT t≤100000000→∀(w:World) (Sq:Nat→Prop) (v:Value),Bel Sq w.heap.size→InT w Sq v t→
  Calls Tryz.prog 142 #[v,.int .i64 (f:Int)] w (yWj (celT t f) w)
 | 0,t,h,_,_,_,_,_,_,_,_=>absurd h (by unfold szT;omega)
 | n+1,(x,ks),hn,hbig,f,hf,w,Sq,v,hS,hin=>by
  have ih:=zUf n;obtain⟨q,p,A,c,rfl,hq1,c0,c1,c2,c3,c4,hc,hkid⟩:=hin.open;have hqw:=hS q hq1;have hsz:szT (x,ks)=1+ks.sz:=rfl;have hll:=Fr.len_le ks;obtain⟨N,hN⟩:∃N,ks.len=N:=⟨_,rfl⟩;rw[hN] at c4 hll;have hN1:N≤100000:=by omega
  obtain⟨H,hH⟩:∃H,w.heap.size=H:=⟨_,rfl⟩;have HK:=Lib.hid hkid;have HIH:=Lib.hid ih;have HB:=Lib.hid hS;have HNN:=Lib.hid hN;have HSZ:=Lib.hid hsz;have HN0:=Lib.hid hn;have HH:=Lib.hid hH;clear hkid hin ih hS hN hsz hn hH hc;obtain⟨i0,hi,hz0,hz1,hz2⟩:=info_parts aZ;obtain⟨j0,hj,hy0,hy1,hy2⟩:=info_parts infoI
  go_enter Tryz.func142,Tryz.ntmps142
  go_wp2_with fail
  go_region_held3 (fun w'=>w'.cell? ⟨q,p,none⟩=some (.int .i64 x.k)∧w'.cell? ⟨q,p+1,none⟩=some (.int .i64 x.n)∧w'.cell? ⟨q,p+2,none⟩=some (.string x.a)∧w'.cell? ⟨q,p+3,none⟩=some (.string x.m)) (go_keep) (fail)
  have hb1:Below H w ((w.alloc (.cells #[.int .i64 x.k,.int .i64 x.n,.string x.a,.string x.m,.slice none 0 0] 78)).drew):=qD ((Below.refl H w).alloc (by rw[HH.out];exact Nat.le_refl _) _) 1;have hn1:((w.alloc (.cells #[.int .i64 x.k,.int .i64 x.n,.string x.a,.string x.m,.slice none 0 0] 78)).drew).heap[H]? = some (.cells #[.int .i64 x.k,.int .i64 x.n,.string x.a,.string x.m,.slice none 0 0] 78 (0,0)):=by rw[←HH.out];exact heap_alloc_new w _
  rw[HH.out]
  generalize (w.alloc (.cells #[.int .i64 x.k,.int .i64 x.n,.string x.a,.string x.m,.slice none 0 0] 78)).drew=W1 at hb1 hn1 ⊢
  have hini:CeRel w H x (.slice none 0 0) (.slice none 0 0) (celF .nil f).1 (celF .nil f).2 W1:=⟨[],World.ownsRow_nil _ _ _ _,trivial,World.ownsRow_nil _ _ _ _,hn1,hb1,by intro g hg;simp[Value.ownBlock] at hg⟩;have HINI:=Lib.hid hini;have HB1:=Lib.hid hb1;clear hini hb1 hn1 c0 c1 c2 c3;go_wp2_with fail
  go_loopw [5,7] (fun vo i wr=>∃(j:Nat) (done rest:Fr) (vk:Value),i = .int .i64 j∧j=done.len∧ks=done.app rest∧Kid wr Sq A rest j∧CeRel w H x vo vk (celF done f).1 (celF done f).2 wr) (fun _ i _=>N-(intOf i).toNat)
  case atStart=>exact⟨0,.nil,ks,.slice none 0 0,rfl,rfl,rfl,HK.out.keep (fun _ h=>h) fun b hb=>HB1.out.block b (by have:=HB.out b hb;rw[HH.out] at this;exact this),HINI.out⟩
  case round=>
   obtain⟨j,done,rest,vk,rfl,hj,hks,hkid,vs,ho,hfl,hk,hcb,hbw,hap⟩:=hrel;have hl:N=done.len+rest.len:=by rw[←HNN.out,hks,Fr.len_app]
   have hss:ks.sz=done.sz+rest.sz:=by rw[hks,Fr.sz_app]
   have hsz:=HSZ.out;have hn:=HN0.out;have hCS:=(wO done f).1;have hRS:=(wO done f).2;have hHr:=qC hcb;have c4r:=(hbw.cell (p:=⟨q,p+4,none⟩) (by rw[←HH.out];exact hqw)).trans c4;have hqr:q<wr.heap.size:=by have:=HH.out;omega
   have hbr:Bel Sq wr.heap.size:=fun q' h=>by have:=HB.out q' h;have:=HH.out;omega
   have hSH:Bel Sq H:=fun q' h=>by have:=HB.out q' h;rw[HH.out] at this;exact this
   obtain⟨D,hD⟩:∃D,done.sz=D:=⟨_,rfl⟩;have HSN:=Lib.hid (zZy done · · f);obtain⟨CS,hCSe⟩:∃CS,(celF done f).1=CS:=⟨_,rfl⟩;obtain⟨RS,hRSe⟩:∃RS,(celF done f).2=RS:=⟨_,rfl⟩;have HKS:=Lib.hid hks;have HCSE:=Lib.hid hCSe;have HRSE:=Lib.hid hRSe;rw[hCSe,hD] at hCS;rw[hRSe,←hj] at hRS;rw[hCSe] at ho hfl;rw[hRSe] at hk;have HO:=Lib.hid ho;have HF:=Lib.hid hfl;have HKR:=Lib.hid hk;have HCB:=Lib.hid hcb;have HBW:=Lib.hid hbw;have HAP:=Lib.hid hap;have ho':=ho;rw[hCS] at ho';have hk':=hk;rw[hRS] at hk';have HO':=Lib.hid ho';have HK':=Lib.hid hk';have HCS:=Lib.hid hCS;have HRS:=Lib.hid hRS;obtain⟨OA,OC,rfl⟩:=jB ho'
   by_cases hlt:0<rest.len
   ·obtain⟨y,l,r,rfl⟩:=Fr.cut hlt
    obtain⟨kb,ko,u,rfl,hkb,hcell,hu,hnext⟩:=hkid.next;have hyl:szT (y,l)=1+l.sz:=rfl;have hsr:(Fr.cons y l r).sz=1+l.sz+r.sz:=rfl;have hlr:(Fr.cons y l r).len=r.len+1:=rfl;have hjN:j<N:=by omega
    have hjz:(j:Int)<(N:Int):=by omega
    have hDb:D≤100000∧l.sz≤100000:=by omega
    have hkbr:kb<wr.heap.size:=hbr kb hkb;have cI:=HIH.out (y,l) (by omega) (by omega) (f+D) (by omega) wr Sq u hbr hu;have e1:((f+D:Nat):Int)=(f:Int)+(D:Int):=by omega
    rw[e1] at cI;have hDS:=zHg (y,l) (f+D);obtain⟨DS,hDSe⟩:∃DS,celT (y,l) (f+D)=DS:=⟨_,rfl⟩;obtain⟨m,hm⟩:∃m,szT (y,l)=m:=⟨_,rfl⟩;rw[hDSe] at cI hDS;rw[hm] at hDS hyl;have hmb:0<m∧m≤100001:=by omega
    have HDS:=Lib.hid hDS;have HDSE:=Lib.hid hDSe;have HD:=Lib.hid hD;have HM:=Lib.hid hyl;have HN:=Lib.hid hnext;have HSH:=Lib.hid hSH;have HLN:Hid (j+1=(done.app (.cons y l .nil)).len):=Lib.hid (by rw[Fr.len_app];simp only[Fr.len];omega);clear hkid hks hj hl hss hsz hn hCS hRS hCSe hRSe ho hfl hk hcb hbw hap ho' hk' hu hnext hsr hlr hyl e1 hDS hDSe hm hD hbr hSH;go_wp2_with fail;refine cI.mono ?_;rintro e w2 ⟨v2,rfl,⟨vs2,ho2,hf2⟩,hb2⟩;rw[HDS.out] at ho2;obtain⟨g2,cap2,rfl,hg2a,hg2b⟩:=ho2.form hmb.1;have hs2:=hb2.size;have HO2:=Lib.hid ho2;have HF2:=Lib.hid hf2;have HB2:=Lib.hid hb2;have HO3:=Lib.hid (yC HO'.out hb2);have HK3:=Lib.hid (yC HK'.out hb2);have HC3:=Lib.hid (qS HCB.out hb2);have hcells:∀i u,(flat DS vs2)[i]? = some u→w2.cell? ((⟨g2,0,none⟩:Addr).add i)=some u:=fun i u hu=>ho2.cells (g:=g2) rfl i u hu
    have HCE:=Lib.hid hcells;clear ho2 hf2 hb2 hcells cI
    go_wp2_with (at_builtin;first
     | (refine wpList_append_own_at _ rfl _ _ 36 rfl (H+1) 78 i0 _ 5 72 Tryz.underlying36 hi hz0 hz1 hz2 rfl (by decide) (.slice OA D OC) D (flat CS vs) rfl HO3.out ⟨g2,0,none⟩ m cap2 (flat DS vs2) rfl (by rw[zUc HF2.out.len,HDS.out]) HCE.out HF2.out.one (by unfold maxLen;omega) (by omega) (by omega) ?_;intro v4 w4 hown4 hgrow4 _ hat4;obtain⟨A4,C4,hv4⟩:=jB hown4;subst hv4;have HOWN4:=Lib.hid hown4;have HG4:=Lib.hid hgrow4;have HAT4:=Lib.hid hat4;have hcb4:=(hgrow4.block H (by omega) (fun e=>by have:=(HO'.out.lt H e.symm).1;omega)).trans HC3.out;have k4:=cell_of_row w4 H 4 _ _ _ hcb4;have k4:w4.cell? ⟨H,4,none⟩=some vk:=k4;have f4:=frozen_of_row w4 H 4 _ _ hcb4;have hH4:=qC hcb4;have HK4:=Lib.hid (HK3.out.kept hgrow4 (zHj HAP.out));clear hown4 hgrow4 hat4 hcb4)
     | (refine wpList_append_own_at _ rfl _ _ 76 rfl (H+1) 3 j0 _ 1 8 Tryz.underlying76 hj hy0 hy1 hy2 rfl (by decide) vk j (ints RS) rfl (HK4.out.alloc _) ⟨w4.heap.size,0,none⟩ 1 1 [_] rfl rfl (cell_one_new _ _ _) (fun x hx=>by simp at hx;subst hx;rfl) (by unfold maxLen;omega) (by omega) (by simp;omega) ?_;intro v6 w6 hown6 hgrow6 _ hat6;obtain⟨A6,C6,hv6⟩:=dB hown6;subst hv6;have HOWN6:=Lib.hid hown6;have HG6:=Lib.hid hgrow6;have HAT6:=Lib.hid hat6;have k6:=(hgrow6.cell_far ⟨H,4,none⟩ (by simp;omega) (fun e=>by have:=(HK4.out.lt H e.symm).1;omega)).trans (((Below.refl w4.heap.size w4).alloc (Nat.le_refl _) _).cell (p:=⟨H,4,none⟩) hH4);have f6:=(hgrow6.frozen_far ⟨H,4,none⟩ (by simp;omega) (fun e=>by have:=(HK4.out.lt H e.symm).1;omega)).trans (((Below.refl w4.heap.size w4).alloc (Nat.le_refl _) _).frozen (p:=⟨H,4,none⟩) hH4);have k6:=k6.trans k4;have f6:=f6.trans f4;clear hown6 hgrow6 hat6))
    go_roundw
    case rel=>
     have hstep:=CeRel.step HO.out HF.out HKR.out HCB.out HBW.out HAP.out HB2.out HF2.out (by rw[HCS.out,HDS.out];exact HOWN4.out) HG4.out HAT4.out (by rw[HRS.out];exact HOWN6.out) HG6.out (by have:=HAT6.out;simpa using this);refine⟨j+1,done.app (.cons y l .nil),r,.slice A6 (j+1) C6,by go_num,HLN.out,by rw[HKS.out,Fr.app_cons],HN.out.keep (fun _ h=>h) fun b hb=>?_,?_⟩
     ·have hbH:=HSH.out b hb
      obtain⟨_,_,_,_,_,hb7,_⟩:=hstep;exact(hb7.block b hbH).trans (HBW.out.block b hbH).symm
     ·have hz:((f+D+l.sz:Nat):Int)=(f:Int)+((D:Int)+(m:Int))-1:=by have:=HM.out;omega
      rw[HSN.out y l,HCSE.out,HRSE.out,HD.out,HDSE.out,hz];exact hstep
    case measure=>simp[intOf];omega
   ·have h0:rest = .nil:=by
     cases rest with
     | nil=>rfl
     | cons y l r=>exact absurd (Nat.succ_pos _) hlt
    subst h0;have hjz:¬(j:Int)<(N:Int):=by have:(Fr.nil).len=0:=rfl;omega
    have hfin:done=ks:=by rw[hks,Fr.app_nil]
    have d0:=cell_of_row wr H 0 _ _ _ hcb;have d1:=cell_of_row wr H 1 _ _ _ hcb;have d2:=cell_of_row wr H 2 _ _ _ hcb;have d3:=cell_of_row wr H 3 _ _ _ hcb;have d4:=cell_of_row wr H 4 _ _ _ hcb;have d0:wr.cell? ⟨H,0,none⟩=some (.int .i64 x.k):=d0;have d1:wr.cell? ⟨H,1,none⟩=some (.int .i64 x.n):=d1;have d2:wr.cell? ⟨H,2,none⟩=some (.string x.a):=d2;have d3:wr.cell? ⟨H,3,none⟩=some (.string x.m):=d3;have d4:wr.cell? ⟨H,4,none⟩=some vk:=d4;have hDb:D≤100000:=by omega
    have HFIN:=Lib.hid hfin;have hvks:=SpS.own (S:=fun _=>True) hk fun _ _=>trivial
    have HVK1:=Lib.hid hvks.one;clear hkid hks hj hl hss hsz hn hCS hRS hCSe hRSe ho hfl hk hcb hbw hap ho' hk' hD hbr hfin hvks
    go_wp2_with (at_builtin;(refine wpList_append_own_at _ rfl _ _ 36 rfl (H+1) 78 i0 _ 5 72 Tryz.underlying36 hi hz0 hz1 hz2 rfl (by decide) (.slice OA D OC) D (flat CS vs) rfl (HO'.out.alloc _) ⟨wr.heap.size,0,none⟩ 1 1 [.int .i64 x.k,.int .i64 x.n,.string x.a,.string x.m,vk] rfl rfl (dC (heap_alloc_new wr _)) (fun u hu=>oA HVK1.out u hu) (by unfold maxLen;omega) (by omega) (by simp;omega) ?_);intro v4 w4 hown4 hgrow4 _ hat4;have HOWN4:=Lib.hid hown4;have HG4:=Lib.hid hgrow4;have HAT4:=Lib.hid hat4;clear hown4 hgrow4 hat4)
    go_ret
    have hfull:celT (x,ks) f=CS++[⟨x,RS⟩]:=by
     unfold celT;simp only;rw[←HFIN.out,HCSE.out,HRSE.out]
    rw[hfull];have hsa:(wr.alloc (.cells #[.int .i64 x.k,.int .i64 x.n,.string x.a,.string x.m,vk] 78)).heap.size=wr.heap.size+1:=by simp
    have hg:=HG4.out;have hat:=HAT4.out;have hs4:=hg.size;have hst:∀b,b<wr.heap.size→(Value.slice OA D OC).ownBlock≠some b→w4.heap[b]? = wr.heap[b]?:=fun b h1 h2=>by
     rw[hg.block b (by omega) (fun e=>h2 e.symm),Below.heap_alloc _ _ _ h1]
    refine⟨_,rfl,⟨vs++[vk],?_,?_⟩,?_⟩
    ·rw[nC _ _ HF.out.len,List.length_append,HCS.out]
     exact HOWN4.out.mono (by have:=HH.out;omega)
    ·have hS:∀q',H<q'→q'<wr.heap.size→(Value.slice OA D OC).ownBlock≠some q'→So w.heap.size w4 v4 q':=by
      intro q' h1 h2 h3;refine⟨by have:=HH.out;omega,by omega,?_⟩
      rcases hat with h | h
      ·rw[h];exact h3
      ·rw[h,hsa];intro e;injection e with e;omega
     refine CsF.app (HF.out.keep (fun q' h=>hS q' h.1 h.2.1 h.2.2.1) fun b h=>hst b h.2.1 h.2.2.1) ⟨?_,trivial⟩;have hkl:=HKR.out.lt;refine(SpS.own (S:=fun q'=>vk.ownBlock=some q') HKR.out fun g hg=>hg).keep (fun q' h=>hS q' (by have:=(hkl q' h).1;omega) (hkl q' h).2 fun e=>HAP.out q' e h) fun b h=>hst b (hkl b h).2 fun e=>HAP.out b e h
    ·rw[HH.out]
     exact(HBW.out.alloc (by omega) _).grown hg (by rw[hsa];omega) (fun g hg=>by have:=(HO'.out.lt g hg).1;omega)
def zHk (cs:List Cel) (z:Int) (W:World) (e:Ending) (w':World):Prop:=∃v,e = .returned (.tuple #[.agg #[v],.int .i64 z])∧Cls w' w'.heap.size v cs∧Below W.heap.size W w'
theorem zBp (t:Tr) (hsz:szT t≤8192) (w:World) (Sq:Nat→Prop) (v:Value) (hS:Bel Sq w.heap.size) (hin:InT w Sq v t) :
  Calls Tryz.prog 79 #[v] w (zHk (celT t 0) 0 w):=by
 have hb:=(Below.refl w.heap.size w).alloc (Nat.le_refl _) (.cells #[.slice none 0 0] 38);have hs:(w.alloc (.cells #[.slice none 0 0] 38)).heap.size=w.heap.size+1:=by simp
 have hin1:=hin.below hS hb;have c1:=zXt (szT t) t (Nat.le_refl _) (by omega) _ Sq v hin1;have c2:=zXs (szT t) t (Nat.le_refl _) (by omega) _ Sq v hin1;have c3:=zUf (szT t) t (Nat.le_refl _) (by omega) 0 (by omega) _ Sq v (fun q h=>by have:=hS q h;omega) hin1;obtain⟨Z,hZ⟩:∃Z,szT t=Z:=⟨_,rfl⟩;obtain⟨C,hC⟩:∃C,celT t 0=C:=⟨_,rfl⟩;rw[hZ] at c2 hsz;rw[hC] at c3 ⊢;have hz:¬(8192:Int)<(Z:Int):=by omega
 obtain⟨H,hH⟩:∃H,w.heap.size=H:=⟨_,rfl⟩;have hbx:(w.alloc (.cells #[.slice none 0 0] 38)).heap[H]? = some (.cells #[.slice none 0 0] 38 (0,0)):=by rw[←hH];exact heap_alloc_new w _
 have HH:=Lib.hid hH;have HS:=Lib.hid hs;have HB:=Lib.hid hb;have HBX:=Lib.hid hbx;clear hin hin1 hS hZ hC hb hbx hs hH
 go_enter Tryz.func79,Tryz.ntmps79
 go_wp2_with fail;refine c1.mono ?_;rintro e w1 ⟨rfl,rfl⟩;go_wp2_with fail;refine c2.mono ?_;rintro e w1 ⟨rfl,rfl⟩;go_wp2_with fail;refine c3.mono ?_;rintro e w1 ⟨v1,rfl,hv1,hb1⟩;rw[HS.out] at hb1 hv1;have hbx1:=(hb1.block H (by have:=HH.out;omega)).trans HBX.out;have k0:=cell_of_row w1 H 0 _ _ _ hbx1;have k0:w1.cell? ⟨H,0,none⟩=some (.slice none 0 0):=k0;have f0:=frozen_of_row w1 H 0 _ _ hbx1;have hs1:=hb1.size;rw[HS.out] at hs1;have hHw:=qC hbx1;obtain⟨vs,ho,hf⟩:=hv1;obtain⟨A1,C1,rfl⟩:=jB ho;have HO:=Lib.hid ho;have HF:=Lib.hid hf;have HB1:=Lib.hid hb1;clear ho hf hb1 hbx1 c1 c2 c3;rw[HH.out];go_wp2_with fail;have hbelF:Below H w (w1.setCell ⟨H,0,none⟩ (.slice A1 C.length C1)):=(by
  have h1:Below H w w1:=(HH.out▸HB.out).trans (HB1.out.mono (by have:=HH.out;omega));exact h1.setCell (Nat.le_refl _) _)
 have hcls:Cls (w1.setCell ⟨H,0,none⟩ (.slice A1 C.length C1)) (w1.setCell ⟨H,0,none⟩ (.slice A1 C.length C1)).heap.size (.slice A1 C.length C1) C:=by
  refine OwnC.cls (H:=H+1) ⟨vs,zC (HO.out.mono (by have:=HH.out;omega)) _ _ (fun g hg=>by have:=(HO.out.lt g hg).1;have:=HH.out;simp only;omega),HF.out.keep (fun q h=>⟨by have:=h.1;have:=HH.out;omega,by simpa [World.setCell] using h.2.1,h.2.2⟩) fun b h=>Below.heap_setCell _ _ _ _ (by have:=h.1;have:=HH.out;simp only;omega)⟩
 exact bodyPost_ret (v:=.tuple #[.agg #[.slice A1 C.length C1],.int .i64 0]) (by simp[results,Tryz.results79,go_sem,k0]) rfl ⟨_,rfl,hcls,by rw[HH.out];exact hbelF⟩
theorem CelAt.open {w:World} {B b o:Nat} {c:Cel} (h:CelAt w B b o c):∃KA kc,w.cell? ⟨b,o,none⟩=some (.int .i64 c.x.k)∧w.cell? ⟨b,o+1,none⟩=some (.int .i64 c.x.n)∧w.cell? ⟨b,o+2,none⟩=some (.string c.x.a)∧w.cell? ⟨b,o+3,none⟩=some (.string c.x.m)∧w.cell? ⟨b,o+4,none⟩=some (.slice KA c.ks.length kc)∧Sp w B (.slice KA c.ks.length kc) c.ks:=by
 obtain⟨h0,h1,h2,h3,kv,h4,KA,kc,rfl,h5⟩:=h;exact⟨KA,kc,h0,h1,h2,h3,h4,KA,kc,rfl,h5⟩
end Go.Proofs.YtbpijnalmakfaaaGreatDoor
