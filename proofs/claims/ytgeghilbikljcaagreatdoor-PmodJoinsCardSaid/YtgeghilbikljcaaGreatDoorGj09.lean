/-
  The program's sum, keep, gauge.of, measured, Size, Deep: what they tell of trees.
-/
import Derived.Test.YtgeghilbikljcaaGreatDoorGj05
import Derived.Test.YtgeghilbikljcaaGreatDoorGj08
import Derived.Carry
import Derived.MapKept
set_option maxHeartbeats 40000000
set_option maxRecDepth 100000
namespace Go.Proofs.YtgeghilbikljcaaGreatDoor
open Go.RowKit
theorem zOi (w:World) (r:Option Nat):w.grownBy w r:=⟨rfl,rfl,rfl,Nat.le_refl _,fun _ _ _=>rfl⟩
theorem gE {a b c:World} {r:Option Nat} (h:a.grownBy b r) (k:b.grownBy c r):a.grownBy c r:=
 ⟨k.os.trans h.os,k.tape.trans h.tape,k.output.trans h.output,Nat.le_trans h.size k.size,fun i hi hr=>(k.block i (Nat.lt_of_lt_of_le hi h.size) hr).trans (h.block i hi hr)⟩
theorem gH {a b:World} {B:Nat} {r:Option Nat} (h:Below B a b) (hB:a.heap.size<=B):a.grownBy b r:=⟨h.os,h.tape,h.output,h.size,fun i hi _=>h.block i (by omega)⟩
theorem vX {a b:World} {r:Option Nat} (h:a.grownBy b r) (o:Obj):a.grownBy (b.alloc o) r:=gE h (gH ((Below.refl b.heap.size b).alloc (Nat.le_refl _) o) (Nat.le_refl _))
theorem vY {a b:World} {r:Option Nat} (h:a.grownBy b r) (p:Addr) (u:Value) (hp:a.heap.size<=p.block\/r=some p.block):a.grownBy (b.setCell p u) r:=
 ⟨h.os,h.tape,h.output,by have:=h.size;simpa [World.setCell] using this,fun i hi hr=>(Below.heap_setCell _ _ _ _ (by
  rcases hp with hp | hp
  ·omega
  ·intro e;exact hr (by rw[hp,e]))).trans (h.block i hi hr)⟩
theorem zOj {a b c:World} {r:Option Nat} {B:Nat} (h:Below B a b) (k:b.grownBy c r) (hB:B<=b.heap.size) (hr:∀g,r=some g->B<=g):Below B a c:=h.grown k hB hr
theorem xS {w:World} {b i:Nat} {cs:Array Value} {e:TypeId} {z:Nat×Nat} (u:Value) (h:w.heap[b]? = some (.cells cs e z)):(w.setCell ⟨b,i,none⟩ u).heap[b]? = some (.cells (cs.setIfInBounds i u) e z):=by
 simp[World.setCell,Array.getElem?_modify,h]
theorem kW {w:World} {b:Nat} {a:Addr} {o:Obj} (u:Value) (h:w.heap[b]? = some o) (hne:b≠a.block):(w.setCell a u).heap[b]? = some o:=(Below.heap_setCell _ _ _ _ hne).trans h
theorem zU {w:World} {b:Nat} {o:Obj} (ob:Obj) (h:w.heap[b]? = some o):(w.alloc ob).heap[b]? = some o:=(Below.heap_alloc _ _ _ (qC h)).trans h
theorem zW1 (a b:Nat) (w:World) (ha:a<=1000000000) (hb:b<=1000000000):Calls Tryz.prog 143 #[.int .i64 (a:Int),.int .i64 (b:Int)] w fun e w'=>e = .returned (.int .i64 ((a:Int)+(b:Int)))/\w=w':=by
 have h1:¬(9223372036854775807-(b:Int))<(a:Int):=by omega
 go_enter Tryz.func143,Tryz.ntmps143
 go_wp2_with fail
 go_ret
 exact⟨rfl,rfl⟩
def Gg (w:World) (gb mb k:Nat):Prop:=w.heap[gb]? = some (.cells #[.int .i64 (k:Int),.map (some mb)] 118 (0,0))/\w.heap[mb]? = some (.map #[] 0)
theorem oT (gb mb k:Nat) (v:Value) (x:Array Value) (w:World) (h:Gg w gb mb k) (hk:k<=65536) :
  Calls Tryz.prog 142 #[.pointer (some ⟨gb,0,none⟩),v,.agg x] w fun e w'=>e = .returned (.tuple #[])/\Below w.heap.size w w':=by
 have c0:=cell_of_row w gb 0 _ _ _ h.1;have h1:¬(65536:Int)<(k:Int):=by omega
 have hg:=qC h.1;clear h
 go_enter Tryz.func142,Tryz.ntmps142
 go_wp2_with fail;go_end0;exact⟨rfl,(Below.refl _ _).alloc (Nat.le_refl _) _⟩
theorem zVj (n:Nat) (v:Value) (w:World):(Instr.checkKey true (n+1) 24 v).run Tryz.prog w = .ok () w:=by
 rw[Instr.checkKey]
 simp[run_underlying Tryz.underlying24,Result.andThen]
theorem zY5 {w:World} {mb:Nat} (v:Value) (h:w.heap[mb]? = some (.map #[] 0)) :
  (Instr.lookup 116 (.map (some mb)) v true).run Tryz.prog w = .ok (.tuple #[.agg #[.int .i64 0,.int .i64 0,.bool false],.bool false]) w:=by
 have hz:(zeroValue 89).run Tryz.prog w = .ok (.agg #[.int .i64 0,.int .i64 0,.bool false]) w:=by kernel_rfl
 have hc:=zVj 9999 v w;simp only[Nat.reduceAdd] at hc
 simp[Instr.lookup,run_underlying Tryz.underlying116,run_underlying Tryz.underlying24,MapKept.run_getObj_map h,hc,Instr.findKey,Instr.findNow,hz,Result.andThen]
def zLi (t:Tr) (gb mb k:Nat) (w:World) (e:Ending) (w':World):Prop:=e = .returned (.agg #[.int .i64 (szT t:Int),.int .i64 (dpT t:Int),.bool false])/\Gg w' gb mb (k+szT t)/\w.grownBy w' (some gb)
theorem Gg.grown {w w':World} {gb mb k:Nat} (h:Gg w gb mb k) (hb:Below w.heap.size w w'):Gg w' gb mb k:=⟨zC h.1 hb,zC h.2 hb⟩
theorem Gg.store {w:World} {gb mb k:Nat} {z:Int} {m:Nat} (h:Gg w gb mb k) (hne:mb≠gb) (hz:z=(m:Int)):Gg (w.setCell ⟨gb,0,none⟩ (.int .i64 z)) gb mb m:=by
 subst hz;exact⟨by rw[xS _ h.1];rfl,kW _ h.2 hne⟩
theorem Gg.far {w:World} {gb mb k b i:Nat} (h:Gg w gb mb k) (u:Value) (h1:gb≠b) (h2:mb≠b):Gg (w.setCell ⟨b,i,none⟩ u) gb mb k:=⟨kW _ h.1 h1,kW _ h.2 h2⟩
theorem zOk {w w':World} {gb:Nat} (h:w.grownBy w' (some gb)) {p:Addr} {v:Value} (hc:w.cell? p=some v) (hne:p.block≠gb):w'.cell? p=some v:=h.cell hc fun e=>hne (by injection e)
theorem Kid.gb {w w':World} {S:Nat->Prop} {A:Option Addr} {r:Fr} {i gb:Nat} (h:Kid w S A r i) (hS:Bel S w.heap.size) (hg:¬S gb) (hw:w.grownBy w' (some gb)):Kid w' S A r i:=
 h.keep (fun _ h=>h) fun pp hp=>hw.block pp (hS _ hp) fun e=>by injection e with e;exact hg (by rw[<- e];exact hp)
theorem yI {w w':World} {gb b:Nat} {o:Obj} (h:w.grownBy w' (some gb)) (hb:w.heap[b]? = some o) (hne:b≠gb):w'.heap[b]? = some o:=(h.block b (qC hb) fun e=>hne (by injection e)).trans hb
theorem gI {w:World} {b:Nat} {u v s:Value} {e:TypeId} {z:Nat×Nat} (h:w.heap[b]? = some (.cells #[u,v,s] e z)):w.cell? ⟨b,0,none⟩=some u:=cell_of_row w b 0 _ _ _ h
theorem gJ {w:World} {b:Nat} {u v s:Value} {e:TypeId} {z:Nat×Nat} (h:w.heap[b]? = some (.cells #[u,v,s] e z)):w.cell? ⟨b,1,none⟩=some v:=cell_of_row w b 1 _ _ _ h
theorem gK {w:World} {b:Nat} {u v s:Value} {e:TypeId} {z:Nat×Nat} (h:w.heap[b]? = some (.cells #[u,v,s] e z)):w.cell? ⟨b,2,none⟩=some s:=cell_of_row w b 2 _ _ _ h
theorem set3 {w:World} {b:Nat} {u v s:Value} {e:TypeId} {z:Nat×Nat} (h:w.heap[b]? = some (.cells #[u,v,s] e z)) (u' v' s':Value):(((w.setCell ⟨b,0,none⟩ u').setCell ⟨b,1,none⟩ v').setCell ⟨b,2,none⟩ s').heap[b]? = some (.cells #[u',v',s'] e z):=by
 rw[xS _ (xS _ (xS _ h))]
 rfl
theorem zSi:∀(n:Nat) (t:Tr),szT t<=n->n<=65536->∀(w:World) (Sq:Nat->Prop) (v:Value) (gb mb k:Nat),Bel Sq w.heap.size->¬Sq gb->InT w Sq v t->Gg w gb mb k->mb≠gb->k+szT t<=65536->
  Calls Tryz.prog 99 #[.pointer (some ⟨gb,0,none⟩),v] w (zLi t gb mb k w)
 | 0,t,h,_,_,_,_,_,_,_,_,_,_,_,_,_=>absurd h (by unfold szT;omega)
 | n+1,(x,ks),hn,hbig,w,Sq,v,gb,mb,k,hbel,hgS,hin,hgg,hmg,hk=>by
  have ih:=zSi n;obtain⟨q,p,A,c,rfl,hq1,c0,c1,c2,c3,c4,hc,hkid⟩:=hin.open;have hqw:=zZ c4;have hqg:q≠gb:=fun e=>hgS (by rw[<- e];exact hq1)
  have g0:=cell_of_row w gb 0 _ _ _ hgg.1;have g1:=cell_of_row w gb 1 _ _ _ hgg.1;have gf:=frozen_of_row w gb 0 _ _ hgg.1;have hgw:=qC hgg.1;have hmw:=qC hgg.2;have hlk:=fun W (hW:W.heap[mb]? = some (.map #[] 0))=>zY5 (w:=W) (.pointer (some ⟨q,p,none⟩)) hW
  have hlk1:=hlk (w.alloc (.cells #[.int .i64 0,.int .i64 0,.bool false] 89)) (zU _ hgg.2);have HG:=Lib.hid hgg;clear hgg hlk
  go_enter Tryz.func99,Tryz.ntmps99
  go_wp2_with fail;obtain⟨H,hH⟩:∃H,w.heap.size=H:=⟨_,rfl⟩;have hsz:szT (x,ks)=1+ks.sz:=rfl;have hdp:dpT (x,ks)=1+ks.dp:=rfl;have hll:=Fr.len_le ks;obtain⟨W3,hW3⟩:∃W3,W3=((w.setCell ⟨gb,0,none⟩ (.int .i64 ((k:Int)+1))).alloc (.cells #[.int .i64 0,.int .i64 0,.bool false] 89)).alloc (.cells #[.int .i64 0,.int .i64 0,.bool false] 89):=⟨_,rfl⟩;have hs0:(w.setCell ⟨gb,0,none⟩ (.int .i64 ((k:Int)+1))).heap.size=H:=by simp[World.setCell,hH]
  have hgg3:Gg W3 gb mb (k+1):=by
   rw[hW3];have h1:=HG.out.store (m:=k+1) hmg (z:=(k:Int)+1) (by omega);exact⟨zU _ (zU _ h1.1),zU _ (zU _ h1.2)⟩
  have hR3:W3.heap[H]? = some (.cells #[.int .i64 0,.int .i64 0,.bool false] 89 (0,0)):=by
   rw[hW3,<- hs0];exact zU _ (heap_alloc_new _ _)
  have hgb3:w.grownBy W3 (some gb):=by rw[hW3];exact vX (vX (vY (zOi w _) _ _ (.inr rfl)) _) _
  have hs3:W3.heap.size=H+2:=by rw[hW3];simp;omega
  rw[<- hW3];have HGG3:=Lib.hid hgg3;have cK1:=oT gb mb (k+1) (.pointer (some ⟨q,p,none⟩)) #[.int .i64 9223372036854775807,.int .i64 9223372036854775807,.bool false] W3 hgg3 (by omega);clear hgg3 hW3;refine cK1.mono ?_;rintro e w1 ⟨rfl,hb1⟩;have hgg1:=HGG3.out.grown hb1;have hR1:=zC hR3 hb1;have hgb1:w.grownBy w1 (some gb):=gE hgb3 (gH hb1 (Nat.le_refl _));have hs1:=hb1.size;rw[hs3] at hs1;have c41:=zOk hgb1 c4 hqg;obtain⟨X,hX⟩:∃X,w1.heap.size=X:=⟨_,rfl⟩;rw[hX] at hs1;have hqX:q<w1.heap.size:=by omega
  obtain⟨N,hN⟩:∃N,ks.len=N:=⟨_,rfl⟩;rw[hN] at c41 hll;have hN1:N<=1000000:=by omega
  have HK:Hid (Kid (w1.alloc (.cells #[.int .i64 1,.int .i64 0,.bool false] 89)) Sq A ks 0):=Lib.hid (hkid.gb hbel hgS (vX hgb1 _));have HGG1:=Lib.hid hgg1;have HR1:=Lib.hid hR1;have HGB1:=Lib.hid hgb1;have HNN:=Lib.hid hN;have HSZ:=Lib.hid hsz;have HDP:=Lib.hid hdp;have HX:=Lib.hid hX;have HH:=Lib.hid hH;have HN0:=Lib.hid hn;have HIH:=Lib.hid ih;have HBEL:=Lib.hid hbel;have HGS:=Lib.hid hgS;clear hlk1 cK1 HGG3 hb1 hgb3 hR3 hgg1 hR1 hgb1 hN hsz hdp hX hkid hin c0 c1 c2 c3 c4 g0 g1 gf hs0 hs3 hH hn ih hbel hgS;go_wp2_with fail;have hXb:(w1.alloc (.cells #[.int .i64 1,.int .i64 0,.bool false] 89)).heap[X]? = some (.cells #[.int .i64 1,.int .i64 0,.bool false] 89 (0,0)):=by rw[<- HX.out];exact heap_alloc_new w1 _
  have HXB:=Lib.hid hXb;rw[HX.out,HH.out];clear hXb
  go_loopw [9,10,42] (fun _ _ i wr=>∃(j:Nat) (done rest:Fr),i = .int .i64 j/\j=done.len/\ks=done.app rest/\Kid wr Sq A rest j/\Gg wr gb mb (k+1+done.sz)/\wr.heap[X]? = some (.cells #[.int .i64 ((1+done.sz:Nat):Int),.int .i64 (done.dp:Int),.bool false] 89 (0,0))/\
   wr.heap[H]? = some (.cells #[.int .i64 0,.int .i64 0,.bool false] 89 (0,0))/\w.grownBy wr (some gb)) (fun _ _ i _=>N-(intOf i).toNat)
  case atStart=>exact⟨0,.nil,ks,rfl,rfl,rfl,HK.out,HGG1.out.grown ((Below.refl _ _).alloc (Nat.le_refl _) _),HXB.out,zU _ HR1.out,vX HGB1.out _⟩
  case round=>
   obtain⟨j,done,rest,rfl,hj,hks,hkid,hgg,hxb,hrb,hgw⟩:=hrel;have hl:N=done.len+rest.len:=by rw[<- HNN.out,hks,Fr.len_app]
   have hs:ks.sz=done.sz+rest.sz:=by rw[hks,Fr.sz_app]
   have hsz:=HSZ.out;have hn:=HN0.out;have hddp:=Fr.dp_le done;have hXr:=qC hxb;have hrw:=hgw.size;have HKS:=Lib.hid hks
   by_cases hlt:0<rest.len
   ·obtain⟨y,l,r,rfl⟩:=Fr.cut hlt
    obtain⟨kb,ko,u,rfl,hkb,hcell,hu,hnext⟩:=hkid.next;have hyl:szT (y,l)=1+l.sz:=rfl;have hyd:dpT (y,l)=1+l.dp:=rfl;have hld:=Fr.dp_le l;have hsr:(Fr.cons y l r).sz=1+l.sz+r.sz:=rfl;have hlr:(Fr.cons y l r).len=r.len+1:=rfl;have hbelr:Bel Sq wr.heap.size:=fun q' h'=>by have:=HBEL.out q' h';omega
    have cI:=HIH.out (y,l) (by omega) (by omega) wr Sq u gb mb (k+1+done.sz) hbelr HGS.out hu hgg hmg (by omega);have HNX:Hid (∀w2,wr.grownBy w2 (some gb)->Kid w2 Sq (some ⟨kb,ko,none⟩) r (j+1)):=Lib.hid fun w2 hw2=>hnext.gb hbelr HGS.out hw2
    have hjz:(j:Int)<(N:Int):=by omega
    obtain⟨Z,hZ⟩:∃Z,szT (y,l)=Z:=⟨_,rfl⟩;obtain⟨D,hD⟩:∃D,dpT (y,l)=D:=⟨_,rfl⟩;obtain⟨S,hS⟩:∃S,1+done.sz=S:=⟨_,rfl⟩;obtain⟨E,hE⟩:∃E,done.dp=E:=⟨_,rfl⟩;rw[hS,hE] at hxb;have hSb:S<=65536/\Z<=65536/\E<=65536/\D<=65536:=by omega
    have HSN:Hid (1+(done.app (.cons y l .nil)).sz=S+Z):=Lib.hid (by rw[Fr.sz_app];simp only[Fr.sz];omega);have HEN:Hid ((done.app (.cons y l .nil)).dp=max E D):=Lib.hid (by rw[Fr.dp_app];simp only[Fr.dp];omega);have HLN:Hid (j+1=(done.app (.cons y l .nil)).len):=Lib.hid (by rw[Fr.len_app];simp only[Fr.len];omega);have HKN:Hid (k+1+done.sz+szT (y,l)=k+1+(done.app (.cons y l .nil)).sz):=Lib.hid (by rw[Fr.sz_app];simp only[Fr.sz];omega);have HZ:=Lib.hid hZ;have HD:=Lib.hid hD;have HRB:=Lib.hid hrb;have HXBR:=Lib.hid hxb;have HGW:=Lib.hid hgw;have hXg:X≠gb:=by have:=HX.out;have:=HGB1.out.size;have:=HH.out;omega
    have hXm:X≠mb:=by have:=HX.out;have:=HGB1.out.size;have:=HH.out;omega
    have HHG:Hid (H≠gb):=Lib.hid (by have:=HH.out;omega);have cS:=fun W=>zW1 S Z W (by omega) (by omega)
    have hjN:j<N:=by omega
    clear hkid hnext hu hks hj hl hlr hsr hsz hyl hyd hld hZ hD hE hS hbelr hgg hgw hn hddp hxb hrb hs;go_wp2_with fail;refine cI.mono ?_;rintro e w2 ⟨rfl,hgg2,hgw2⟩;rw[HZ.out,HD.out];have HGG2:=Lib.hid hgg2;have HGW2:=Lib.hid hgw2;have hs2:=hgw2.size;have hx2:X<w2.heap.size:=by omega
    have hxb2:=yI hgw2 HXBR.out hXg;have HXB2:=Lib.hid hxb2;have cx0:=gI hxb2;have cx1:=gJ hxb2;have cx2:=gK hxb2;have fx:=fun i=>frozen_of_row w2 X i _ _ hxb2
    have fx0:=fx 0;have fx1:=fx 1;have fx2:=fx 2;clear hgg2 hgw2 hxb2 fx;go_wp2_with fail;refine(cS _).mono ?_;rintro e w3 ⟨rfl,rfl⟩;go_wp2_with fail
    go_roundw
    case rel=>
     have hmx:max (E:Int) (D:Int)=(if E<D then (D:Int) else (E:Int)):=by split<;>omega
     try rw[hmx]
     clear hmx;have hset:=set3 HXB2.out (.int .i64 ((S:Int)+(Z:Int))) (.int .i64 (if E<D then (D:Int) else (E:Int))) (.bool false);have hgbw:w.grownBy ((((w2.setCell ⟨X,0,none⟩ (.int .i64 ((S:Int)+(Z:Int)))).setCell ⟨X,1,none⟩ (.int .i64 (if E<D then (D:Int) else (E:Int)))).setCell ⟨X,2,none⟩ (.bool false)).alloc (.cells #[.int .i64 (Z:Int),.int .i64 (D:Int),.bool false] 89)) (some gb):=by
      have hX':w.heap.size<=X:=by rw[HH.out];omega
      exact vX (vY (vY (vY (gE HGW.out HGW2.out) _ _ (.inl hX')) _ _ (.inl hX')) _ _ (.inl hX')) _
     refine⟨j+1,done.app (.cons y l .nil),r,by go_num,HLN.out,by rw[HKS.out,Fr.app_cons],?_,?_,?_,?_,hgbw⟩
     ·refine(HNX.out w2 HGW2.out).keep (fun _ h=>h) fun pp hp=>?_
      have hpw:pp<w.heap.size:=HBEL.out _ hp;have h1:=HH.out;rw[Below.heap_alloc _ _ _ (by simp[World.setCell];omega),Below.heap_setCell _ _ _ _ (by simp only;omega),Below.heap_setCell _ _ _ _ (by simp only;omega),Below.heap_setCell _ _ _ _ (by simp only;omega)]
     ·rw[<- HKN.out]
      exact(((HGG2.out.far _ (Ne.symm hXg) (Ne.symm hXm)).far _ (Ne.symm hXg) (Ne.symm hXm)).far _ (Ne.symm hXg) (Ne.symm hXm)).grown ((Below.refl _ _).alloc (Nat.le_refl _) _)
     ·rw[HSN.out,HEN.out]
      have e1:((S+Z:Nat):Int)=(S:Int)+(Z:Int):=by omega
      have e2:((max E D:Nat):Int)=if E<D then (D:Int) else (E:Int):=by split<;>omega
      rw[e1,e2];exact zU _ hset
     ·have hHX:H≠X:=by omega
      exact zU _ (kW _ (kW _ (kW _ (yI HGW2.out HRB.out HHG.out) hHX) hHX) hHX)
    case measure=>simp[intOf];omega
   ·have h0:rest = .nil:=by
     cases rest with
     | nil=>rfl
     | cons y l r=>exact absurd (Nat.succ_pos _) hlt
    subst h0;have hjz:¬(j:Int)<(N:Int):=by have:(Fr.nil).len=0:=rfl;omega
    have hfin:ks=done:=by rw[hks,Fr.app_nil]
    obtain⟨S,hS⟩:∃S,1+done.sz=S:=⟨_,rfl⟩;obtain⟨D,hD⟩:∃D,done.dp=D:=⟨_,rfl⟩;have hsn:(Fr.nil).sz=0:=rfl;have hSb:S<=65536/\D<=65536/\k+S<=65536:=by omega
    rw[hS,hD] at hxb;have HSZ':Hid (szT (x,ks)=S):=Lib.hid (by omega);have HDP':Hid (dpT (x,ks)=D+1):=Lib.hid (by rw[HDP.out,hfin,hD];omega);have HGGR:Hid (Gg wr gb mb (k+S)):=Lib.hid (by rw[<- hS];have e:k+(1+done.sz)=k+1+done.sz:=by omega
                                                                                                                                                                                            rw[e];exact hgg)
    have cx0:=gI hxb;have cx1:=gJ hxb;have cx2:=gK hxb;have fx:=fun i=>frozen_of_row wr X i _ _ hxb
    have fx0:=fx 0;have fx1:=fx 1;have fx2:=fx 2;have HRB:=Lib.hid hrb;have HXBR:=Lib.hid hxb;have HGW:=Lib.hid hgw;have cS:=fun W=>zW1 D 1 W (by omega) (by omega)
    clear hkid hks hj hl hsz hS hD hn hddp hxb hrb hs hgg hgw hfin hsn fx;go_wp2_with fail;refine(cS _).mono ?_;rintro e w3 ⟨rfl,rfl⟩;go_wp2_with fail;have hggK:Gg (wr.setCell ⟨X,1,none⟩ (.int .i64 ((D:Int)+1))) gb mb (k+S):=HGGR.out.far _ (by have:=HX.out;have:=HGB1.out.size;have:=HH.out;omega) (by have:=HX.out;have:=HGB1.out.size;have:=HH.out;omega);have hxbK:(wr.setCell ⟨X,1,none⟩ (.int .i64 ((D:Int)+1))).heap[X]? = some (.cells #[.int .i64 (S:Int),.int .i64 ((D:Int)+1),.bool false] 89 (0,0)):=by
     rw[xS _ HXBR.out]
     rfl
    have hrbK:(wr.setCell ⟨X,1,none⟩ (.int .i64 ((D:Int)+1))).heap[H]? = some (.cells #[.int .i64 0,.int .i64 0,.bool false] 89 (0,0)):=kW _ HRB.out (by simp only;omega);have hgwK:w.grownBy (wr.setCell ⟨X,1,none⟩ (.int .i64 ((D:Int)+1))) (some gb):=vY HGW.out _ _ (.inl (by rw[HH.out];simp only;omega));have cK:=oT gb mb (k+S) (.pointer (some ⟨q,p,none⟩)) #[.int .i64 (S:Int),.int .i64 ((D:Int)+1),.bool false] _ hggK (by omega);have HGGK:=Lib.hid hggK;have HXBK:=Lib.hid hxbK;have HRBK:=Lib.hid hrbK;have HGWK:=Lib.hid hgwK;clear hggK hxbK hrbK hgwK;refine cK.mono ?_;rintro e w5 ⟨rfl,hb5⟩;have HB5:=Lib.hid hb5;have hxb5:=zC HXBK.out hb5;have hrb5:=zC HRBK.out hb5;have dx0:=gI hxb5;have dx1:=gJ hxb5;have dx2:=gK hxb5;have dr0:=gI hrb5;have dr1:=gJ hrb5;have dr2:=gK hrb5;have gx:=fun i=>frozen_of_row w5 H i _ _ hrb5
    have gx0:=gx 0;have gx1:=gx 1;have gx2:=gx 2;have hHX:H<X:=by omega
    clear cK cx0 cx1 cx2 fx0 fx1 fx2 hb5 hxb5 hrb5 gx;go_wp2_with fail;have hgwF:w.grownBy (((w5.setCell ⟨H,0,none⟩ (.int .i64 (S:Int))).setCell ⟨H,1,none⟩ (.int .i64 ((D:Int)+1))).setCell ⟨H,2,none⟩ (.bool false)) (some gb):=by
     have hX':w.heap.size<=H:=by rw[HH.out];omega
     exact vY (vY (vY (gE HGWK.out (gH HB5.out (Nat.le_refl _))) _ _ (.inl hX')) _ _ (.inl hX')) _ _ (.inl hX')
    have hHg:gb≠H:=by have:=HH.out;omega
    have hHm:mb≠H:=by have:=HH.out;omega
    have hggF:=(((HGGK.out.grown HB5.out).far (b:=H) (i:=0) (.int .i64 (S:Int)) hHg hHm).far (b:=H) (i:=1) (.int .i64 ((D:Int)+1)) hHg hHm).far (b:=H) (i:=2) (.bool false) hHg hHm;exact bodyPost_ret (v:=.agg #[.int .i64 (S:Int),.int .i64 ((D:Int)+1),.bool false]) (by simp[results,Tryz.results99,go_sem,dr0,dr1,dr2]) rfl ⟨by rw[HSZ'.out,HDP'.out];rfl,by rw[HSZ'.out];exact hggF,hgwF⟩
theorem zLj (gb:Nat) (w:World) :
  Calls Tryz.prog 99 #[.pointer (some ⟨gb,0,none⟩),.pointer none] w fun e w'=>e = .returned (.agg #[.int .i64 0,.int .i64 0,.bool true])/\Below w.heap.size w w':=by
 go_enter Tryz.func99,Tryz.ntmps99
 go_wp2_with fail;exact bodyPost_ret (v:=.agg #[.int .i64 0,.int .i64 0,.bool true]) (by simp[results,Tryz.results99,go_sem]) rfl ⟨rfl,((Below.refl _ _).alloc (Nat.le_refl _) _)⟩
def zLk (s d:Nat) (g:Bool) (w:World) (e:Ending) (w':World):Prop:=e = .returned (.agg #[.int .i64 (s:Int),.int .i64 (d:Int),.bool g])/\Below w.heap.size w w'
def zSj (n:Nat) (w:World) (e:Ending) (w':World):Prop:=e = .returned (.int .i64 (n:Int))/\Below w.heap.size w w'
theorem gL (o:Option Tr) (w:World) (Sq:Nat->Prop) (v:Value) (hbel:Bel Sq w.heap.size) (hin:InO w Sq v o) (hsz:szO o<=65536) :
  Calls Tryz.prog 58 #[v] w (zLk (szO o) (dpO o) (o.isNone) w):=by
 have hmm:=@run_makeMap Tryz.prog;have three:=gC w (.cells #[.int .i64 0,.int .i64 0,.bool false] 89) (.map #[] 0) (.cells #[.int .i64 0,.map (some (w.heap.size+1))] 118) rfl;obtain⟨H,hH⟩:∃H,w.heap.size=H:=⟨_,rfl⟩;rw[hH] at three hbel;have HT:=Lib.hid three;have HH:=Lib.hid hH;clear three;obtain⟨S,hS⟩:∃S,szO o=S:=⟨_,rfl⟩;obtain⟨D,hD⟩:∃D,dpO o=D:=⟨_,rfl⟩;obtain⟨G,hG⟩:∃G,o.isNone=G:=⟨_,rfl⟩;have HS:=Lib.hid hS;have HD:=Lib.hid hD;have HG:=Lib.hid hG;have HBEL:=Lib.hid hbel;have HIN:=Lib.hid hin;rw[hS,hD,hG];clear hH hbel hin hS hD hG
 go_enter Tryz.func58,Tryz.ntmps58
 go_wp2_with fail;rw[HH.out];obtain⟨W,hW⟩:∃W,W=((w.alloc (.cells #[.int .i64 0,.int .i64 0,.bool false] 89)).alloc (.map #[] 0)).alloc (.cells #[.int .i64 0,.map (some (H+1))] 118):=⟨_,rfl⟩;have ht:=HT.out;rw[<- hW] at ht ⊢;obtain⟨t1,t2,t3,hb1,hs1⟩:=ht;have hgg:Gg W (H+2) (H+1) 0:=⟨t3,t2⟩;have key:Calls Tryz.prog 99 #[.pointer (some ⟨H+1+1,0,none⟩),v] W fun e w'=>e = .returned (.agg #[.int .i64 (S:Int),.int .i64 (D:Int),.bool G])/\W.grownBy w' (some (H+2)):=by
  rw[<- HS.out,<- HD.out,<- HG.out]
  cases o with
  | none=>
   have hv:v = .pointer none:=HIN.out;subst hv;refine(zLj (H+2) W).mono ?_;rintro e w' ⟨rfl,hb⟩;exact⟨rfl,gH hb (Nat.le_refl _)⟩
  | some t=>
   refine(zSi (szT t) t (Nat.le_refl _) hsz W Sq v (H+2) (H+1) 0 (fun q h=>by have:=HBEL.out q h;omega) (fun h=>by have:=HBEL.out _ h;omega) (InT.below HIN.out HBEL.out hb1) hgg (by omega) (by have:szO (some t)=szT t:=rfl;omega)).mono ?_;rintro e w' ⟨rfl,_,hb⟩;exact⟨rfl,hb⟩
 have HT1:=Lib.hid t1;have HB1:=Lib.hid hb1;have HHs:=Lib.hid hs1;clear t1 t2 t3 hgg hW hb1 hs1 HT;refine key.mono ?_;rintro e w1 ⟨rfl,hg1⟩;have hr1:=yI hg1 HT1.out (by omega);have dr0:=gI hr1;have dr1:=gJ hr1;have dr2:=gK hr1;have gx:=fun i=>frozen_of_row w1 H i _ _ hr1
 have gx0:=gx 0;have gx1:=gx 1;have gx2:=gx 2;have HG1:=Lib.hid hg1;clear key hr1 gx hg1;go_wp2_with fail;have hbF:Below H w (((w1.setCell ⟨H,0,none⟩ (.int .i64 (S:Int))).setCell ⟨H,1,none⟩ (.int .i64 (D:Int))).setCell ⟨H,2,none⟩ (.bool G)):=
  (((zOj HB1.out HG1.out (by have:=HHs.out;omega) (fun g hg=>by injection hg with hg;omega)).setCell (Nat.le_refl _) _).setCell (Nat.le_refl _) _).setCell (Nat.le_refl _) _
 exact bodyPost_ret (v:=.agg #[.int .i64 (S:Int),.int .i64 (D:Int),.bool G]) (by simp[results,Tryz.results58,go_sem,dr0,dr1,dr2]) rfl ⟨rfl,by rw[HH.out];exact hbF⟩
theorem zLl (a b g:Value) (w:World):(Instr.field 89 (.agg #[a,b,g]) 0).run Tryz.prog w=(.ok a w:Result Value):=by kernel_rfl
theorem zLm (a b g:Value) (w:World):(Instr.field 89 (.agg #[a,b,g]) 1).run Tryz.prog w=(.ok b w:Result Value):=by kernel_rfl
theorem zLn (o:Option Tr) (w:World) (Sq:Nat->Prop) (v:Value) (hbel:Bel Sq w.heap.size) (hin:InO w Sq v o) (hsz:szO o<=65536) :
  Calls Tryz.prog 33 #[v] w (zSj (szO o) w):=by
 have cM:=gL o w Sq v hbel hin hsz;obtain⟨S,hS⟩:∃S,szO o=S:=⟨_,rfl⟩;obtain⟨D,hD⟩:∃D,dpO o=D:=⟨_,rfl⟩;obtain⟨G,hG⟩:∃G,o.isNone=G:=⟨_,rfl⟩;rw[hS,hD,hG] at cM;rw[hS];clear hbel hin hS hD hG
 go_enter Tryz.func33,Tryz.ntmps33
 go_wp2_with fail;refine cM.mono ?_;rintro e w1 ⟨rfl,hb⟩;have hf:=zLl (.int .i64 (S:Int)) (.int .i64 (D:Int)) (.bool G) w1;go_wp2_with fail
 go_ret
 exact⟨rfl,hb⟩
theorem zLo (o:Option Tr) (w:World) (Sq:Nat->Prop) (v:Value) (hbel:Bel Sq w.heap.size) (hin:InO w Sq v o) (hsz:szO o<=65536) :
  Calls Tryz.prog 34 #[v] w (zSj (dpO o) w):=by
 have cM:=gL o w Sq v hbel hin hsz;obtain⟨S,hS⟩:∃S,szO o=S:=⟨_,rfl⟩;obtain⟨D,hD⟩:∃D,dpO o=D:=⟨_,rfl⟩;obtain⟨G,hG⟩:∃G,o.isNone=G:=⟨_,rfl⟩;rw[hS,hD,hG] at cM;rw[hD];clear hbel hin hS hD hG
 go_enter Tryz.func34,Tryz.ntmps34
 go_wp2_with fail;refine cM.mono ?_;rintro e w1 ⟨rfl,hb⟩;have hf:=zLm (.int .i64 (S:Int)) (.int .i64 (D:Int)) (.bool G) w1;go_wp2_with fail
 go_ret
 exact⟨rfl,hb⟩
structure Gs (S:Nat->Prop) (w w':World):Prop where
 os:w'.os=w.os
 tape:w'.tape=w.tape
 output:w'.output=w.output
 size:w.heap.size<=w'.heap.size
 block:∀k,k<w.heap.size->¬S k->w'.heap[k]? = w.heap[k]?
theorem Gs.refl (S:Nat->Prop) (w:World):Gs S w w:=⟨rfl,rfl,rfl,Nat.le_refl _,fun _ _ _=>rfl⟩
theorem Gs.trans {S:Nat->Prop} {a b c:World} (h:Gs S a b) (k:Gs S b c):Gs S a c:=
 ⟨k.os.trans h.os,k.tape.trans h.tape,k.output.trans h.output,Nat.le_trans h.size k.size,fun i hi hn=>(k.block i (Nat.lt_of_lt_of_le hi h.size) hn).trans (h.block i hi hn)⟩
theorem Gs.of {S:Nat->Prop} {w w':World} (u:Up w w'):Gs S w w':=⟨u.os,u.tape,u.output,u.size,fun k hk _=>u.block k hk⟩
theorem Gs.wide {S S':Nat->Prop} {w w':World} (h:Gs S w w') (hS:∀k,k<w.heap.size->S k->S' k):Gs S' w w':=⟨h.os,h.tape,h.output,h.size,fun k hk hn=>h.block k hk fun hs=>hn (hS k hk hs)⟩
theorem Gs.up {S:Nat->Prop} {W w w':World} (u:Up W w) (h:Gs S w w') (hS:∀k,S k->W.heap.size<=k):Up W w':=
 ⟨h.os.trans u.os,h.tape.trans u.tape,h.output.trans u.output,Nat.le_trans u.size h.size,fun k hk=>(h.block k (Nat.lt_of_lt_of_le hk u.size) fun hs=>absurd (hS k hs) (by omega)).trans (u.block k hk)⟩
theorem Gs.row {S:Nat->Prop} {w w':World} (h:Gs S w w') {b:Nat} {o:Obj} (hb:w.heap[b]? = some o) (hn:¬S b):w'.heap[b]? = some o:=(h.block b (qC hb) hn).trans hb
theorem Gs.cell {S:Nat->Prop} {w w':World} (h:Gs S w w') {p:Addr} {v:Value} (hc:w.cell? p=some v) (hn:¬S p.block):w'.cell? p=some v:=(World.cell?_of_block (h.block p.block (zZ hc) hn)).trans hc
theorem Gs.alloc {S:Nat->Prop} {a w:World} (h:Gs S a w) (o:Obj):Gs S a (w.alloc o):=h.trans (Gs.of ((Up.refl w).alloc o))
theorem Gs.set {S:Nat->Prop} {a w:World} (h:Gs S a w) (p:Addr) (u:Value) (hp:S p.block\/a.heap.size<=p.block):Gs S a (w.setCell p u):=
 ⟨h.os,h.tape,h.output,by simpa [World.setCell] using h.size,fun k hk hn=>(Below.heap_setCell _ _ _ _ (fun e=>by rcases hp with hp | hp;exact hn (by rw[e];exact hp);omega)).trans (h.block k hk hn)⟩
theorem Gs.grown {S:Nat->Prop} {a w w':World} {r:Option Nat} (h:Gs S a w) (k:w.grownBy w' r) (hr:∀g,r=some g->S g\/a.heap.size<=g):Gs S a w':=
 ⟨k.os.trans h.os,k.tape.trans h.tape,k.output.trans h.output,Nat.le_trans h.size k.size,fun i hi hn=>(k.block i (Nat.lt_of_lt_of_le hi h.size) fun e=>by rcases hr i e.symm with h1 | h1;exact hn h1;omega).trans (h.block i hi hn)⟩
def On (b:Nat) (k:Nat):Prop:=k=b
theorem NewT.gs {S:Nat->Prop} {W a w:World} {v:Value} {t:Tr} (h:NewT W a v t) (u:Gs S a w) (hS:∀k,S k->k<W.heap.size):NewT W w v t:=
 InT.keep h (fun _ hq=>⟨hq.1,Nat.lt_of_lt_of_le hq.2 u.size⟩) fun k hk=>u.block k hk.2 fun hs=>by have:=hS k hs;have:=hk.1;omega
def Psr (w:World) (b:Nat) (v:Value) (i:Nat) (e:Int):Prop:=w.heap[b]? = some (.cells #[v,.int .i64 (i:Int),.int .i64 e] 67 (0,0))
theorem Psr.cells {w:World} {b:Nat} {v:Value} {i:Nat} {e:Int} (h:Psr w b v i e):w.cell? ⟨b,0,none⟩=some v/\w.cell? ⟨b,1,none⟩=some (.int .i64 (i:Int))/\w.cell? ⟨b,2,none⟩=some (.int .i64 e)/\w.frozen? ⟨b,1,none⟩=false/\w.frozen? ⟨b,2,none⟩=false:=
 ⟨cell_of_row w b 0 _ _ _ h,cell_of_row w b 1 _ _ _ h,cell_of_row w b 2 _ _ _ h,frozen_of_row w b 1 _ _ h,frozen_of_row w b 2 _ _ h⟩
theorem Psr.up {w w':World} {b:Nat} {v:Value} {i:Nat} {e:Int} (h:Psr w b v i e) (u:Up w w'):Psr w' b v i e:=u.row h
theorem Psr.at {w:World} {b:Nat} {v:Value} {i:Nat} {e:Int} (h:Psr w b v i e) (j:Int) (k:Nat) (hj:j=(k:Int)):Psr (w.setCell ⟨b,1,none⟩ (.int .i64 j)) b v k e:=by
 unfold Psr at h ⊢
 simp[World.setCell,Array.getElem?_modify,h,hj]
theorem Psr.er {w:World} {b:Nat} {v:Value} {i:Nat} {e:Int} (h:Psr w b v i e) (e':Int):Psr (w.setCell ⟨b,2,none⟩ (.int .i64 e')) b v i e':=by
 unfold Psr at h ⊢
 simp[World.setCell,Array.getElem?_modify,h]
structure Toks (nk lg:ByteArray->Bool) (W0:World) (v:Value) (l:List Tk):Prop where
 key:∀(i:Nat) (x:ByteArray) (w:World),Up W0 w->Calls Tryz.prog 114 #[v,.int .i64 (i:Int),.string x] w (BoU (key l i x) w)
 name:∀(i:Nat) (w:World),Up W0 w->Calls Tryz.prog 75 #[v,.int .i64 (i:Int)] w (NaP (nam nk l i) w)
 long:∀(i:Nat) (w:World),Up W0 w->Calls Tryz.prog 45 #[v,.int .i64 (i:Int)] w (NaP (nam lg l i) w)
def PsP (S:Nat->Prop) (b:Nat) (v:Value) (i:Nat) (e:Int) (w:World) (en:Ending) (w':World):Prop:=(∃u,en = .returned u)/\Gs S w w'/\Psr w' b v i e
theorem vZ (b:Nat) (v:Value) (i:Nat) (e er:Int) (w:World) (h:Psr w b v i e) :
  Calls Tryz.prog 76 #[.pointer (some ⟨b,0,none⟩),.int .i64 er] w (PsP (On b) b v i (if e=0 then er else e) w):=by
 obtain⟨c0,c1,c2,f1,f2⟩:=h.cells;have hb:b<w.heap.size:=qC h;have H:=Lib.hid h;clear h
 by_cases he:e=0
 ·rw[if_pos he]
  subst he
  go_enter Tryz.func76,Tryz.ntmps76
  go_wp2_with fail;go_end0;exact⟨⟨_,rfl⟩,(Gs.refl _ _).set _ _ (.inl rfl),H.out.er _⟩
 ·rw[if_neg he]
  go_enter Tryz.func76,Tryz.ntmps76
  go_wp2_with fail;go_end0;exact⟨⟨_,rfl⟩,Gs.refl _ _,H.out⟩
def tkB (l:List Tk) (i:Nat) (e:Int) (x:ByteArray):Bool:=decide (e=0)&&key l i x
section
variable {nk lg:ByteArray->Bool}
theorem yW {W0:World} {l:List Tk} (b:Nat) (v:Value) (i:Nat) (e:Int) (x:ByteArray) (w:World) (T:Toks nk lg W0 v l) (h:Psr w b v i e) (hu:Up W0 w) :
  Calls Tryz.prog 63 #[.pointer (some ⟨b,0,none⟩),.string x] w (BoU (tkB l i e x) w):=by
 obtain⟨c0,c1,c2,f1,f2⟩:=h.cells;have hb:b<w.heap.size:=qC h;clear h f1 f2
 by_cases he:e=0
 ·subst he
  have c0u:∀u:Upw w,u.w.cell? ⟨b,0,none⟩=some v:=Upw.cell c0;have c1u:∀u:Upw w,u.w.cell? ⟨b,1,none⟩=some (.int .i64 (i:Int)):=Upw.cell c1;have c2u:∀u:Upw w,u.w.cell? ⟨b,2,none⟩=some (.int .i64 0):=Upw.cell c2;have CK:∀u:Upw w,Calls Tryz.prog 114 #[v,.int .i64 (i:Int),.string x] u.w fun e w'=>e = .returned (.bool (key l i x))/\Up w w':=fun u=>(T.key i x u.w (hu.trans u.h)).mono fun e w' ⟨h1,h2⟩=>⟨h1,u.h.trans h2⟩
  have HK:=Lib.hid CK;have U0:=Lib.hid (Up.refl w);have HB:Hid (tkB l i 0 x=key l i x):=Lib.hid (by unfold tkB;rw[decide_eq_true rfl,Bool.true_and]);rw[HB.out];clear CK c0 c1 c2 hu T
  go_enter Tryz.func63,Tryz.ntmps63
  go_wp2_with fail;refine zT (W:=w) U0.out (by kernel_rfl) (by kernel_rfl) ?_
  repeat (go_big_quiet_step (first
   | (go_at_call 114;exact Calls.upw (HK.out _))))
  refine wpQuiet_nil ?_;rintro _ ⟨⟨w9,u9⟩,rfl⟩;go_wp2_with fail
  go_ret
  exact vF rfl u9
 ·have HB:Hid (tkB l i e x=false):=Lib.hid (by unfold tkB;rw[decide_eq_false he,Bool.false_and])
  rw[HB.out];have he':(e==0)=false:=by rw[beq_eq_false_iff_ne];exact he
  have c2u:∀u:Upw w,u.w.cell? ⟨b,2,none⟩=some (.int .i64 e):=Upw.cell c2;have U0:=Lib.hid (Up.refl w);clear c0 c1 c2 hu T he
  go_enter Tryz.func63,Tryz.ntmps63
  go_wp2_with fail;refine zT (W:=w) U0.out (by kernel_rfl) (by kernel_rfl) ?_
  repeat (go_big_quiet_step (fail))
  refine wpQuiet_nil ?_;rintro _ ⟨⟨w9,u9⟩,rfl⟩;go_wp2_with fail
  go_ret
  exact vF rfl u9
def TaP (b:Nat) (v:Value) (i:Nat) (e:Int) (d:Bool) (w:World) (en:Ending) (w':World):Prop:=en = .returned (.bool d)/\Gs (On b) w w'/\Psr w' b v (if d then i+1 else i) e
theorem qP {W0:World} {l:List Tk} (b:Nat) (v:Value) (i:Nat) (e:Int) (x:ByteArray) (w:World) (T:Toks nk lg W0 v l) (h:Psr w b v i e) (hu:Up W0 w) (hi:i<=1000000) :
  Calls Tryz.prog 38 #[.pointer (some ⟨b,0,none⟩),.string x] w (TaP b v i e (tkB l i e x) w):=by
 have cS:=yW b v i e x w T h hu;have hb:b<w.heap.size:=qC h;have H:=Lib.hid h;obtain⟨d,hd⟩:∃d,tkB l i e x=d:=⟨_,rfl⟩;rw[hd] at cS ⊢;have hw:IntKind.i64.wrap ((i:Int)+1)=(i:Int)+1:=by rw[IntKind.wrap_i64];omega
 clear h hu T hd
 cases d
 ·go_enter Tryz.func38,Tryz.ntmps38
  go_wp2_with fail;refine cS.mono ?_;rintro en w1 ⟨rfl,u1⟩;go_wp2_with fail
  go_ret
  exact⟨rfl,Gs.of u1,H.out.up u1⟩
 ·go_enter Tryz.func38,Tryz.ntmps38
  go_wp2_with fail;refine cS.mono ?_;rintro en w1 ⟨rfl,u1⟩;have h1:=H.out.up u1;obtain⟨c0,c1,c2,f1,f2⟩:=h1.cells;have H1:=Lib.hid h1;have G1:=Lib.hid (Gs.of (S:=On b) u1);clear u1 h1 c0 c2 f2;go_wp2_with fail
  go_ret
  exact⟨rfl,G1.out.set _ _ (.inl rfl),H1.out.at _ _ (by rw[if_pos rfl];omega)⟩
def neI (i:Nat) (d:Bool):Nat:=if d then i+1 else i
def neE (e:Int) (d:Bool):Int:=if d then e else if e=0 then 6 else e
theorem zN {W0:World} {l:List Tk} (b:Nat) (v:Value) (i:Nat) (e:Int) (x:ByteArray) (w:World) (T:Toks nk lg W0 v l) (h:Psr w b v i e) (hu:Up W0 w) (hi:i<=1000000) :
  Calls Tryz.prog 43 #[.pointer (some ⟨b,0,none⟩),.string x] w (PsP (On b) b v (neI i (tkB l i e x)) (neE e (tkB l i e x)) w):=by
 have cS:=qP b v i e x w T h hu hi;obtain⟨d,hd⟩:∃d,tkB l i e x=d:=⟨_,rfl⟩;rw[hd] at cS ⊢;clear h hu T hd
 cases d
 ·go_enter Tryz.func43,Tryz.ntmps43
  go_wp2_with fail;refine cS.mono ?_;rintro en w1 ⟨rfl,g1,h1⟩;go_wp2_with fail;refine(vZ b v i e 6 w1 h1).mono ?_;rintro en w2 ⟨⟨u,rfl⟩,g2,h2⟩;go_wp2_with fail;go_end0;exact⟨⟨_,rfl⟩,g1.trans g2,h2⟩
 ·go_enter Tryz.func43,Tryz.ntmps43
  go_wp2_with fail;refine cS.mono ?_;rintro en w1 ⟨rfl,g1,h1⟩;go_wp2_with fail;go_end0;exact⟨⟨_,rfl⟩,g1,h1⟩
end
def EntF (k:FuncId):Prop:=∀(args:Array Value) (w:World),(callFunc k args).run Tryz.prog w = .ok (.enter k args) w
theorem xT:(Tryz.prog.info? 24).map (fun i=>(i.zero,i.size,i.bytes))=some (some (.pointer none),1,8):=by kernel_rfl
def PaT (S:Nat->Prop) (b:Nat) (v:Value) (R:Rs Tr) (J:Tr->World->Prop) (w:World) (en:Ending) (w':World):Prop:=
 ∃A,en = .returned (.pointer A)/\Gs S w w'/\match R with
  | .inl (t,j)=>NewT w w' (.pointer A) t/\Psr w' b v j 0/\J t w'
  | .inr (p,r)=>Psr w' b v p r
def Ptrs (ps:List Value):Prop:=∀u∈ps,∃A,u = .pointer A
theorem Ptrs.snoc {ps:List Value} (h:Ptrs ps) (A:Option Addr):Ptrs (ps++[.pointer A]):=fun u hu=>by
 rcases List.mem_append.1 hu with hu | hu
 ·exact h u hu
 ·exact⟨A,List.mem_singleton.1 hu⟩
structure RwO (B0:Nat) (w:World) (vo:Value) (ps:List Value):Prop where
 own:w.ownsRow B0 24 1 vo ps.length ps
 ptr:Ptrs ps
theorem kY {S:Nat->Prop} {B0:Nat} {a b:World} {v:Value} {n:Nat} {xs:List Value} {e:TypeId} (h:a.ownsRow B0 e 1 v n xs) (u:Gs S a b) (hS:∀k,S k->k<B0):b.ownsRow B0 e 1 v n xs:=by
 obtain⟨h1,h2⟩:=h;refine⟨h1,?_⟩
 rcases h2 with h2 | ⟨g,cap,cur,h3,h4,h5,h6⟩
 ·exact .inl h2
 ·exact .inr ⟨g,cap,cur,h3,h4,u.row h5 (fun hs=>by have:=hS g hs;omega),h6⟩
def RwT (W w:World) (vo:Value) (ps:List Value) (f:Fr):Prop:=PtF w (fun q=>NewS W w q/\vo.ownBlock≠some q) ps f
theorem RwT.gs {S:Nat->Prop} {W w w':World} {vo:Value} {ps:List Value} {f:Fr} (h:RwT W w vo ps f) (g:Gs S w w') (hS:∀k,S k->k<W.heap.size):RwT W w' vo ps f:=
 PtF.keep (fun _ hq=>⟨⟨hq.1.1,Nat.lt_of_lt_of_le hq.1.2 g.size⟩,hq.2⟩) (fun q hq=>g.block q hq.1.2 fun hs=>by have:=hS q hs;have:=hq.1.1;omega) h
theorem RwT.len {W w:World} {vo:Value} {ps:List Value} {f:Fr} (h:RwT W w vo ps f):ps.length=f.len:=PtF.len h
def RowP (S:Nat->Prop) (b:Nat) (v:Value) (R:Rs Fr) (J:Fr->World->Prop) (w:World) (en:Ending) (w':World):Prop:=
 ∃vo ps,en = .returned vo/\RwO w.heap.size w' vo ps/\0<ps.length/\ps.length<=1000002/\Gs S w w'/\match R with
  | .inl (f,j)=>RwT w w' vo ps f/\Psr w' b v j 0/\J f w'
  | .inr (p,r)=>Psr w' b v p r
def posW (b:Nat) (w:World):Nat:=match w.cell? ⟨b,1,none⟩ with
 | some v=>(intOf v).toNat
 | none=>0
theorem Psr.pos {w:World} {b:Nat} {v:Value} {i:Nat} {e:Int} (h:Psr w b v i e):posW b w=i:=by
 unfold posW;rw[h.cells.2.1]
 simp[intOf]
section
variable {nk lg:ByteArray->Bool}
inductive RwL (i0:Nat) (l:List Tk) (m:ByteArray) (b:Nat) (v:Value) (R:Rs Fr) (F:Fr->Nat->Rs Fr) (J:Fr->World->Prop) (W w:World) (vo:Value) (ps:List Value):Prop
 | good (acc:Fr) (j:Nat) (hlo:i0<=j) (hj:j<=l.length) (hacc:acc.len+i0<=j) (hR:R=if key l j m then F acc (j+1) else .inl (acc,j)) (hT:RwT W w vo ps acc) (hp:Psr w b v j 0) (hJ:J acc w):RwL i0 l m b v R F J W w vo ps
 | bad (p:Nat) (r:Int) (hr:¬r=0) (hpl:p<=l.length) (hR:R = .inr (p,r)) (hp:Psr w b v p r):RwL i0 l m b v R F J W w vo ps
theorem RwT.more {S:Nat->Prop} {W w w5 w6:World} {vo v6:Value} {ps:List Value} {f:Fr} {t:Tr} {A:Option Addr} {g:Nat} (h:RwT W w vo ps f) (hS:∀k,S k->k<W.heap.size) (u:Gs S w w5) (hW:W.heap.size<=w.heap.size) (hlt:∀g,vo.ownBlock=some g->g<w.heap.size)
  (ht:NewT w w5 (.pointer A) t) (hv:v6.ownBlock=some g) (hg:w5.grownBy w6 vo.ownBlock) (hat:vo.ownBlock=some g\/g=w5.heap.size):RwT W w6 v6 (ps++[.pointer A]) (f.app (fr1 t)):=by
 have hz:=hg.size;have hgn:∀q,q<w5.heap.size->vo.ownBlock≠some q->v6.ownBlock≠some q:=fun q hq hne e=>by
  rw[hv] at e;injection e with e
  rcases hat with h1 | h1
  ·rw[e] at h1;exact hne h1
  ·omega
 have kp:∀q,q<w5.heap.size->vo.ownBlock≠some q->w6.heap[q]? = w5.heap[q]?:=fun q hq hne=>hg.block q hq fun e=>hne e.symm
 have h5:=h.gs u hS;refine PtF.snoc (t:=t) ?_ (PtF.keep (fun q hq=>⟨⟨hq.1.1,by have:=hq.1.2;omega⟩,hgn q hq.1.2 hq.2⟩) (fun q hq=>kp q hq.1.2 hq.2) h5);have hne:∀q,NewS w w5 q->vo.ownBlock≠some q:=fun q hq e=>by have:=hlt q e;have:=hq.1;omega
 exact InT.keep ht (fun q hq=>⟨⟨by have:=hq.1;omega,by have:=hq.2;omega⟩,hgn q hq.2 (hne q hq)⟩) fun q hq=>kp q hq.2 (hne q hq)
theorem pW {W0 w0:World} {l:List Tk} (b:Nat) (v:Value) (S:Nat->Prop) (hS:∀k,S k->k<w0.heap.size) (hSb:S b) (hSW:∀k,S k->W0.heap.size<=k) (m:ByteArray) (part:Fr->Nat->Rs Tr) (ha:∀acc i,Ahead i (part acc i)) (hle:∀acc i,i<=l.length->LeOk l.length (part acc i))
  (k:FuncId) (pre cap:Array Value) (hE:EntF k) (J:Fr->World->Prop) (hJ:∀acc w w',J acc w->(∀q,q<w0.heap.size->q≠b->w'.heap[q]? = w.heap[q]?)->J acc w')
  (F:Fr->Nat->Rs Fr) (hF:∀acc i,i<=l.length->F acc i=rowS l m (part acc i) acc F)
  (i:Nat) (hi:i<=l.length)
  (hp:∀acc j w,i<=j->j<=l.length->acc.len+i<=j->Gs S w0 w->J acc w->Psr w b v j 0->Calls Tryz.prog k (pre++cap) w (PaT S b v (part acc j) (fun t=>J (acc.app (fr1 t))) w))
  (T:Toks nk lg W0 v l) (hu:Up W0 w0) (hl:l.length<=100000) (h:Psr w0 b v i 0) (hJ0:J .nil w0) :
  Calls Tryz.prog 179 #[.pointer (some ⟨b,0,none⟩),.string m,.func (.func k) pre cap] w0 (RowP S b v (F .nil i) J w0):=by
 have cP:=hp .nil i w0 (Nat.le_refl _) hi (Nat.le_of_eq (Nat.zero_add i)) (Gs.refl _ _) hJ0 h;obtain⟨R,hR⟩:∃R,F .nil i=R:=⟨_,rfl⟩;have hR0:R=rowS l m (part .nil i) .nil F:=by rw[<- hR,hF .nil i hi]
 rw[hR];have HR0:=Lib.hid hR0;have HF:=Lib.hid hF;have HP:=Lib.hid hp;have HJ:=Lib.hid hJ;have HS:=Lib.hid hS;have HA:=Lib.hid ha;have HLE:=Lib.hid hle;have HSW:=Lib.hid hSW;have HE:=Lib.hid hE;have HB0:b<w0.heap.size:=hS b hSb;have hAh:=ha .nil i;have hLe:=hle .nil i hi;have HU:=Lib.hid hu;clear hF hp hJ hS ha hle hSW hJ0 hR hR0 hu h;obtain⟨i0,hi0,hz0,hz1,hz2⟩:=info_parts zO9
 go_enter Tryz.func179,Tryz.ntmps179
 go_wp2_with fail;rw[HE.out,Oper.upon_enter];refine cP.mono ?_;rintro en w1 ⟨A1,rfl,g1,hR1⟩;go_wp2_with fail;obtain⟨W1,hW1⟩:∃W1,w1.alloc (.cells #[.pointer A1] 24)=W1:=⟨_,rfl⟩;have u1:Up w1 W1:=by rw[<- hW1];exact(Up.refl w1).alloc _
 have ho1:W1.ownsRow w0.heap.size 24 1 (.slice (some ⟨w1.heap.size,0,none⟩) 1 1) 1 [.pointer A1]:=by rw[<- hW1];exact World.ownsRow_lit w1 #[.pointer A1] 1 g1.size (by unfold maxLen;omega) rfl
 have hst:RwL i l m b v R F J w0 W1 (.slice (some ⟨w1.heap.size,0,none⟩) 1 1) [.pointer A1]:=by
  cases hp0:part .nil i with
  | inr e=>
   obtain⟨p,r⟩:=e;rw[hp0] at hR1 hLe;refine .bad p r (hLe.2 p r rfl) hLe.1 (by rw[HR0.out,hp0];rfl) (Psr.up hR1 u1)
  | inl e=>
   obtain⟨t,j⟩:=e;rw[hp0] at hR1 hLe hAh;obtain⟨n1,p1,j1⟩:=hR1;have hij:i<j:=hAh;refine .good (Fr.app .nil (fr1 t)) j (Nat.le_of_lt hij) hLe.1 (by show 1+i<=j;omega) (by rw[HR0.out,hp0];rfl) ?_ (p1.up u1) (HJ.out _ _ _ j1 fun q hq _=>u1.block q (by have:=g1.size;omega));have hs1:w1.heap.size<W1.heap.size:=by rw[<- hW1];simp
   exact⟨InT.keep n1 (fun q hq=>⟨⟨hq.1,by have:=hq.2;omega⟩,fun e=>by injection e with e;have:=hq.2;simp only at e;omega⟩) (fun q hq=>u1.block q hq.2),trivial⟩
 have HST1:=Lib.hid hst;have HO1:=Lib.hid ho1;have HG1:Hid (Gs S w0 W1):=Lib.hid (g1.trans (Gs.of u1));have HC:Hid (∀(j:Nat) (w:World),Gs S w0 w->Psr w b v j 0->j<=l.length->Calls Tryz.prog 38 #[.pointer (some ⟨b,0,none⟩),.string m] w (TaP b v j 0 (key l j m) w)):=Lib.hid fun j w g hps hj=>by
  have h:=qP b v j 0 m w T hps (g.up HU.out HSW.out) (by omega);have e:tkB l j 0 m=key l j m:=by unfold tkB;rw[decide_eq_true rfl,Bool.true_and]
  rw[e] at h;exact h
 have HCE:Hid (∀(j:Nat) (r:Int) (w:World),¬r=0->Gs S w0 w->Psr w b v j r->j<=1000000->Calls Tryz.prog 38 #[.pointer (some ⟨b,0,none⟩),.string m] w (TaP b v j r false w)):=Lib.hid fun j r w hr g hps hj=>by
  have h:=qP b v j r m w T hps (g.up HU.out HSW.out) hj;have e:tkB l j r m=false:=by unfold tkB;rw[decide_eq_false hr,Bool.false_and]
  rw[e] at h;exact h
 rw[hW1];clear hst ho1 u1 g1 hR1 cP hW1 hAh hLe T
 go_loopw [7] (fun vo wr=>∃ps,wr.ownsRow w0.heap.size 24 1 vo ps.length ps/\Ptrs ps/\0<ps.length/\ps.length<=l.length+1/\Gs S w0 wr/\RwL i l m b v R F J w0 wr vo ps) (fun _ wr=>l.length+1-posW b wr)
 case atStart=>exact⟨_,HO1.out,fun u hu=>⟨_,List.mem_singleton.1 hu⟩,Nat.succ_pos _,by show 1<=_;omega,HG1.out,HST1.out⟩
 case round=>
  obtain⟨ps,ho,hpt,hp0,hpl,hg,hst⟩:=hrel;obtain⟨g,cp,rfl,hbg,hltg⟩:=ho.form hp0;have HO:=Lib.hid ho;have HG:=Lib.hid hg;have HPT:=Lib.hid hpt;have hgs:=hg.size
  cases hst with
  | bad p r hr hpb hR hps=>
   have cT:=HCE.out p r wr hr hg hps (by omega);have HR:=Lib.hid hR;have HRR:=Lib.hid hr;clear ho hg hpt hR hps hr;go_wp2_with fail;refine cT.mono ?_;rintro en w2 ⟨rfl,g2,h2⟩;go_wp2_with fail
   go_ret
   have g2':Gs S wr w2:=g2.wide fun q _ hq=>by rw[hq];exact hSb
   refine⟨_,ps,rfl,⟨kY HO.out g2' HS.out,HPT.out⟩,hp0,by omega,HG.out.trans g2',?_⟩;rw[HR.out];exact h2
  | good acc j hlo hj hacc hR hT hps hJ1=>
   have cT:=HC.out j wr hg hps hj;have HR:=Lib.hid hR;have HT:=Lib.hid hT;have HJ1:=Lib.hid hJ1;have hlen:=hT.len;have HLN:=Lib.hid hlen
   cases hK:key l j m with
   | false=>
    rw[hK] at cT;have HK:=Lib.hid hK;clear ho hg hpt hR hps hT hJ1 hK hlen;go_wp2_with fail;refine cT.mono ?_;rintro en w2 ⟨rfl,g2,h2⟩;go_wp2_with fail
    go_ret
    have g2':Gs S wr w2:=g2.wide fun q _ hq=>by rw[hq];exact hSb
    refine⟨_,ps,rfl,⟨kY HO.out g2' HS.out,HPT.out⟩,hp0,by omega,HG.out.trans g2',?_⟩;rw[HR.out,HK.out];exact⟨HT.out.gs g2' HS.out,h2,HJ.out _ _ _ HJ1.out fun q hq hn=>g2.block q (by omega) hn⟩
   | true=>
    rw[hK] at cT;have HK:=Lib.hid hK;have hjl:=zY hK;have hAh:=HA.out acc (j+1);have hLe:=HLE.out acc (j+1) (by omega);have HR2:Hid (R=rowS l m (part acc (j+1)) acc F):=Lib.hid (by rw[HR.out,HK.out,if_pos rfl,HF.out acc (j+1) (by omega)]);have hpln:ps.length<=l.length:=by omega
    clear ho hg hpt hR hT hJ1 hK hlen;obtain⟨n,hn⟩:∃n,ps.length=n:=⟨_,rfl⟩;have hpos:=hps.pos;rw[hn] at hp0 hpl hpln ⊢;clear hps;have HN:=Lib.hid hn;clear hn;go_wp2_with fail;refine cT.mono ?_;rintro en w2 ⟨rfl,g2,h2⟩;have g2':Gs S wr w2:=g2.wide fun q _ hq=>by rw[hq];exact hSb
    have cP:=HP.out acc (j+1) w2 (by omega) (by omega) (by omega) (HG.out.trans g2') (HJ.out _ _ _ HJ1.out fun q hq hn=>g2.block q (by omega) hn) h2;have G2:=Lib.hid g2';have hz2':=g2.size;clear g2 g2' h2;go_wp2_with fail;rw[HE.out,Oper.upon_enter];refine cP.mono ?_;rintro en w3 ⟨A3,rfl,g3,hR3⟩;have hg3s:=g3.size;have ho3:=kY (kY HO.out G2.out HS.out) g3 HS.out;rw[HN.out] at ho3;have HO3:=Lib.hid (ho3.alloc (.cells #[.pointer A3] 24));have HG3:Hid (Gs S wr w3):=Lib.hid (G2.out.trans g3);have HW3:Hid (w0.heap.size<=(w3.alloc (.cells #[.pointer A3] 24)).heap.size):=Lib.hid (by have:=g3.size;simp;omega);have HZ3:Hid ((w3.alloc (.cells #[.pointer A3] 24)).heap.size=w3.heap.size+1):=Lib.hid (by simp);have HR3:=Lib.hid hR3;clear ho3 g3 hR3 cP
    go_wp2_with (at_builtin;refine wpList_append_lies _ rfl _ _ 33 rfl w0.heap.size 24 i0 _ 1 8 Tryz.underlying33 hi0 hz0 hz1 hz2 rfl (by omega) (.slice (some ⟨g,0,none⟩) n cp) n ps rfl HO3.out ⟨w3.heap.size,0,none⟩ 1 1 [.pointer A3] rfl rfl (cell_one_new _ _ _) (by intro u hu;rw[List.mem_singleton.1 hu];rfl) (by omega) (by unfold maxLen;omega) (by omega) HW3.out (w3.heap.size+1) HZ3.out ?_;intro g6 cap6 w6 ho6 hg6 hat6 hlt6)
    have hgn:∀g',Value.ownBlock (.slice (some ⟨g,0,none⟩) n cp)=some g'->g'=g:=fun g' e=>by injection e with e;exact e.symm
    have hG6:Gs S w0 w6:=((HG.out.trans HG3.out).alloc _).grown hg6 fun g' e=>.inr (by rw[hgn g' e];exact hbg)
    have hps6:∀p r,Psr w3 b v p r->Psr w6 b v p r:=fun p r h=>(hg6.block b (by have:=HZ3.out;have:=hg3s;omega) fun e=>by have:=hgn b e.symm;omega).trans (((Up.refl w3).alloc _).row h)
    have hlen6:(ps++[Value.pointer A3]).length=n+1:=by rw[List.length_append,HN.out];rfl
    have hsame:∀q,q<w0.heap.size->w6.heap[q]? = w3.heap[q]?:=fun q hq=>(hg6.block q (by have:=HZ3.out;omega) fun e=>by have:=hgn q e.symm;omega).trans (((Up.refl w3).alloc _).block q (by omega))
    have hR3:=HR3.out
    cases hpt:part acc (j+1) with
    | inr e=>
     obtain⟨p,r⟩:=e;rw[hpt] at hR3 hAh hLe;have hjp:j+1<=p:=hAh;have hpl6:=hps6 p r hR3;refine⟨⟨ps++[.pointer A3],by rw[hlen6];exact ho6,HPT.out.snoc A3,by omega,by omega,hG6,.bad p r (hLe.2 p r rfl) hLe.1 (by rw[HR2.out,hpt];rfl) hpl6⟩,?_⟩;rw[hpl6.pos,hpos];omega
    | inl e=>
     obtain⟨t,q⟩:=e;rw[hpt] at hR3 hAh hLe;have hjq:j+1<q:=hAh;obtain⟨n3,p3,j3⟩:=hR3;have hpl6:=hps6 q 0 p3;refine⟨⟨ps++[.pointer A3],by rw[hlen6];exact ho6,HPT.out.snoc A3,by omega,by omega,hG6,.good (acc.app (fr1 t)) q (by omega) hLe.1 (by rw[Fr.len_app];show acc.len+1+i<=q;omega) (by rw[HR2.out,hpt];rfl) ?_ hpl6 (HJ.out _ _ _ j3 fun x hx _=>hsame x hx)⟩,?_⟩
     ·have hT':=HT.out
      rw[HN.out] at hT';exact hT'.more HS.out (HG3.out.alloc _) hgs (fun g' e=>by rw[hgn g' e];exact hltg) ((n3.base hz2').up ((Up.refl w3).alloc _)) rfl hg6 (by rcases hat6 with h | h;exact .inl h;exact .inr (by rw[HZ3.out];exact h))
     ·rw[hpl6.pos,hpos]
      omega
theorem pY {W0 w0:World} {l:List Tk} (b:Nat) (v:Value) (S:Nat->Prop) (hS:∀k,S k->k<w0.heap.size) (hSb:S b) (hSW:∀k,S k->W0.heap.size<=k) (m:ByteArray)
  (k:FuncId) (pre cap:Array Value) (hE:EntF k) (i:Nat) (r:Int) (hr:¬r=0) (R:Rs Tr) (hR:R = .inr (i,r)) (J:Tr->World->Prop)
  (hp:Calls Tryz.prog k (pre++cap) w0 (PaT S b v R J w0)) (J':Fr->World->Prop)
  (T:Toks nk lg W0 v l) (hu:Up W0 w0) (hi:i<=1000000) :
  Calls Tryz.prog 179 #[.pointer (some ⟨b,0,none⟩),.string m,.func (.func k) pre cap] w0 (RowP S b v (.inr (i,r)) J' w0):=by
 subst hR;have HS:=Lib.hid hS;have HSW:=Lib.hid hSW;have HE:=Lib.hid hE;have HB0:b<w0.heap.size:=hS b hSb;have HU:=Lib.hid hu;clear hS hSW hu
 go_enter Tryz.func179,Tryz.ntmps179
 go_wp2_with fail;rw[HE.out,Oper.upon_enter];refine hp.mono ?_;rintro en w1 ⟨A1,rfl,g1,hR1⟩;go_wp2_with fail;obtain⟨W1,hW1⟩:∃W1,w1.alloc (.cells #[.pointer A1] 24)=W1:=⟨_,rfl⟩;have u1:Up w1 W1:=by rw[<- hW1];exact(Up.refl w1).alloc _
 have ho1:W1.ownsRow w0.heap.size 24 1 (.slice (some ⟨w1.heap.size,0,none⟩) 1 1) 1 [.pointer A1]:=by rw[<- hW1];exact World.ownsRow_lit w1 #[.pointer A1] 1 g1.size (by unfold maxLen;omega) rfl
 have HO1:=Lib.hid ho1;have hg1:Gs S w0 W1:=g1.trans (Gs.of u1);have hps1:Psr W1 b v i r:=Psr.up hR1 u1;have cT:=qP b v i r m W1 T hps1 (hg1.up HU.out HSW.out) hi;have e:tkB l i r m=false:=by unfold tkB;rw[decide_eq_false hr,Bool.false_and]
 rw[e] at cT;have HG1:=Lib.hid hg1;rw[hW1];clear ho1 u1 g1 hR1 hW1 hg1 hps1 e hp T
 go_loopw [7] (fun vo wr=>vo = .slice (some ⟨w1.heap.size,0,none⟩) 1 1/\wr=W1) (fun _ _=>0)
 case atStart=>exact⟨rfl,rfl⟩
 case round=>
  obtain⟨rfl,rfl⟩:=hrel;go_wp2_with fail;refine cT.mono ?_;rintro en w2 ⟨rfl,g2,h2⟩;go_wp2_with fail
  go_ret
  have g2':Gs S wr w2:=g2.wide fun q _ hq=>by rw[hq];exact hSb
  exact⟨_,[.pointer A1],rfl,⟨kY HO1.out g2' HS.out,fun u hu=>⟨_,List.mem_singleton.1 hu⟩⟩,Nat.succ_pos _,by show 1<=_;omega,HG1.out.trans g2',h2⟩
end
end Go.Proofs.YtgeghilbikljcaaGreatDoor
