/-
  The law's few: what it tells.
-/
import Derived.Test.YtbpijnalmakfaaaGreatDoorGw34
import Derived.Deep.DeepCutAuto
import Derived.Laws.AppendOwnNone
set_option maxHeartbeats 40000000
set_option maxRecDepth 100000
namespace Go.Proofs.YtbpijnalmakfaaaGreatDoor
open Go.RowKit
def trT (s:ByteArray):ByteArray:=s.extract 0 (min s.size 130)
theorem zFl (s:ByteArray):(trT s).size≤130:=by
 unfold trT;rw[Lib.size_eq,Lib.extract_data,List.length_take];omega
def fwC (c:Cel):Cel:=⟨⟨c.x.k,c.x.n,trT c.x.a,trT c.x.m⟩,c.ks.take 12⟩
def fewL (cs:List Cel):List Cel:=(cs.take 80).map fwC
theorem zTp (cs:List Cel):(fewL cs).length≤80:=by unfold fewL;rw[List.length_map,List.length_take];omega
theorem zAq (cs:List Cel):∀c∈fewL cs,c.ks.length≤12:=by
 intro c hc;obtain⟨d,_,rfl⟩:=List.mem_map.1 hc
 show(d.ks.take 12).length≤12
 rw[List.length_take];omega
theorem zLy {cs:List Cel} {k:Nat} {c:Cel} (h:cs[k]? = some c):(cs.take (k+1)).map fwC=(cs.take k).map fwC++[fwC c]:=by
 rw[List.take_add_one,h,List.map_append]
 rfl
theorem zTq {cs:List Cel} {k:Nat} (h:k≤80) (hk:k=cs.length∨k=80):fewL cs=(cs.take k).map fwC:=by
 unfold fewL
 rcases hk with rfl | rfl
 ·rw[List.take_of_length_le h,List.take_of_length_le (Nat.le_refl _)]
 ·rfl
theorem zFm {w wr w5 w6:World} {H OB B:Nat} {vo v6 kv:Value} {c:Cel} {out:List Cel} {vs:List Value} {ob:Obj} (hHO:H≤OB) (hOB:OB<B) (hB:B≤wr.heap.size) (hbw:Below H w wr)
  (ho:wr.ownsRow B 78 5 vo out.length (flat out vs)) (hf:CsF wr (So B wr vo) vs out) (hb5:Below wr.heap.size wr w5) (hx:wr.heap[OB]? = some (.cells #[vo] 38 (0,0)))
  (hkv:SpS w5 (fun q=>wr.heap.size≤q∧q<w5.heap.size) kv c.ks)
  (ho6:w6.ownsRow B 78 5 v6 (out.length+1) (flat out vs++[.int .i64 c.x.k,.int .i64 c.x.n,.string c.x.a,.string c.x.m,kv])) (hg6:(w5.alloc ob).grownBy w6 vo.ownBlock) (hat6:v6.ownBlock=vo.ownBlock∨v6.ownBlock=some (w5.heap.size+1)) :
  (w6.setCell ⟨OB,0,none⟩ v6).ownsRow B 78 5 v6 (out++[c]).length (flat (out++[c]) (vs++[kv]))∧CsF (w6.setCell ⟨OB,0,none⟩ v6) (So B (w6.setCell ⟨OB,0,none⟩ v6) v6) (vs++[kv]) (out++[c])∧
   (w6.setCell ⟨OB,0,none⟩ v6).heap[OB]? = some (.cells #[v6] 38 (0,0))∧Below H w (w6.setCell ⟨OB,0,none⟩ v6)∧(∀b,b<wr.heap.size→b≠OB→vo.ownBlock≠some b→(w6.setCell ⟨OB,0,none⟩ v6).heap[b]? = wr.heap[b]?):=by
 have hol:=ho.lt;have h6l:=ho6.lt;have hs5:=hb5.size;have hsa:(w5.alloc ob).heap.size=w5.heap.size+1:=by simp
 have hs6:=hg6.size;have hsz:(w6.setCell ⟨OB,0,none⟩ v6).heap.size=w6.heap.size:=by simp[World.setCell]
 have hst5:∀b,b<w5.heap.size→b≠OB→vo.ownBlock≠some b→(w6.setCell ⟨OB,0,none⟩ v6).heap[b]? = w5.heap[b]?:=by
  intro b h1 h2 h3;rw[Below.heap_setCell _ _ _ _ h2,hg6.block b (by omega) (fun e=>h3 e.symm),Below.heap_alloc _ _ _ h1]
 have hst:∀b,b<wr.heap.size→b≠OB→vo.ownBlock≠some b→(w6.setCell ⟨OB,0,none⟩ v6).heap[b]? = wr.heap[b]?:=fun b h1 h2 h3=>(hst5 b (by omega) h2 h3).trans (hb5.block b h1)
 have hvO:vo.ownBlock≠some OB:=fun e=>by have:=(hol OB e).1;omega
 have hx6:w6.heap[OB]? = some (.cells #[vo] 38 (0,0)):=by
  rw[hg6.block OB (by have:=qC hx;omega) (fun e=>hvO e.symm),Below.heap_alloc _ _ _ (by have:=qC hx;omega),hb5.block OB (qC hx)];exact hx
 have hv6:∀q,q<w5.heap.size→vo.ownBlock≠some q→v6.ownBlock≠some q:=by
  intro q h1 h2
  rcases hat6 with h | h
  ·rw[h];exact h2
  ·rw[h];intro e;injection e with e;omega
 refine⟨?_,?_,?_,?_,hst⟩
 ·rw[nC _ _ hf.len,List.length_append]
  exact zC ho6 _ _ fun g hg=>by have:=(h6l g hg).1;simp only;omega
 ·refine CsF.app (hf.keep (fun q hq=>⟨hq.1,by have:=hq.2.1;omega,hv6 q (by have:=hq.2.1;omega) hq.2.2⟩) fun b hb=>hst b hb.2.1 (by have:=hb.1;omega) hb.2.2) ⟨hkv.keep (fun q hq=>⟨by omega,by omega,hv6 q hq.2 (fun e=>by have:=(hol q e).2;omega)⟩) fun b hb=>hst5 b hb.2 (by omega) (fun e=>by have:=(hol b e).2;omega),trivial⟩
 ·rw[yQ _ hx6];rfl
 ·have hbs:=hbw.size
  exact((((hbw.trans (hb5.mono (by omega))).alloc (by omega) ob).grown hg6 (by omega) (fun g hg=>by have:=(hol g hg).1;omega))).setCell hHO _
theorem zFn (w:World) (base:Nat) (v:Value) (n:Nat) (xs:List Value) (hown:w.ownsRow base 3 1 v n xs) (c:Nat) :
  (Builtin.append_ #[76,76] 76 #[v,.slice none 0 c]).run Tryz.prog w = .ok v w:=by
 obtain⟨i0,hi,hz0,hz1,hz2⟩:=info_parts infoI
 rcases hown.2 with ⟨rfl,rfl⟩ | ⟨g,cap,cur,rfl,_,_,hnc,_⟩
 ·simp[Builtin.append_,run_underlying Tryz.underlying76,sizeOf,typeInfo,hi,Builtin.lenOf,Builtin.firstCells]
 ·simp[Builtin.append_,run_underlying Tryz.underlying76,sizeOf,typeInfo,hi,Builtin.lenOf,Builtin.firstCells,hnc,storeCells]
theorem zFo (w:World) (A:Option Addr) (M c:Nat) (l:List Int) (hM:l.length=M) (hs:∀(j:Nat) u,l[j]? = some u→∃b o,A=some ⟨b,o,none⟩∧b<w.heap.size∧w.cell? ⟨b,o+j,none⟩=some (.int .i64 u)) (hl:l.length≤12) :
  ∃v' w',(Builtin.append_ #[76,76] 76 #[.slice (some ⟨w.heap.size,0,none⟩) 0 0,.slice A M c]).run Tryz.prog (w.alloc (.cells #[] 3)) = .ok v' w'∧
   SpS w' (fun q=>w.heap.size≤q∧q<w'.heap.size) v' l∧Below w.heap.size w w':=by
 subst hM;obtain⟨i0,hi,hz0,hz1,hz2⟩:=info_parts infoI;have hown:=zFk (w:=w) (Nat.le_refl _) 3;have hba:=(Below.refl w.heap.size w).alloc (Nat.le_refl _) (.cells #[] 3)
 rcases A with _ | ad
 ·have hl:l=[]:=by
   cases l with
   | nil=>rfl
   | cons x t=>
    obtain⟨b,o,h,_⟩:=hs 0 x rfl
    cases h
  subst hl;exact⟨_,_,zFn _ _ _ _ _ hown c,SpS.own (l:=[]) hown (fun g hg=>by injection hg with hg;subst hg;simp),hba⟩
 ·obtain⟨v',w',h1,h2,h3,h4⟩:=run_append_own (P:=Tryz.prog) (w.alloc (.cells #[] 3)) w.heap.size 76 76 3 i0 (.int .i64 0) 1 8 Tryz.underlying76 hi hz0 hz1 hz2 rfl (by decide) _ 0 [] hown ad l.length c (ints l)
   (by simp[ints]) (fun j u hu=>by
    obtain⟨r,hr,rfl⟩:∃r,l[j]? = some r∧Value.int .i64 r=u:=by
     unfold ints at hu;rw[List.getElem?_map] at hu;exact Option.map_eq_some_iff.1 hu
    obtain⟨b,o,h,hb,hcell⟩:=hs j r hr;have h:=Option.some.inj h;subst h;rw[addAt];exact(hba.cell (p:=⟨b,o+j,none⟩) hb).trans hcell) (fun x hx=>by obtain⟨_,_,rfl⟩:=List.mem_map.1 hx;rfl) (by unfold maxLen;omega) (by omega) (by simp)
  refine⟨v',w',h1,SpS.own (l:=l) (by simpa using h2) (fun g hg=>h2.lt g hg),hba.grown h3 (by simp) (fun k hk=>by simp[Value.ownBlock] at hk;omega)⟩
theorem zQa {ops:Array Oper} {rest:List Oper} {o:Oper} {a:Act} {w w':World} {v v1 v2:Value} {Q:Exit→Act→World→Prop} (s x:Operand) (t:TypeId)
  (hw:Region.wanted o (yielded ops a.tmps)=true) (ho:o.op = .call {callee:=.builtin .append,args:=#[s,x],argTypes:=#[t,t]}) (h1:a.eval s=v1) (h2:a.eval x=v2)
  (hr:(Builtin.append_ #[t,t] o.type #[v1,v2]).run Tryz.prog w = .ok v w') (h:wpList Tryz.prog ops Q rest (a.put o.dst v) w'):wpList Tryz.prog ops Q (o::rest) a w:=by
 refine wpList_step fun K hK=>?_
 rw[if_pos hw];unfold Oper.wp execOp;simp only[ho,resolve,invoke,builtin,Sem.run_bind,Sem.run_pure,Result.andThen_ok,List.map_toArray,List.map_cons,List.map_nil,h1,h2,hr];exact hK _ _ h
theorem zFp {w7 w8:World} {ob o:Obj} {OB B n:Nat} {vo:Value} {xs:List Value} (ho:w7.ownsRow B 78 5 vo n xs) (hOB:OB<B) (hlt:OB<w7.heap.size) (hg:(w7.alloc ob).grownBy w8 vo.ownBlock) (hx:w7.heap[OB]? = some o):w8.heap[OB]? = some o:=
 ((hg.block OB (by simp;omega) (fun e=>by have:=(ho.lt OB e.symm).1;omega)).trans (Below.heap_alloc _ _ _ hlt)).trans hx
theorem zU (wr:World) {CB MA MM:Nat} {x n:Int} {XA XM:ByteArray} {k:Value} (h1:wr.heap.size=CB) (h2:XA.extract 0 MA=trT XA) (h3:XM.extract 0 MM=trT XM) :
  (wr.alloc (.cells #[.int .i64 x,.int .i64 n,.string (XA.extract 0 MA),.string (XM.extract 0 MM),k] 78)).drew.heap[CB]? = some (.cells #[.int .i64 x,.int .i64 n,.string (trT XA),.string (trT XM),k] 78 (0,0))∧Below wr.heap.size wr (wr.alloc (.cells #[.int .i64 x,.int .i64 n,.string (XA.extract 0 MA),.string (XM.extract 0 MM),k] 78)).drew:=by
 rw[←h1,←h2,←h3];exact⟨heap_alloc_new wr _,((Below.refl _ _).alloc (Nat.le_refl _) _).drew⟩
def zFq (cs:List Cel) (W:World) (e:Ending) (w':World):Prop:=∃v,e = .returned (.agg #[v])∧Cls w' w'.heap.size v (fewL cs)∧Below W.heap.size W w'
theorem zOz (cs:List Cel) (w wr:World) (H k:Nat) (vs:List Value) (VA:Option Addr) (VC:Nat) {N:Nat} (he:fewL cs=(cs.take k).map fwC) (hN:cs.length=N) (hH:w.heap.size=H) (hk:k≤N)
  (ho:wr.ownsRow (H+3) 78 5 (.slice VA k VC) k (flat ((cs.take k).map fwC) vs)) (hf:CsF wr (So (H+3) wr (.slice VA k VC)) vs ((cs.take k).map fwC)) (hb:Below H w wr) :
  zFq cs w (.returned (.agg #[.slice VA k VC])) (wr.setCell ⟨H+1,0,none⟩ (.slice VA k VC)):=by
 have hlen:((cs.take k).map fwC).length=k:=by rw[List.length_map,List.length_take];omega
 have hol:=ho.lt;have hown:OwnC (wr.setCell ⟨H+1,0,none⟩ (.slice VA k VC)) (H+3) (.slice VA k VC) (fewL cs):=by
  rw[he];refine⟨vs,?_,hf.keep (fun q hq=>⟨hq.1,by have:=hq.2.1;simpa [World.setCell] using this,hq.2.2⟩) fun b hb=>Below.heap_setCell _ _ _ _ (by have:=hb.1;simp only;omega)⟩;rw[hlen];exact zC ho _ _ fun g hg=>by have:=(hol g hg).1;simp only;omega
 exact⟨_,rfl,hown.cls,by rw[hH];exact hb.setCell (by simp only;omega) _⟩
theorem wtk {P:Program} {ops:Array Oper} {Q:Exit→Act→World→Prop} {md:Region.Mode} {i:Nat} {oi:Oper} {v:Value} {fuel:Nat} {listed:Array Bool} {a:Act} {w:World} (hi:ops[i]? = some oi) (hc:(Region.noSelect ops&&(Region.free md ops listed i&&(Region.ready md ops listed).contains i))=true)
  (hw:Region.wanted oi (yielded ops a.tmps)=true) (hy:∀w,(execOp a.eval oi).run P w = .ok (.value v) w) (h:wpAny P md ops Q fuel (listed.setIfInBounds i true) (a.put oi.dst v) w) (hQ:∀c a w,Q (.panic c) (a.put oi.dst v) w→Q (.panic c) a w:=by exact fun _ _ _ h=>h):wpAny P md ops Q (fuel+1) listed a w:=by
 rw[Bool.and_eq_true,Bool.and_eq_true] at hc;exact wpAny_take hi hc.1 hc.2.1 hc.2.2 hQ (Or.inl ⟨hw,hy⟩) h
theorem zAr (cs:List Cel) (w:World) (cv:Value) (hcl:Cls w w.heap.size cv cs) (hz:∀c∈cs,c.x.a.size≤9223372036854775807∧c.x.m.size≤9223372036854775807∧c.ks.length≤9223372036854775807) :
  Calls Tryz.prog 16 #[.agg #[cv]] w (zFq cs w):=by
 obtain⟨A,c,rfl,hc,hcell⟩:=hcl;have HCELL:=Lib.hid hcell;have HZ:=Lib.hid hz;obtain⟨N,hN⟩:∃N,cs.length=N:=⟨_,rfl⟩;rw[hN];have HN:=Lib.hid hN;obtain⟨H,hH⟩:∃H,w.heap.size=H:=⟨_,rfl⟩;have three:=vY w (.cells #[.slice A N c] 38) (.cells #[.slice none 0 0] 38) (.cells #[.slice none 0 0] 38) hH;have H3:=Lib.hid three;have HH:=Lib.hid hH;obtain⟨i0,hi,hz0,hz1,hz2⟩:=info_parts aZ;obtain⟨j0,hj,hy0,hy1,hy2⟩:=info_parts infoI;clear hcell hz hN hH three hc
 go_enter Tryz.func16,Tryz.ntmps16
 go_wp2_with fail;rw[HH.out]
 go_loopw [4,5] (fun i _ wr=>∃(k:Nat) (vo:Value) (vs:List Value),i = .int .i64 k∧k≤N∧k≤80∧wr.ownsRow (H+3) 78 5 vo k (flat ((cs.take k).map fwC) vs)∧CsF wr (So (H+3) wr vo) vs ((cs.take k).map fwC)∧wr.heap[H+2]? = some (.cells #[vo] 38 (0,0))∧
  wr.heap[H]? = some (.cells #[.slice A N c] 38 (0,0))∧wr.heap[H+1]? = some (.cells #[.slice none 0 0] 38 (0,0))∧Below H w wr) (fun i _ _=>81-(intOf i).toNat)
 case atStart=>
  obtain⟨t1,t2,t3,hb1,hs1⟩:=H3.out;exact⟨0,.slice none 0 0,[],rfl,Nat.zero_le _,Nat.zero_le _,World.ownsRow_nil _ _ _ _,trivial,t3,t1,t2,hb1⟩
 case round=>
  obtain⟨k,vo,vs,rfl,hk,hk60,ho,hf,hx,hxH,hx1,hbw⟩:=hrel;have hbs:=hbw.size;rw[HH.out] at hbs;have hXr:=qC hx;have cH:wr.cell? ⟨H,0,none⟩=some (.slice A N c):=cell_of_row wr H 0 _ _ _ hxH;have cO:wr.cell? ⟨H+2,0,none⟩=some vo:=cell_of_row wr (H+2) 0 _ _ _ hx;have cO2:wr.cell? ⟨H+1+1,0,none⟩=some vo:=cO;have fO:=frozen_of_row wr (H+2) 0 _ _ hx;have fO2:wr.frozen? ⟨H+1+1,0,none⟩=false:=fO;have cR:wr.cell? ⟨H+1,0,none⟩=some (.slice none 0 0):=cell_of_row wr (H+1) 0 _ _ _ hx1;have fR:=frozen_of_row wr (H+1) 0 _ _ hx1;have hHr:H<wr.heap.size:=by omega
  have HO:=Lib.hid ho;have HF:=Lib.hid hf;have HX:=Lib.hid hx;have HXH:=Lib.hid hxH;have HX1:=Lib.hid hx1;have HBW:=Lib.hid hbw;obtain⟨VA,VC,rfl⟩:=jB ho;clear ho hx hxH hx1
  by_cases hlt:k<N
  ·by_cases h60:k<80
   ·obtain⟨x,hx⟩:∃x,cs[k]? = some x:=⟨_,List.getElem?_eq_getElem (by rw[HN.out];exact hlt)⟩
    obtain⟨b2,o,hA,hbb,hcel⟩:=HCELL.out k x hx;subst hA;rw[HH.out] at hbb;obtain⟨KA,kc,a0',a1',a2',a3',a4',hsp⟩:=hcel.open;obtain⟨z1,z2,z3⟩:=HZ.out x (List.mem_of_getElem? hx);have HNX:=Lib.hid (zLy hx);have a0:=(hbw.cell (p:=⟨b2,o+k*5,none⟩) hbb).trans a0';have a1:=(hbw.cell (p:=⟨b2,o+k*5+1,none⟩) hbb).trans a1';have a2:=(hbw.cell (p:=⟨b2,o+k*5+2,none⟩) hbb).trans a2';have a3:=(hbw.cell (p:=⟨b2,o+k*5+3,none⟩) hbb).trans a3';have a4:=(hbw.cell (p:=⟨b2,o+k*5+4,none⟩) hbb).trans a4';obtain⟨KA',kc',hkv,hkc,hkcl⟩:=hsp;injection hkv with hq1 _ hq2;subst hq1 hq2;have HKC:=Lib.hid hkcl;obtain⟨⟨XK,XN,XA,XM⟩,ks⟩:=x;simp only at a0 a1 a2 a3 a4 z1 z2 z3 hkc hkcl;have hkz:(k:Int)<(N:Int):=by omega
    have hk6z:(k:Int)<80:=by omega
    have hb2r:b2<wr.heap.size:=by omega
    clear hx hcel a0' a1' a2' a3' a4' hf hbw hkcl;obtain⟨CB,hCB⟩:∃CB,wr.heap.size=CB:=⟨_,rfl⟩;have HCB:=Lib.hid hCB;obtain⟨MA,hMA⟩:∃MA:Nat,min XA.size 130=MA:=⟨_,rfl⟩;obtain⟨MM,hMM⟩:∃MM:Nat,min XM.size 130=MM:=⟨_,rfl⟩;have hma1:(if (130:Int)<(XA.size:Int) then (130:Int) else (XA.size:Int))=(MA:Int):=by split<;>omega
    have hmm1:(if (130:Int)<(XM.size:Int) then (130:Int) else (XM.size:Int))=(MM:Int):=by split<;>omega
    have hma2:(MA:Int)≤(XA.size:Int):=by omega
    have hmm2:(MM:Int)≤(XM.size:Int):=by omega
    have HTA:Hid (XA.extract 0 MA=trT XA):=Lib.hid (by unfold trT;rw[hMA]);have HTM:Hid (XM.extract 0 MM=trT XM):=Lib.hid (by unfold trT;rw[hMM]);clear hCB hMA hMM
    go_upto_region 6 with (fail)
    go_cut [] (fun wx=>wx.heap[CB]? = some (.cells #[.int .i64 XK,.int .i64 XN,.string (trT XA),.string (trT XM),.slice KA ks.length kc] 78 (0,0))∧Below wr.heap.size wr wx)
    case first=>
     clear cH cO cO2 fO fO2 cR fR a0 a1 a2 a3 a4 hkz hk6z hb2r z1 z2 z3 hkc HNX HKC HO HF HX HXH HX1 HBW hbb hk hk60 hXr hHr hbs hlt h60 hy0 hy1 hy2 hj hi hz0 hz1 hz2 H3 HZ HCELL;refine wp_region_any (by kernel_rfl) ?_
     change wpAny _ _ _ _ _ _ _ (World.drew _)
     refine wtk (i:=0) rfl (by kernel_rfl) (by rfl) (v:=?_) ?_ ?_;rotate_left;· intro w;go_simp;try with_reducible rfl
     refine wtk (i:=2) rfl (by kernel_rfl) (by rfl) (v:=?_) ?_ ?_;rotate_left;· intro w;go_simp;try with_reducible rfl
     refine wtk (i:=7) rfl (by kernel_rfl) (by rfl) (v:=?_) ?_ ?_;rotate_left;· intro w;go_simp;try with_reducible rfl
     refine wtk (i:=9) rfl (by kernel_rfl) (by rfl) (v:=?_) ?_ ?_;rotate_left;· intro w;go_simp;try with_reducible rfl
     refine wpAny_ready (rs:=[1,3,8,10]) (by kernel_rfl) (by simp) <| AllReady.cons rfl (fun K hK=>?_) (AllReady.cons rfl (fun K hK=>?_) (AllReady.cons rfl (fun K hK=>?_) (AllReady.cons rfl (fun K hK=>?_) (AllReady.nil))))
     ·go_simp
      refine hK _ _ ?_;clear hK K;refine wpAny_ready (rs:=[3,8,10]) (by kernel_rfl) (by simp) <| AllReady.cons rfl (fun K hK=>?_) (AllReady.cons rfl (fun K hK=>?_) (AllReady.cons rfl (fun K hK=>?_) (AllReady.nil)))
      ·go_simp
       refine hK _ _ ?_;clear hK K;refine wtk (i:=4) rfl (by kernel_rfl) (by rfl) (v:=?_) ?_ ?_;rotate_left;· intro w;go_simp;try with_reducible rfl
       refine wtk (i:=5) rfl (by kernel_rfl) (by rfl) (v:=?_) ?_ ?_;rotate_left;· intro w;go_simp;try with_reducible rfl
       refine wtk (i:=6) rfl (by kernel_rfl) (by rfl) (v:=?_) ?_ ?_;rotate_left;· intro w;go_simp;try with_reducible rfl
       refine wpAny_ready (rs:=[8,10]) (by kernel_rfl) (by simp) <| AllReady.cons rfl (fun K hK=>?_) (AllReady.cons rfl (fun K hK=>?_) (AllReady.nil))
       ·go_simp
        refine hK _ _ ?_;clear hK K;refine wpAny_ready (rs:=[10]) (by kernel_rfl) (by simp) <| AllReady.cons rfl (fun K hK=>?_) (AllReady.nil)
        ·go_simp
         refine hK _ _ ?_;clear hK K;refine wtk (i:=11) rfl (by kernel_rfl) (by rfl) (v:=?_) ?_ ?_;rotate_left;· intro w;go_simp;try with_reducible rfl
         refine wtk (i:=12) rfl (by kernel_rfl) (by rfl) (v:=?_) ?_ ?_;rotate_left;· intro w;go_simp;try with_reducible rfl
         refine wtk (i:=13) rfl (by kernel_rfl) (by rfl) (v:=?_) ?_ ?_;rotate_left;· intro w;go_simp;try with_reducible rfl
         refine wtk (i:=14) rfl (by kernel_rfl) (by rfl) (v:=?_) ?_ ?_;rotate_left;· intro w;go_simp;try with_reducible rfl
         refine wpAny_ready (rs:=[15]) (by kernel_rfl) (by simp) <| AllReady.cons rfl (fun K hK=>?_) (AllReady.nil)
         ·go_simp
          refine hK _ _ ?_;clear hK K;refine wtk (i:=16) rfl (by kernel_rfl) (by rfl) (v:=?_) ?_ ?_;rotate_left;· intro w;go_simp;try with_reducible rfl
          refine wpAny_ready (rs:=[17]) (by kernel_rfl) (by simp) <| AllReady.cons rfl (fun K hK=>?_) (AllReady.nil)
          ·go_simp
           refine hK _ _ ?_;clear hK K;refine wpAny_done (by kernel_rfl) ?_ _;go_wp2_with fail
           go_meet
           exact zU wr HCB.out HTA.out HTM.out
       ·go_simp
        refine hK _ _ ?_;clear hK K;refine wtk (i:=11) rfl (by kernel_rfl) (by rfl) (v:=?_) ?_ ?_;rotate_left;· intro w;go_simp;try with_reducible rfl
        refine wtk (i:=12) rfl (by kernel_rfl) (by rfl) (v:=?_) ?_ ?_;rotate_left;· intro w;go_simp;try with_reducible rfl
        refine wpAny_ready (rs:=[8]) (by kernel_rfl) (by simp) <| AllReady.cons rfl (fun K hK=>?_) (AllReady.nil)
        ·go_simp
         refine hK _ _ ?_;clear hK K;refine wtk (i:=13) rfl (by kernel_rfl) (by rfl) (v:=?_) ?_ ?_;rotate_left;· intro w;go_simp;try with_reducible rfl
         refine wtk (i:=14) rfl (by kernel_rfl) (by rfl) (v:=?_) ?_ ?_;rotate_left;· intro w;go_simp;try with_reducible rfl
         refine wpAny_ready (rs:=[15]) (by kernel_rfl) (by simp) <| AllReady.cons rfl (fun K hK=>?_) (AllReady.nil)
         ·go_simp
          refine hK _ _ ?_;clear hK K;refine wtk (i:=16) rfl (by kernel_rfl) (by rfl) (v:=?_) ?_ ?_;rotate_left;· intro w;go_simp;try with_reducible rfl
          refine wpAny_ready (rs:=[17]) (by kernel_rfl) (by simp) <| AllReady.cons rfl (fun K hK=>?_) (AllReady.nil)
          ·go_simp
           refine hK _ _ ?_;clear hK K;refine wpAny_done (by kernel_rfl) ?_ _;go_wp2_with fail
           go_meet
           exact zU wr HCB.out HTA.out HTM.out
      ·go_simp
       refine hK _ _ ?_;clear hK K;refine wpAny_ready (rs:=[3,10]) (by kernel_rfl) (by simp) <| AllReady.cons rfl (fun K hK=>?_) (AllReady.cons rfl (fun K hK=>?_) (AllReady.nil))
       ·go_simp
        refine hK _ _ ?_;clear hK K;refine wtk (i:=4) rfl (by kernel_rfl) (by rfl) (v:=?_) ?_ ?_;rotate_left;· intro w;go_simp;try with_reducible rfl
        refine wtk (i:=5) rfl (by kernel_rfl) (by rfl) (v:=?_) ?_ ?_;rotate_left;· intro w;go_simp;try with_reducible rfl
        refine wtk (i:=6) rfl (by kernel_rfl) (by rfl) (v:=?_) ?_ ?_;rotate_left;· intro w;go_simp;try with_reducible rfl
        refine wpAny_ready (rs:=[10]) (by kernel_rfl) (by simp) <| AllReady.cons rfl (fun K hK=>?_) (AllReady.nil)
        ·go_simp
         refine hK _ _ ?_;clear hK K;refine wtk (i:=11) rfl (by kernel_rfl) (by rfl) (v:=?_) ?_ ?_;rotate_left;· intro w;go_simp;try with_reducible rfl
         refine wtk (i:=12) rfl (by kernel_rfl) (by rfl) (v:=?_) ?_ ?_;rotate_left;· intro w;go_simp;try with_reducible rfl
         refine wtk (i:=13) rfl (by kernel_rfl) (by rfl) (v:=?_) ?_ ?_;rotate_left;· intro w;go_simp;try with_reducible rfl
         refine wtk (i:=14) rfl (by kernel_rfl) (by rfl) (v:=?_) ?_ ?_;rotate_left;· intro w;go_simp;try with_reducible rfl
         refine wpAny_ready (rs:=[15]) (by kernel_rfl) (by simp) <| AllReady.cons rfl (fun K hK=>?_) (AllReady.nil)
         ·go_simp
          refine hK _ _ ?_;clear hK K;refine wtk (i:=16) rfl (by kernel_rfl) (by rfl) (v:=?_) ?_ ?_;rotate_left;· intro w;go_simp;try with_reducible rfl
          refine wpAny_ready (rs:=[17]) (by kernel_rfl) (by simp) <| AllReady.cons rfl (fun K hK=>?_) (AllReady.nil)
          ·go_simp
           refine hK _ _ ?_;clear hK K;refine wpAny_done (by kernel_rfl) ?_ _;go_wp2_with fail
           go_meet
           exact zU wr HCB.out HTA.out HTM.out
       ·go_simp
        refine hK _ _ ?_;clear hK K;refine wtk (i:=11) rfl (by kernel_rfl) (by rfl) (v:=?_) ?_ ?_;rotate_left;· intro w;go_simp;try with_reducible rfl
        refine wtk (i:=12) rfl (by kernel_rfl) (by rfl) (v:=?_) ?_ ?_;rotate_left;· intro w;go_simp;try with_reducible rfl
        refine wtk (i:=13) rfl (by kernel_rfl) (by rfl) (v:=?_) ?_ ?_;rotate_left;· intro w;go_simp;try with_reducible rfl
        refine wpAny_ready (rs:=[3]) (by kernel_rfl) (by simp) <| AllReady.cons rfl (fun K hK=>?_) (AllReady.nil)
        ·go_simp
         refine hK _ _ ?_;clear hK K;refine wtk (i:=4) rfl (by kernel_rfl) (by rfl) (v:=?_) ?_ ?_;rotate_left;· intro w;go_simp;try with_reducible rfl
         refine wtk (i:=5) rfl (by kernel_rfl) (by rfl) (v:=?_) ?_ ?_;rotate_left;· intro w;go_simp;try with_reducible rfl
         refine wtk (i:=6) rfl (by kernel_rfl) (by rfl) (v:=?_) ?_ ?_;rotate_left;· intro w;go_simp;try with_reducible rfl
         refine wtk (i:=14) rfl (by kernel_rfl) (by rfl) (v:=?_) ?_ ?_;rotate_left;· intro w;go_simp;try with_reducible rfl
         refine wpAny_ready (rs:=[15]) (by kernel_rfl) (by simp) <| AllReady.cons rfl (fun K hK=>?_) (AllReady.nil)
         ·go_simp
          refine hK _ _ ?_;clear hK K;refine wtk (i:=16) rfl (by kernel_rfl) (by rfl) (v:=?_) ?_ ?_;rotate_left;· intro w;go_simp;try with_reducible rfl
          refine wpAny_ready (rs:=[17]) (by kernel_rfl) (by simp) <| AllReady.cons rfl (fun K hK=>?_) (AllReady.nil)
          ·go_simp
           refine hK _ _ ?_;clear hK K;refine wpAny_done (by kernel_rfl) ?_ _;go_wp2_with fail
           go_meet
           exact zU wr HCB.out HTA.out HTM.out
      ·go_simp
       refine hK _ _ ?_;clear hK K;refine wtk (i:=11) rfl (by kernel_rfl) (by rfl) (v:=?_) ?_ ?_;rotate_left;· intro w;go_simp;try with_reducible rfl
       refine wtk (i:=12) rfl (by kernel_rfl) (by rfl) (v:=?_) ?_ ?_;rotate_left;· intro w;go_simp;try with_reducible rfl
       refine wpAny_ready (rs:=[3,8]) (by kernel_rfl) (by simp) <| AllReady.cons rfl (fun K hK=>?_) (AllReady.cons rfl (fun K hK=>?_) (AllReady.nil))
       ·go_simp
        refine hK _ _ ?_;clear hK K;refine wtk (i:=4) rfl (by kernel_rfl) (by rfl) (v:=?_) ?_ ?_;rotate_left;· intro w;go_simp;try with_reducible rfl
        refine wtk (i:=5) rfl (by kernel_rfl) (by rfl) (v:=?_) ?_ ?_;rotate_left;· intro w;go_simp;try with_reducible rfl
        refine wtk (i:=6) rfl (by kernel_rfl) (by rfl) (v:=?_) ?_ ?_;rotate_left;· intro w;go_simp;try with_reducible rfl
        refine wpAny_ready (rs:=[8]) (by kernel_rfl) (by simp) <| AllReady.cons rfl (fun K hK=>?_) (AllReady.nil)
        ·go_simp
         refine hK _ _ ?_;clear hK K;refine wtk (i:=13) rfl (by kernel_rfl) (by rfl) (v:=?_) ?_ ?_;rotate_left;· intro w;go_simp;try with_reducible rfl
         refine wtk (i:=14) rfl (by kernel_rfl) (by rfl) (v:=?_) ?_ ?_;rotate_left;· intro w;go_simp;try with_reducible rfl
         refine wpAny_ready (rs:=[15]) (by kernel_rfl) (by simp) <| AllReady.cons rfl (fun K hK=>?_) (AllReady.nil)
         ·go_simp
          refine hK _ _ ?_;clear hK K;refine wtk (i:=16) rfl (by kernel_rfl) (by rfl) (v:=?_) ?_ ?_;rotate_left;· intro w;go_simp;try with_reducible rfl
          refine wpAny_ready (rs:=[17]) (by kernel_rfl) (by simp) <| AllReady.cons rfl (fun K hK=>?_) (AllReady.nil)
          ·go_simp
           refine hK _ _ ?_;clear hK K;refine wpAny_done (by kernel_rfl) ?_ _;go_wp2_with fail
           go_meet
           exact zU wr HCB.out HTA.out HTM.out
       ·go_simp
        refine hK _ _ ?_;clear hK K;refine wtk (i:=13) rfl (by kernel_rfl) (by rfl) (v:=?_) ?_ ?_;rotate_left;· intro w;go_simp;try with_reducible rfl
        refine wpAny_ready (rs:=[3]) (by kernel_rfl) (by simp) <| AllReady.cons rfl (fun K hK=>?_) (AllReady.nil)
        ·go_simp
         refine hK _ _ ?_;clear hK K;refine wtk (i:=4) rfl (by kernel_rfl) (by rfl) (v:=?_) ?_ ?_;rotate_left;· intro w;go_simp;try with_reducible rfl
         refine wtk (i:=5) rfl (by kernel_rfl) (by rfl) (v:=?_) ?_ ?_;rotate_left;· intro w;go_simp;try with_reducible rfl
         refine wtk (i:=6) rfl (by kernel_rfl) (by rfl) (v:=?_) ?_ ?_;rotate_left;· intro w;go_simp;try with_reducible rfl
         refine wtk (i:=14) rfl (by kernel_rfl) (by rfl) (v:=?_) ?_ ?_;rotate_left;· intro w;go_simp;try with_reducible rfl
         refine wpAny_ready (rs:=[15]) (by kernel_rfl) (by simp) <| AllReady.cons rfl (fun K hK=>?_) (AllReady.nil)
         ·go_simp
          refine hK _ _ ?_;clear hK K;refine wtk (i:=16) rfl (by kernel_rfl) (by rfl) (v:=?_) ?_ ?_;rotate_left;· intro w;go_simp;try with_reducible rfl
          refine wpAny_ready (rs:=[17]) (by kernel_rfl) (by simp) <| AllReady.cons rfl (fun K hK=>?_) (AllReady.nil)
          ·go_simp
           refine hK _ _ ?_;clear hK K;refine wpAny_done (by kernel_rfl) ?_ _;go_wp2_with fail
           go_meet
           exact zU wr HCB.out HTA.out HTM.out
     ·go_simp
      refine hK _ _ ?_;clear hK K;refine wtk (i:=4) rfl (by kernel_rfl) (by rfl) (v:=?_) ?_ ?_;rotate_left;· intro w;go_simp;try with_reducible rfl
      refine wtk (i:=5) rfl (by kernel_rfl) (by rfl) (v:=?_) ?_ ?_;rotate_left;· intro w;go_simp;try with_reducible rfl
      refine wpAny_ready (rs:=[1,8,10]) (by kernel_rfl) (by simp) <| AllReady.cons rfl (fun K hK=>?_) (AllReady.cons rfl (fun K hK=>?_) (AllReady.cons rfl (fun K hK=>?_) (AllReady.nil)))
      ·go_simp
       refine hK _ _ ?_;clear hK K;refine wtk (i:=6) rfl (by kernel_rfl) (by rfl) (v:=?_) ?_ ?_;rotate_left;· intro w;go_simp;try with_reducible rfl
       refine wpAny_ready (rs:=[8,10]) (by kernel_rfl) (by simp) <| AllReady.cons rfl (fun K hK=>?_) (AllReady.cons rfl (fun K hK=>?_) (AllReady.nil))
       ·go_simp
        refine hK _ _ ?_;clear hK K;refine wpAny_ready (rs:=[10]) (by kernel_rfl) (by simp) <| AllReady.cons rfl (fun K hK=>?_) (AllReady.nil)
        ·go_simp
         refine hK _ _ ?_;clear hK K;refine wtk (i:=11) rfl (by kernel_rfl) (by rfl) (v:=?_) ?_ ?_;rotate_left;· intro w;go_simp;try with_reducible rfl
         refine wtk (i:=12) rfl (by kernel_rfl) (by rfl) (v:=?_) ?_ ?_;rotate_left;· intro w;go_simp;try with_reducible rfl
         refine wtk (i:=13) rfl (by kernel_rfl) (by rfl) (v:=?_) ?_ ?_;rotate_left;· intro w;go_simp;try with_reducible rfl
         refine wtk (i:=14) rfl (by kernel_rfl) (by rfl) (v:=?_) ?_ ?_;rotate_left;· intro w;go_simp;try with_reducible rfl
         refine wpAny_ready (rs:=[15]) (by kernel_rfl) (by simp) <| AllReady.cons rfl (fun K hK=>?_) (AllReady.nil)
         ·go_simp
          refine hK _ _ ?_;clear hK K;refine wtk (i:=16) rfl (by kernel_rfl) (by rfl) (v:=?_) ?_ ?_;rotate_left;· intro w;go_simp;try with_reducible rfl
          refine wpAny_ready (rs:=[17]) (by kernel_rfl) (by simp) <| AllReady.cons rfl (fun K hK=>?_) (AllReady.nil)
          ·go_simp
           refine hK _ _ ?_;clear hK K;refine wpAny_done (by kernel_rfl) ?_ _;go_wp2_with fail
           go_meet
           exact zU wr HCB.out HTA.out HTM.out
       ·go_simp
        refine hK _ _ ?_;clear hK K;refine wtk (i:=11) rfl (by kernel_rfl) (by rfl) (v:=?_) ?_ ?_;rotate_left;· intro w;go_simp;try with_reducible rfl
        refine wtk (i:=12) rfl (by kernel_rfl) (by rfl) (v:=?_) ?_ ?_;rotate_left;· intro w;go_simp;try with_reducible rfl
        refine wpAny_ready (rs:=[8]) (by kernel_rfl) (by simp) <| AllReady.cons rfl (fun K hK=>?_) (AllReady.nil)
        ·go_simp
         refine hK _ _ ?_;clear hK K;refine wtk (i:=13) rfl (by kernel_rfl) (by rfl) (v:=?_) ?_ ?_;rotate_left;· intro w;go_simp;try with_reducible rfl
         refine wtk (i:=14) rfl (by kernel_rfl) (by rfl) (v:=?_) ?_ ?_;rotate_left;· intro w;go_simp;try with_reducible rfl
         refine wpAny_ready (rs:=[15]) (by kernel_rfl) (by simp) <| AllReady.cons rfl (fun K hK=>?_) (AllReady.nil)
         ·go_simp
          refine hK _ _ ?_;clear hK K;refine wtk (i:=16) rfl (by kernel_rfl) (by rfl) (v:=?_) ?_ ?_;rotate_left;· intro w;go_simp;try with_reducible rfl
          refine wpAny_ready (rs:=[17]) (by kernel_rfl) (by simp) <| AllReady.cons rfl (fun K hK=>?_) (AllReady.nil)
          ·go_simp
           refine hK _ _ ?_;clear hK K;refine wpAny_done (by kernel_rfl) ?_ _;go_wp2_with fail
           go_meet
           exact zU wr HCB.out HTA.out HTM.out
      ·go_simp
       refine hK _ _ ?_;clear hK K;refine wpAny_ready (rs:=[1,10]) (by kernel_rfl) (by simp) <| AllReady.cons rfl (fun K hK=>?_) (AllReady.cons rfl (fun K hK=>?_) (AllReady.nil))
       ·go_simp
        refine hK _ _ ?_;clear hK K;refine wtk (i:=6) rfl (by kernel_rfl) (by rfl) (v:=?_) ?_ ?_;rotate_left;· intro w;go_simp;try with_reducible rfl
        refine wpAny_ready (rs:=[10]) (by kernel_rfl) (by simp) <| AllReady.cons rfl (fun K hK=>?_) (AllReady.nil)
        ·go_simp
         refine hK _ _ ?_;clear hK K;refine wtk (i:=11) rfl (by kernel_rfl) (by rfl) (v:=?_) ?_ ?_;rotate_left;· intro w;go_simp;try with_reducible rfl
         refine wtk (i:=12) rfl (by kernel_rfl) (by rfl) (v:=?_) ?_ ?_;rotate_left;· intro w;go_simp;try with_reducible rfl
         refine wtk (i:=13) rfl (by kernel_rfl) (by rfl) (v:=?_) ?_ ?_;rotate_left;· intro w;go_simp;try with_reducible rfl
         refine wtk (i:=14) rfl (by kernel_rfl) (by rfl) (v:=?_) ?_ ?_;rotate_left;· intro w;go_simp;try with_reducible rfl
         refine wpAny_ready (rs:=[15]) (by kernel_rfl) (by simp) <| AllReady.cons rfl (fun K hK=>?_) (AllReady.nil)
         ·go_simp
          refine hK _ _ ?_;clear hK K;refine wtk (i:=16) rfl (by kernel_rfl) (by rfl) (v:=?_) ?_ ?_;rotate_left;· intro w;go_simp;try with_reducible rfl
          refine wpAny_ready (rs:=[17]) (by kernel_rfl) (by simp) <| AllReady.cons rfl (fun K hK=>?_) (AllReady.nil)
          ·go_simp
           refine hK _ _ ?_;clear hK K;refine wpAny_done (by kernel_rfl) ?_ _;go_wp2_with fail
           go_meet
           exact zU wr HCB.out HTA.out HTM.out
       ·go_simp
        refine hK _ _ ?_;clear hK K;refine wtk (i:=11) rfl (by kernel_rfl) (by rfl) (v:=?_) ?_ ?_;rotate_left;· intro w;go_simp;try with_reducible rfl
        refine wtk (i:=12) rfl (by kernel_rfl) (by rfl) (v:=?_) ?_ ?_;rotate_left;· intro w;go_simp;try with_reducible rfl
        refine wtk (i:=13) rfl (by kernel_rfl) (by rfl) (v:=?_) ?_ ?_;rotate_left;· intro w;go_simp;try with_reducible rfl
        refine wpAny_ready (rs:=[1]) (by kernel_rfl) (by simp) <| AllReady.cons rfl (fun K hK=>?_) (AllReady.nil)
        ·go_simp
         refine hK _ _ ?_;clear hK K;refine wtk (i:=6) rfl (by kernel_rfl) (by rfl) (v:=?_) ?_ ?_;rotate_left;· intro w;go_simp;try with_reducible rfl
         refine wtk (i:=14) rfl (by kernel_rfl) (by rfl) (v:=?_) ?_ ?_;rotate_left;· intro w;go_simp;try with_reducible rfl
         refine wpAny_ready (rs:=[15]) (by kernel_rfl) (by simp) <| AllReady.cons rfl (fun K hK=>?_) (AllReady.nil)
         ·go_simp
          refine hK _ _ ?_;clear hK K;refine wtk (i:=16) rfl (by kernel_rfl) (by rfl) (v:=?_) ?_ ?_;rotate_left;· intro w;go_simp;try with_reducible rfl
          refine wpAny_ready (rs:=[17]) (by kernel_rfl) (by simp) <| AllReady.cons rfl (fun K hK=>?_) (AllReady.nil)
          ·go_simp
           refine hK _ _ ?_;clear hK K;refine wpAny_done (by kernel_rfl) ?_ _;go_wp2_with fail
           go_meet
           exact zU wr HCB.out HTA.out HTM.out
      ·go_simp
       refine hK _ _ ?_;clear hK K;refine wtk (i:=11) rfl (by kernel_rfl) (by rfl) (v:=?_) ?_ ?_;rotate_left;· intro w;go_simp;try with_reducible rfl
       refine wtk (i:=12) rfl (by kernel_rfl) (by rfl) (v:=?_) ?_ ?_;rotate_left;· intro w;go_simp;try with_reducible rfl
       refine wpAny_ready (rs:=[1,8]) (by kernel_rfl) (by simp) <| AllReady.cons rfl (fun K hK=>?_) (AllReady.cons rfl (fun K hK=>?_) (AllReady.nil))
       ·go_simp
        refine hK _ _ ?_;clear hK K;refine wtk (i:=6) rfl (by kernel_rfl) (by rfl) (v:=?_) ?_ ?_;rotate_left;· intro w;go_simp;try with_reducible rfl
        refine wpAny_ready (rs:=[8]) (by kernel_rfl) (by simp) <| AllReady.cons rfl (fun K hK=>?_) (AllReady.nil)
        ·go_simp
         refine hK _ _ ?_;clear hK K;refine wtk (i:=13) rfl (by kernel_rfl) (by rfl) (v:=?_) ?_ ?_;rotate_left;· intro w;go_simp;try with_reducible rfl
         refine wtk (i:=14) rfl (by kernel_rfl) (by rfl) (v:=?_) ?_ ?_;rotate_left;· intro w;go_simp;try with_reducible rfl
         refine wpAny_ready (rs:=[15]) (by kernel_rfl) (by simp) <| AllReady.cons rfl (fun K hK=>?_) (AllReady.nil)
         ·go_simp
          refine hK _ _ ?_;clear hK K;refine wtk (i:=16) rfl (by kernel_rfl) (by rfl) (v:=?_) ?_ ?_;rotate_left;· intro w;go_simp;try with_reducible rfl
          refine wpAny_ready (rs:=[17]) (by kernel_rfl) (by simp) <| AllReady.cons rfl (fun K hK=>?_) (AllReady.nil)
          ·go_simp
           refine hK _ _ ?_;clear hK K;refine wpAny_done (by kernel_rfl) ?_ _;go_wp2_with fail
           go_meet
           exact zU wr HCB.out HTA.out HTM.out
       ·go_simp
        refine hK _ _ ?_;clear hK K;refine wtk (i:=13) rfl (by kernel_rfl) (by rfl) (v:=?_) ?_ ?_;rotate_left;· intro w;go_simp;try with_reducible rfl
        refine wpAny_ready (rs:=[1]) (by kernel_rfl) (by simp) <| AllReady.cons rfl (fun K hK=>?_) (AllReady.nil)
        ·go_simp
         refine hK _ _ ?_;clear hK K;refine wtk (i:=6) rfl (by kernel_rfl) (by rfl) (v:=?_) ?_ ?_;rotate_left;· intro w;go_simp;try with_reducible rfl
         refine wtk (i:=14) rfl (by kernel_rfl) (by rfl) (v:=?_) ?_ ?_;rotate_left;· intro w;go_simp;try with_reducible rfl
         refine wpAny_ready (rs:=[15]) (by kernel_rfl) (by simp) <| AllReady.cons rfl (fun K hK=>?_) (AllReady.nil)
         ·go_simp
          refine hK _ _ ?_;clear hK K;refine wtk (i:=16) rfl (by kernel_rfl) (by rfl) (v:=?_) ?_ ?_;rotate_left;· intro w;go_simp;try with_reducible rfl
          refine wpAny_ready (rs:=[17]) (by kernel_rfl) (by simp) <| AllReady.cons rfl (fun K hK=>?_) (AllReady.nil)
          ·go_simp
           refine hK _ _ ?_;clear hK K;refine wpAny_done (by kernel_rfl) ?_ _;go_wp2_with fail
           go_meet
           exact zU wr HCB.out HTA.out HTM.out
     ·go_simp
      refine hK _ _ ?_;clear hK K;refine wpAny_ready (rs:=[1,3,10]) (by kernel_rfl) (by simp) <| AllReady.cons rfl (fun K hK=>?_) (AllReady.cons rfl (fun K hK=>?_) (AllReady.cons rfl (fun K hK=>?_) (AllReady.nil)))
      ·go_simp
       refine hK _ _ ?_;clear hK K;refine wpAny_ready (rs:=[3,10]) (by kernel_rfl) (by simp) <| AllReady.cons rfl (fun K hK=>?_) (AllReady.cons rfl (fun K hK=>?_) (AllReady.nil))
       ·go_simp
        refine hK _ _ ?_;clear hK K;refine wtk (i:=4) rfl (by kernel_rfl) (by rfl) (v:=?_) ?_ ?_;rotate_left;· intro w;go_simp;try with_reducible rfl
        refine wtk (i:=5) rfl (by kernel_rfl) (by rfl) (v:=?_) ?_ ?_;rotate_left;· intro w;go_simp;try with_reducible rfl
        refine wtk (i:=6) rfl (by kernel_rfl) (by rfl) (v:=?_) ?_ ?_;rotate_left;· intro w;go_simp;try with_reducible rfl
        refine wpAny_ready (rs:=[10]) (by kernel_rfl) (by simp) <| AllReady.cons rfl (fun K hK=>?_) (AllReady.nil)
        ·go_simp
         refine hK _ _ ?_;clear hK K;refine wtk (i:=11) rfl (by kernel_rfl) (by rfl) (v:=?_) ?_ ?_;rotate_left;· intro w;go_simp;try with_reducible rfl
         refine wtk (i:=12) rfl (by kernel_rfl) (by rfl) (v:=?_) ?_ ?_;rotate_left;· intro w;go_simp;try with_reducible rfl
         refine wtk (i:=13) rfl (by kernel_rfl) (by rfl) (v:=?_) ?_ ?_;rotate_left;· intro w;go_simp;try with_reducible rfl
         refine wtk (i:=14) rfl (by kernel_rfl) (by rfl) (v:=?_) ?_ ?_;rotate_left;· intro w;go_simp;try with_reducible rfl
         refine wpAny_ready (rs:=[15]) (by kernel_rfl) (by simp) <| AllReady.cons rfl (fun K hK=>?_) (AllReady.nil)
         ·go_simp
          refine hK _ _ ?_;clear hK K;refine wtk (i:=16) rfl (by kernel_rfl) (by rfl) (v:=?_) ?_ ?_;rotate_left;· intro w;go_simp;try with_reducible rfl
          refine wpAny_ready (rs:=[17]) (by kernel_rfl) (by simp) <| AllReady.cons rfl (fun K hK=>?_) (AllReady.nil)
          ·go_simp
           refine hK _ _ ?_;clear hK K;refine wpAny_done (by kernel_rfl) ?_ _;go_wp2_with fail
           go_meet
           exact zU wr HCB.out HTA.out HTM.out
       ·go_simp
        refine hK _ _ ?_;clear hK K;refine wtk (i:=11) rfl (by kernel_rfl) (by rfl) (v:=?_) ?_ ?_;rotate_left;· intro w;go_simp;try with_reducible rfl
        refine wtk (i:=12) rfl (by kernel_rfl) (by rfl) (v:=?_) ?_ ?_;rotate_left;· intro w;go_simp;try with_reducible rfl
        refine wtk (i:=13) rfl (by kernel_rfl) (by rfl) (v:=?_) ?_ ?_;rotate_left;· intro w;go_simp;try with_reducible rfl
        refine wpAny_ready (rs:=[3]) (by kernel_rfl) (by simp) <| AllReady.cons rfl (fun K hK=>?_) (AllReady.nil)
        ·go_simp
         refine hK _ _ ?_;clear hK K;refine wtk (i:=4) rfl (by kernel_rfl) (by rfl) (v:=?_) ?_ ?_;rotate_left;· intro w;go_simp;try with_reducible rfl
         refine wtk (i:=5) rfl (by kernel_rfl) (by rfl) (v:=?_) ?_ ?_;rotate_left;· intro w;go_simp;try with_reducible rfl
         refine wtk (i:=6) rfl (by kernel_rfl) (by rfl) (v:=?_) ?_ ?_;rotate_left;· intro w;go_simp;try with_reducible rfl
         refine wtk (i:=14) rfl (by kernel_rfl) (by rfl) (v:=?_) ?_ ?_;rotate_left;· intro w;go_simp;try with_reducible rfl
         refine wpAny_ready (rs:=[15]) (by kernel_rfl) (by simp) <| AllReady.cons rfl (fun K hK=>?_) (AllReady.nil)
         ·go_simp
          refine hK _ _ ?_;clear hK K;refine wtk (i:=16) rfl (by kernel_rfl) (by rfl) (v:=?_) ?_ ?_;rotate_left;· intro w;go_simp;try with_reducible rfl
          refine wpAny_ready (rs:=[17]) (by kernel_rfl) (by simp) <| AllReady.cons rfl (fun K hK=>?_) (AllReady.nil)
          ·go_simp
           refine hK _ _ ?_;clear hK K;refine wpAny_done (by kernel_rfl) ?_ _;go_wp2_with fail
           go_meet
           exact zU wr HCB.out HTA.out HTM.out
      ·go_simp
       refine hK _ _ ?_;clear hK K;refine wtk (i:=4) rfl (by kernel_rfl) (by rfl) (v:=?_) ?_ ?_;rotate_left;· intro w;go_simp;try with_reducible rfl
       refine wtk (i:=5) rfl (by kernel_rfl) (by rfl) (v:=?_) ?_ ?_;rotate_left;· intro w;go_simp;try with_reducible rfl
       refine wpAny_ready (rs:=[1,10]) (by kernel_rfl) (by simp) <| AllReady.cons rfl (fun K hK=>?_) (AllReady.cons rfl (fun K hK=>?_) (AllReady.nil))
       ·go_simp
        refine hK _ _ ?_;clear hK K;refine wtk (i:=6) rfl (by kernel_rfl) (by rfl) (v:=?_) ?_ ?_;rotate_left;· intro w;go_simp;try with_reducible rfl
        refine wpAny_ready (rs:=[10]) (by kernel_rfl) (by simp) <| AllReady.cons rfl (fun K hK=>?_) (AllReady.nil)
        ·go_simp
         refine hK _ _ ?_;clear hK K;refine wtk (i:=11) rfl (by kernel_rfl) (by rfl) (v:=?_) ?_ ?_;rotate_left;· intro w;go_simp;try with_reducible rfl
         refine wtk (i:=12) rfl (by kernel_rfl) (by rfl) (v:=?_) ?_ ?_;rotate_left;· intro w;go_simp;try with_reducible rfl
         refine wtk (i:=13) rfl (by kernel_rfl) (by rfl) (v:=?_) ?_ ?_;rotate_left;· intro w;go_simp;try with_reducible rfl
         refine wtk (i:=14) rfl (by kernel_rfl) (by rfl) (v:=?_) ?_ ?_;rotate_left;· intro w;go_simp;try with_reducible rfl
         refine wpAny_ready (rs:=[15]) (by kernel_rfl) (by simp) <| AllReady.cons rfl (fun K hK=>?_) (AllReady.nil)
         ·go_simp
          refine hK _ _ ?_;clear hK K;refine wtk (i:=16) rfl (by kernel_rfl) (by rfl) (v:=?_) ?_ ?_;rotate_left;· intro w;go_simp;try with_reducible rfl
          refine wpAny_ready (rs:=[17]) (by kernel_rfl) (by simp) <| AllReady.cons rfl (fun K hK=>?_) (AllReady.nil)
          ·go_simp
           refine hK _ _ ?_;clear hK K;refine wpAny_done (by kernel_rfl) ?_ _;go_wp2_with fail
           go_meet
           exact zU wr HCB.out HTA.out HTM.out
       ·go_simp
        refine hK _ _ ?_;clear hK K;refine wtk (i:=11) rfl (by kernel_rfl) (by rfl) (v:=?_) ?_ ?_;rotate_left;· intro w;go_simp;try with_reducible rfl
        refine wtk (i:=12) rfl (by kernel_rfl) (by rfl) (v:=?_) ?_ ?_;rotate_left;· intro w;go_simp;try with_reducible rfl
        refine wtk (i:=13) rfl (by kernel_rfl) (by rfl) (v:=?_) ?_ ?_;rotate_left;· intro w;go_simp;try with_reducible rfl
        refine wpAny_ready (rs:=[1]) (by kernel_rfl) (by simp) <| AllReady.cons rfl (fun K hK=>?_) (AllReady.nil)
        ·go_simp
         refine hK _ _ ?_;clear hK K;refine wtk (i:=6) rfl (by kernel_rfl) (by rfl) (v:=?_) ?_ ?_;rotate_left;· intro w;go_simp;try with_reducible rfl
         refine wtk (i:=14) rfl (by kernel_rfl) (by rfl) (v:=?_) ?_ ?_;rotate_left;· intro w;go_simp;try with_reducible rfl
         refine wpAny_ready (rs:=[15]) (by kernel_rfl) (by simp) <| AllReady.cons rfl (fun K hK=>?_) (AllReady.nil)
         ·go_simp
          refine hK _ _ ?_;clear hK K;refine wtk (i:=16) rfl (by kernel_rfl) (by rfl) (v:=?_) ?_ ?_;rotate_left;· intro w;go_simp;try with_reducible rfl
          refine wpAny_ready (rs:=[17]) (by kernel_rfl) (by simp) <| AllReady.cons rfl (fun K hK=>?_) (AllReady.nil)
          ·go_simp
           refine hK _ _ ?_;clear hK K;refine wpAny_done (by kernel_rfl) ?_ _;go_wp2_with fail
           go_meet
           exact zU wr HCB.out HTA.out HTM.out
      ·go_simp
       refine hK _ _ ?_;clear hK K;refine wtk (i:=11) rfl (by kernel_rfl) (by rfl) (v:=?_) ?_ ?_;rotate_left;· intro w;go_simp;try with_reducible rfl
       refine wtk (i:=12) rfl (by kernel_rfl) (by rfl) (v:=?_) ?_ ?_;rotate_left;· intro w;go_simp;try with_reducible rfl
       refine wtk (i:=13) rfl (by kernel_rfl) (by rfl) (v:=?_) ?_ ?_;rotate_left;· intro w;go_simp;try with_reducible rfl
       refine wpAny_ready (rs:=[1,3]) (by kernel_rfl) (by simp) <| AllReady.cons rfl (fun K hK=>?_) (AllReady.cons rfl (fun K hK=>?_) (AllReady.nil))
       ·go_simp
        refine hK _ _ ?_;clear hK K;refine wpAny_ready (rs:=[3]) (by kernel_rfl) (by simp) <| AllReady.cons rfl (fun K hK=>?_) (AllReady.nil)
        ·go_simp
         refine hK _ _ ?_;clear hK K;refine wtk (i:=4) rfl (by kernel_rfl) (by rfl) (v:=?_) ?_ ?_;rotate_left;· intro w;go_simp;try with_reducible rfl
         refine wtk (i:=5) rfl (by kernel_rfl) (by rfl) (v:=?_) ?_ ?_;rotate_left;· intro w;go_simp;try with_reducible rfl
         refine wtk (i:=6) rfl (by kernel_rfl) (by rfl) (v:=?_) ?_ ?_;rotate_left;· intro w;go_simp;try with_reducible rfl
         refine wtk (i:=14) rfl (by kernel_rfl) (by rfl) (v:=?_) ?_ ?_;rotate_left;· intro w;go_simp;try with_reducible rfl
         refine wpAny_ready (rs:=[15]) (by kernel_rfl) (by simp) <| AllReady.cons rfl (fun K hK=>?_) (AllReady.nil)
         ·go_simp
          refine hK _ _ ?_;clear hK K;refine wtk (i:=16) rfl (by kernel_rfl) (by rfl) (v:=?_) ?_ ?_;rotate_left;· intro w;go_simp;try with_reducible rfl
          refine wpAny_ready (rs:=[17]) (by kernel_rfl) (by simp) <| AllReady.cons rfl (fun K hK=>?_) (AllReady.nil)
          ·go_simp
           refine hK _ _ ?_;clear hK K;refine wpAny_done (by kernel_rfl) ?_ _;go_wp2_with fail
           go_meet
           exact zU wr HCB.out HTA.out HTM.out
       ·go_simp
        refine hK _ _ ?_;clear hK K;refine wtk (i:=4) rfl (by kernel_rfl) (by rfl) (v:=?_) ?_ ?_;rotate_left;· intro w;go_simp;try with_reducible rfl
        refine wtk (i:=5) rfl (by kernel_rfl) (by rfl) (v:=?_) ?_ ?_;rotate_left;· intro w;go_simp;try with_reducible rfl
        refine wpAny_ready (rs:=[1]) (by kernel_rfl) (by simp) <| AllReady.cons rfl (fun K hK=>?_) (AllReady.nil)
        ·go_simp
         refine hK _ _ ?_;clear hK K;refine wtk (i:=6) rfl (by kernel_rfl) (by rfl) (v:=?_) ?_ ?_;rotate_left;· intro w;go_simp;try with_reducible rfl
         refine wtk (i:=14) rfl (by kernel_rfl) (by rfl) (v:=?_) ?_ ?_;rotate_left;· intro w;go_simp;try with_reducible rfl
         refine wpAny_ready (rs:=[15]) (by kernel_rfl) (by simp) <| AllReady.cons rfl (fun K hK=>?_) (AllReady.nil)
         ·go_simp
          refine hK _ _ ?_;clear hK K;refine wtk (i:=16) rfl (by kernel_rfl) (by rfl) (v:=?_) ?_ ?_;rotate_left;· intro w;go_simp;try with_reducible rfl
          refine wpAny_ready (rs:=[17]) (by kernel_rfl) (by simp) <| AllReady.cons rfl (fun K hK=>?_) (AllReady.nil)
          ·go_simp
           refine hK _ _ ?_;clear hK K;refine wpAny_done (by kernel_rfl) ?_ _;go_wp2_with fail
           go_meet
           exact zU wr HCB.out HTA.out HTM.out
     ·go_simp
      refine hK _ _ ?_;clear hK K;refine wtk (i:=11) rfl (by kernel_rfl) (by rfl) (v:=?_) ?_ ?_;rotate_left;· intro w;go_simp;try with_reducible rfl
      refine wtk (i:=12) rfl (by kernel_rfl) (by rfl) (v:=?_) ?_ ?_;rotate_left;· intro w;go_simp;try with_reducible rfl
      refine wpAny_ready (rs:=[1,3,8]) (by kernel_rfl) (by simp) <| AllReady.cons rfl (fun K hK=>?_) (AllReady.cons rfl (fun K hK=>?_) (AllReady.cons rfl (fun K hK=>?_) (AllReady.nil)))
      ·go_simp
       refine hK _ _ ?_;clear hK K;refine wpAny_ready (rs:=[3,8]) (by kernel_rfl) (by simp) <| AllReady.cons rfl (fun K hK=>?_) (AllReady.cons rfl (fun K hK=>?_) (AllReady.nil))
       ·go_simp
        refine hK _ _ ?_;clear hK K;refine wtk (i:=4) rfl (by kernel_rfl) (by rfl) (v:=?_) ?_ ?_;rotate_left;· intro w;go_simp;try with_reducible rfl
        refine wtk (i:=5) rfl (by kernel_rfl) (by rfl) (v:=?_) ?_ ?_;rotate_left;· intro w;go_simp;try with_reducible rfl
        refine wtk (i:=6) rfl (by kernel_rfl) (by rfl) (v:=?_) ?_ ?_;rotate_left;· intro w;go_simp;try with_reducible rfl
        refine wpAny_ready (rs:=[8]) (by kernel_rfl) (by simp) <| AllReady.cons rfl (fun K hK=>?_) (AllReady.nil)
        ·go_simp
         refine hK _ _ ?_;clear hK K;refine wtk (i:=13) rfl (by kernel_rfl) (by rfl) (v:=?_) ?_ ?_;rotate_left;· intro w;go_simp;try with_reducible rfl
         refine wtk (i:=14) rfl (by kernel_rfl) (by rfl) (v:=?_) ?_ ?_;rotate_left;· intro w;go_simp;try with_reducible rfl
         refine wpAny_ready (rs:=[15]) (by kernel_rfl) (by simp) <| AllReady.cons rfl (fun K hK=>?_) (AllReady.nil)
         ·go_simp
          refine hK _ _ ?_;clear hK K;refine wtk (i:=16) rfl (by kernel_rfl) (by rfl) (v:=?_) ?_ ?_;rotate_left;· intro w;go_simp;try with_reducible rfl
          refine wpAny_ready (rs:=[17]) (by kernel_rfl) (by simp) <| AllReady.cons rfl (fun K hK=>?_) (AllReady.nil)
          ·go_simp
           refine hK _ _ ?_;clear hK K;refine wpAny_done (by kernel_rfl) ?_ _;go_wp2_with fail
           go_meet
           exact zU wr HCB.out HTA.out HTM.out
       ·go_simp
        refine hK _ _ ?_;clear hK K;refine wtk (i:=13) rfl (by kernel_rfl) (by rfl) (v:=?_) ?_ ?_;rotate_left;· intro w;go_simp;try with_reducible rfl
        refine wpAny_ready (rs:=[3]) (by kernel_rfl) (by simp) <| AllReady.cons rfl (fun K hK=>?_) (AllReady.nil)
        ·go_simp
         refine hK _ _ ?_;clear hK K;refine wtk (i:=4) rfl (by kernel_rfl) (by rfl) (v:=?_) ?_ ?_;rotate_left;· intro w;go_simp;try with_reducible rfl
         refine wtk (i:=5) rfl (by kernel_rfl) (by rfl) (v:=?_) ?_ ?_;rotate_left;· intro w;go_simp;try with_reducible rfl
         refine wtk (i:=6) rfl (by kernel_rfl) (by rfl) (v:=?_) ?_ ?_;rotate_left;· intro w;go_simp;try with_reducible rfl
         refine wtk (i:=14) rfl (by kernel_rfl) (by rfl) (v:=?_) ?_ ?_;rotate_left;· intro w;go_simp;try with_reducible rfl
         refine wpAny_ready (rs:=[15]) (by kernel_rfl) (by simp) <| AllReady.cons rfl (fun K hK=>?_) (AllReady.nil)
         ·go_simp
          refine hK _ _ ?_;clear hK K;refine wtk (i:=16) rfl (by kernel_rfl) (by rfl) (v:=?_) ?_ ?_;rotate_left;· intro w;go_simp;try with_reducible rfl
          refine wpAny_ready (rs:=[17]) (by kernel_rfl) (by simp) <| AllReady.cons rfl (fun K hK=>?_) (AllReady.nil)
          ·go_simp
           refine hK _ _ ?_;clear hK K;refine wpAny_done (by kernel_rfl) ?_ _;go_wp2_with fail
           go_meet
           exact zU wr HCB.out HTA.out HTM.out
      ·go_simp
       refine hK _ _ ?_;clear hK K;refine wtk (i:=4) rfl (by kernel_rfl) (by rfl) (v:=?_) ?_ ?_;rotate_left;· intro w;go_simp;try with_reducible rfl
       refine wtk (i:=5) rfl (by kernel_rfl) (by rfl) (v:=?_) ?_ ?_;rotate_left;· intro w;go_simp;try with_reducible rfl
       refine wpAny_ready (rs:=[1,8]) (by kernel_rfl) (by simp) <| AllReady.cons rfl (fun K hK=>?_) (AllReady.cons rfl (fun K hK=>?_) (AllReady.nil))
       ·go_simp
        refine hK _ _ ?_;clear hK K;refine wtk (i:=6) rfl (by kernel_rfl) (by rfl) (v:=?_) ?_ ?_;rotate_left;· intro w;go_simp;try with_reducible rfl
        refine wpAny_ready (rs:=[8]) (by kernel_rfl) (by simp) <| AllReady.cons rfl (fun K hK=>?_) (AllReady.nil)
        ·go_simp
         refine hK _ _ ?_;clear hK K;refine wtk (i:=13) rfl (by kernel_rfl) (by rfl) (v:=?_) ?_ ?_;rotate_left;· intro w;go_simp;try with_reducible rfl
         refine wtk (i:=14) rfl (by kernel_rfl) (by rfl) (v:=?_) ?_ ?_;rotate_left;· intro w;go_simp;try with_reducible rfl
         refine wpAny_ready (rs:=[15]) (by kernel_rfl) (by simp) <| AllReady.cons rfl (fun K hK=>?_) (AllReady.nil)
         ·go_simp
          refine hK _ _ ?_;clear hK K;refine wtk (i:=16) rfl (by kernel_rfl) (by rfl) (v:=?_) ?_ ?_;rotate_left;· intro w;go_simp;try with_reducible rfl
          refine wpAny_ready (rs:=[17]) (by kernel_rfl) (by simp) <| AllReady.cons rfl (fun K hK=>?_) (AllReady.nil)
          ·go_simp
           refine hK _ _ ?_;clear hK K;refine wpAny_done (by kernel_rfl) ?_ _;go_wp2_with fail
           go_meet
           exact zU wr HCB.out HTA.out HTM.out
       ·go_simp
        refine hK _ _ ?_;clear hK K;refine wtk (i:=13) rfl (by kernel_rfl) (by rfl) (v:=?_) ?_ ?_;rotate_left;· intro w;go_simp;try with_reducible rfl
        refine wpAny_ready (rs:=[1]) (by kernel_rfl) (by simp) <| AllReady.cons rfl (fun K hK=>?_) (AllReady.nil)
        ·go_simp
         refine hK _ _ ?_;clear hK K;refine wtk (i:=6) rfl (by kernel_rfl) (by rfl) (v:=?_) ?_ ?_;rotate_left;· intro w;go_simp;try with_reducible rfl
         refine wtk (i:=14) rfl (by kernel_rfl) (by rfl) (v:=?_) ?_ ?_;rotate_left;· intro w;go_simp;try with_reducible rfl
         refine wpAny_ready (rs:=[15]) (by kernel_rfl) (by simp) <| AllReady.cons rfl (fun K hK=>?_) (AllReady.nil)
         ·go_simp
          refine hK _ _ ?_;clear hK K;refine wtk (i:=16) rfl (by kernel_rfl) (by rfl) (v:=?_) ?_ ?_;rotate_left;· intro w;go_simp;try with_reducible rfl
          refine wpAny_ready (rs:=[17]) (by kernel_rfl) (by simp) <| AllReady.cons rfl (fun K hK=>?_) (AllReady.nil)
          ·go_simp
           refine hK _ _ ?_;clear hK K;refine wpAny_done (by kernel_rfl) ?_ _;go_wp2_with fail
           go_meet
           exact zU wr HCB.out HTA.out HTM.out
      ·go_simp
       refine hK _ _ ?_;clear hK K;refine wtk (i:=13) rfl (by kernel_rfl) (by rfl) (v:=?_) ?_ ?_;rotate_left;· intro w;go_simp;try with_reducible rfl
       refine wpAny_ready (rs:=[1,3]) (by kernel_rfl) (by simp) <| AllReady.cons rfl (fun K hK=>?_) (AllReady.cons rfl (fun K hK=>?_) (AllReady.nil))
       ·go_simp
        refine hK _ _ ?_;clear hK K;refine wpAny_ready (rs:=[3]) (by kernel_rfl) (by simp) <| AllReady.cons rfl (fun K hK=>?_) (AllReady.nil)
        ·go_simp
         refine hK _ _ ?_;clear hK K;refine wtk (i:=4) rfl (by kernel_rfl) (by rfl) (v:=?_) ?_ ?_;rotate_left;· intro w;go_simp;try with_reducible rfl
         refine wtk (i:=5) rfl (by kernel_rfl) (by rfl) (v:=?_) ?_ ?_;rotate_left;· intro w;go_simp;try with_reducible rfl
         refine wtk (i:=6) rfl (by kernel_rfl) (by rfl) (v:=?_) ?_ ?_;rotate_left;· intro w;go_simp;try with_reducible rfl
         refine wtk (i:=14) rfl (by kernel_rfl) (by rfl) (v:=?_) ?_ ?_;rotate_left;· intro w;go_simp;try with_reducible rfl
         refine wpAny_ready (rs:=[15]) (by kernel_rfl) (by simp) <| AllReady.cons rfl (fun K hK=>?_) (AllReady.nil)
         ·go_simp
          refine hK _ _ ?_;clear hK K;refine wtk (i:=16) rfl (by kernel_rfl) (by rfl) (v:=?_) ?_ ?_;rotate_left;· intro w;go_simp;try with_reducible rfl
          refine wpAny_ready (rs:=[17]) (by kernel_rfl) (by simp) <| AllReady.cons rfl (fun K hK=>?_) (AllReady.nil)
          ·go_simp
           refine hK _ _ ?_;clear hK K;refine wpAny_done (by kernel_rfl) ?_ _;go_wp2_with fail
           go_meet
           exact zU wr HCB.out HTA.out HTM.out
       ·go_simp
        refine hK _ _ ?_;clear hK K;refine wtk (i:=4) rfl (by kernel_rfl) (by rfl) (v:=?_) ?_ ?_;rotate_left;· intro w;go_simp;try with_reducible rfl
        refine wtk (i:=5) rfl (by kernel_rfl) (by rfl) (v:=?_) ?_ ?_;rotate_left;· intro w;go_simp;try with_reducible rfl
        refine wpAny_ready (rs:=[1]) (by kernel_rfl) (by simp) <| AllReady.cons rfl (fun K hK=>?_) (AllReady.nil)
        ·go_simp
         refine hK _ _ ?_;clear hK K;refine wtk (i:=6) rfl (by kernel_rfl) (by rfl) (v:=?_) ?_ ?_;rotate_left;· intro w;go_simp;try with_reducible rfl
         refine wtk (i:=14) rfl (by kernel_rfl) (by rfl) (v:=?_) ?_ ?_;rotate_left;· intro w;go_simp;try with_reducible rfl
         refine wpAny_ready (rs:=[15]) (by kernel_rfl) (by simp) <| AllReady.cons rfl (fun K hK=>?_) (AllReady.nil)
         ·go_simp
          refine hK _ _ ?_;clear hK K;refine wtk (i:=16) rfl (by kernel_rfl) (by rfl) (v:=?_) ?_ ?_;rotate_left;· intro w;go_simp;try with_reducible rfl
          refine wpAny_ready (rs:=[17]) (by kernel_rfl) (by simp) <| AllReady.cons rfl (fun K hK=>?_) (AllReady.nil)
          ·go_simp
           refine hK _ _ ?_;clear hK K;refine wpAny_done (by kernel_rfl) ?_ _;go_wp2_with fail
           go_meet
           exact zU wr HCB.out HTA.out HTM.out
    case rest=>
     obtain⟨hcb,hb5⟩:=hcut;rw[HCB.out] at hb5;have hs5:=hb5.size;rw[HCB.out] at hs5;have hCBc:=qC hcb;have c1:wc.cell? ⟨CB,0,none⟩=some (.int .i64 XK):=cell_of_row wc CB 0 _ _ _ hcb;have c2:wc.cell? ⟨CB,1,none⟩=some (.int .i64 XN):=cell_of_row wc CB 1 _ _ _ hcb;have c3:wc.cell? ⟨CB,2,none⟩=some (.string (trT XA)):=cell_of_row wc CB 2 _ _ _ hcb;have c4:wc.cell? ⟨CB,3,none⟩=some (.string (trT XM)):=cell_of_row wc CB 3 _ _ _ hcb;have c5:wc.cell? ⟨CB,4,none⟩=some (.slice KA ks.length kc):=cell_of_row wc CB 4 _ _ _ hcb;have hrB:=HCB.out;have HB5:=Lib.hid hb5;have HCUT:=Lib.hid hcb;obtain⟨MK,hMK⟩:∃MK:Nat,min ks.length 12=MK:=⟨_,rfl⟩;have hmk1:(if (12:Int)<(ks.length:Int) then (12:Int) else (ks.length:Int))=(MK:Int):=by split<;>omega
     have hmk2:(MK:Int)≤(ks.length:Int):=by omega
     have hmk3:(MK:Int)≤(kc:Int):=by omega
     have htl:(ks.take 12).length=MK:=by rw[List.length_take];omega
     obtain⟨v6,w6,hr6,hkv6,hb6⟩:=zFo wc KA MK kc (ks.take 12) htl (fun j u hu=>by
      have hj12:j<12:=by have:=(List.getElem?_eq_some_iff.1 hu).1;rw[List.length_take] at this;omega
      rw[List.getElem?_take_of_lt hj12] at hu;obtain⟨b,o,h1,h2,h3⟩:=HKC.out j u hu;have hbH:b<H:=by rw[←HH.out];exact h2
      exact⟨b,o,h1,by omega,(hb5.cell (p:=⟨b,o+j,none⟩) (by simp only;omega)).trans ((HBW.out.cell (p:=⟨b,o+j,none⟩) hbH).trans h3)⟩) (by omega)
     obtain⟨A6,c6,hv6,hc6,-⟩:=id hkv6;rw[htl] at hv6;subst hv6;have HKV:=Lib.hid hkv6;have HB6:=Lib.hid hb6;have hs6:=hb6.size;have hcb6:=(hb6.block CB hCBc).trans hcb;have f5:=frozen_of_row w6 CB 4 _ _ hcb6;have e5:w6.cell? ⟨CB,4,none⟩=some (.slice KA ks.length kc):=cell_of_row w6 CB 4 _ _ _ hcb6;have hbr6:Below wr.heap.size wr w6:=by rw[hrB];exact hb5.trans (hb6.mono hs5)
     have HR6:=Lib.hid hr6;have HCB6:=Lib.hid hcb6;have HBR6:=Lib.hid hbr6;obtain⟨KN,hKN⟩:∃KN:Nat,ks.length=KN:=⟨_,rfl⟩;rw[hKN] at c5 hmk1 hmk2;have HKN:=Lib.hid hKN;have HMK:=Lib.hid hMK;have hst7:∀b,b<w6.heap.size→b≠CB→(w6.setCell ⟨CB,4,none⟩ (.slice A6 MK c6)).heap[b]? = w6.heap[b]?:=fun b h1 h2=>Below.heap_setCell _ _ _ _ h2
     have hbr7:Below wr.heap.size wr (w6.setCell ⟨CB,4,none⟩ (.slice A6 MK c6)):=hbr6.setCell (by simp only;omega) _;have hsz7:(w6.setCell ⟨CB,4,none⟩ (.slice A6 MK c6)).heap.size=w6.heap.size:=by simp[World.setCell]
     have hcb7:(w6.setCell ⟨CB,4,none⟩ (.slice A6 MK c6)).heap[CB]? = some (.cells #[.int .i64 XK,.int .i64 XN,.string (trT XA),.string (trT XM),.slice A6 MK c6] 78 (0,0)):=by
      rw[yQ _ hcb6];rfl
     have d1:(w6.setCell ⟨CB,4,none⟩ (.slice A6 MK c6)).cell? ⟨CB,0,none⟩=some (.int .i64 XK):=cell_of_row _ CB 0 _ _ _ hcb7;have d2:(w6.setCell ⟨CB,4,none⟩ (.slice A6 MK c6)).cell? ⟨CB,1,none⟩=some (.int .i64 XN):=cell_of_row _ CB 1 _ _ _ hcb7;have d3:(w6.setCell ⟨CB,4,none⟩ (.slice A6 MK c6)).cell? ⟨CB,2,none⟩=some (.string (trT XA)):=cell_of_row _ CB 2 _ _ _ hcb7;have d4:(w6.setCell ⟨CB,4,none⟩ (.slice A6 MK c6)).cell? ⟨CB,3,none⟩=some (.string (trT XM)):=cell_of_row _ CB 3 _ _ _ hcb7;have d5:(w6.setCell ⟨CB,4,none⟩ (.slice A6 MK c6)).cell? ⟨CB,4,none⟩=some (.slice A6 MK c6):=cell_of_row _ CB 4 _ _ _ hcb7;have cO7:(w6.setCell ⟨CB,4,none⟩ (.slice A6 MK c6)).cell? ⟨H+1+1,0,none⟩=some (.slice VA k VC):=(hbr7.cell (p:=⟨H+1+1,0,none⟩) (by simp only;omega)).trans cO2;have HO7:=Lib.hid (yC HO.out hbr7);have HK7:=Lib.hid ((hkv6.keep (S':=fun q=>wr.heap.size≤q∧q<(w6.setCell ⟨CB,4,none⟩ (.slice A6 MK c6)).heap.size) (fun q hq=>⟨by omega,by rw[hsz7];exact hq.2⟩) fun b hb=>hst7 b hb.2 (by omega)));have HX7:=Lib.hid ((hbr7.block (H+2) hXr).trans HX.out);have HBR7:=Lib.hid hbr7;have HN7:=Lib.hid (heap_alloc_new (w6.setCell ⟨CB,4,none⟩ (.slice A6 MK c6)) (.cells #[.int .i64 XK,.int .i64 XN,.string (trT XA),.string (trT XM),.slice A6 MK c6] 78));have H1K:=Lib.hid hkv6.one
     clear hMK hKN hcb hb5 HTA HTM hma1 hma2 hmm1 hmm2 cO cO2 fO fO2 a0 a1 a2 a3 a4 z1 z2 hkv6 hb6 hr6 hcb6 hbr6 htl hst7 hbr7 hcb7
     go_wp2_with (first
      | (at_builtin;refine zQa (.tmp 38) (.tmp 45) 76 rfl rfl rfl rfl HR6.out ?_)
      | (at_builtin;(refine wpList_append_own_at _ rfl _ _ 36 rfl (H+3) 78 i0 _ 5 72 Tryz.underlying36 hi hz0 hz1 hz2 rfl (by decide) (.slice VA k VC) k (flat ((cs.take k).map fwC) vs) rfl (HO7.out.alloc _) ⟨w6.heap.size,0,none⟩ 1 1 [.int .i64 XK,.int .i64 XN,.string (trT XA),.string (trT XM),.slice A6 MK c6] rfl rfl (by rw[←hsz7];exact dC HN7.out) (fun u hu=>oA H1K.out u hu) (by unfold maxLen;omega) (by omega) (by simp;omega) ?_);intro v8 w8 hown8 hgrow8 _ hat8;obtain⟨A8,C8,hv8⟩:=jB hown8;subst hv8;have hx8:=zFp HO7.out (OB:=H+2) (by omega) (by rw[hsz7];omega) hgrow8 HX7.out;have k8:w8.cell? ⟨H+1+1,0,none⟩=some (.slice VA k VC):=cell_of_row w8 (H+2) 0 _ _ _ hx8;have f8:w8.frozen? ⟨H+1+1,0,none⟩=false:=frozen_of_row w8 (H+2) 0 _ _ hx8;have HOWN8:=Lib.hid hown8;have HG8:=Lib.hid hgrow8;have HAT8:=Lib.hid hat8;clear hown8 hgrow8 hat8))
     go_roundw
     case rel=>
      have hlen:((cs.take k).map fwC).length=k:=by rw[List.length_map,List.length_take];have:=HN.out;omega
      have hmore:=zFm (w:=w) (wr:=wr) (w5:=w6.setCell ⟨CB,4,none⟩ (.slice A6 MK c6)) (w6:=w8) (H:=H) (OB:=H+2) (B:=H+3) (vo:=.slice VA k VC) (v6:=.slice A8 (k+1) C8) (kv:=.slice A6 MK c6) (c:=fwC ⟨⟨XK,XN,XA,XM⟩,ks⟩) (out:=(cs.take k).map fwC) (vs:=vs) (by omega) (by omega) (by omega) HBW.out (by rw[hlen];exact HO.out) HF.out HBR7.out HX.out HK7.out (by rw[hlen];exact HOWN8.out) HG8.out (HAT8.out.imp id fun e=>by rw[e];simp);obtain⟨m1,m2,m3,m4,m5⟩:=hmore;rw[List.length_append,hlen,List.length_singleton] at m1;refine⟨k+1,.slice A8 (k+1) C8,vs++[.slice A6 MK c6],by go_num,by omega,by omega,?_,?_,m3,?_,?_,m4⟩
      ·rw[HNX.out];exact m1
      ·rw[HNX.out];exact m2
      ·exact(m5 H (by omega) (by omega) (fun e=>by have:=(HO.out.lt H e).1;omega)).trans HXH.out
      ·exact(m5 (H+1) (by omega) (by omega) (fun e=>by have:=(HO.out.lt (H+1) e).1;omega)).trans HX1.out
     case measure=>simp[intOf];omega
   ·have hk6z:¬(k:Int)<80:=by omega
    have hkz:(k:Int)<(N:Int):=by omega
    have HE:=Lib.hid (zTq (cs:=cs) hk60 (.inr (by omega)));clear hf;go_wp2_with fail;exact bodyPost_ret (v:=.agg #[.slice VA k VC]) (by simp[results,Tryz.results16,go_sem,zYi cR]) rfl (zOz cs w wr H k vs VA VC HE.out HN.out HH.out hk HO.out HF.out HBW.out)
  ·have hkz:¬(k:Int)<(N:Int):=by omega
   have HE:=Lib.hid (zTq (cs:=cs) hk60 (.inl (by have:=HN.out;omega)));clear hf;go_wp2_with fail;exact bodyPost_ret (v:=.agg #[.slice VA k VC]) (by simp[results,Tryz.results16,go_sem,zYi cR]) rfl (zOz cs w wr H k vs VA VC HE.out HN.out HH.out hk HO.out HF.out HBW.out)
end Go.Proofs.YtbpijnalmakfaaaGreatDoor
