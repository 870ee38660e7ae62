/-
  What the parsers' own variables hold, out of the rows' list.
-/
import Derived.Test.YtbpijnalmakfaaaGreatDoorGw24
import Derived.Deep.DeepHandedRow
import Derived.Deep.DeepWitnessRowRef
import Derived.LaidLaws
import Derived.Lib.LaidIn
import Derived.Lib.LaidU8T
import Derived.MakeChecks
import Derived.OpenShut
import Derived.ProofKit
import Derived.SizedLaws
set_option maxHeartbeats 40000000
set_option maxRecDepth 100000
namespace Go.Proofs.YtbpijnalmakfaaaGreatDoor
open Go.ChangeShapes Go.WideShapes Go.ChangeAt Go.RowKit Go.Lib
theorem vQ {w:World} {n:String} {d:DataW Unit} (h:VarReads Tryz.prog w n d) {g:Nat} {t:TypeId} (hg:Tryz.prog.globalNamed n=some g) (ht:(Tryz.prog.globals[g]?).map (·.type)=some t) :
  ∃cs fuel p,w.var? Tryz.prog n=some cs∧(∃e z,w.heap[g]? = some (.cells cs e z))∧DataW.trod (fun _=>()) Tryz.prog w 0 (fun _=>true) false fuel t cs.toList=some (d,p):=by
 obtain⟨g',t',cs,fuel,p,h1,h2,h3,h4⟩:=h;obtain rfl:=Option.some.inj (hg.symm.trans h1);obtain rfl:=Option.some.inj (ht.symm.trans h2);refine⟨cs,fuel,p,h3,?_,h4⟩;unfold World.var? at h3;rw[hg] at h3;simp only[Option.bind_some] at h3
 split at h3
 ·rename_i cs' e z he
  injection h3 with h3;subst h3;exact⟨e,z,he⟩
 ·cases h3
theorem zWo {w:World} {fuel:Nat} {a b:Value} {s:List UInt8} {k:Int} {p:List MemPlace}
  (h:DataW.trod (fun _=>()) Tryz.prog w 0 (fun _=>true) false fuel 257 [a,b]=some (.agg [.lit (.string s),.lit (.int .i64 k)],p)):a = .string ⟨s.toArray⟩∧b = .int .i64 k:=by
 obtain⟨ys,n,_,hx,_,hyl,hf⟩:=DataW.trod_struct Tryz.underlying257 h;have hy2:ys.length=2:=hyl
 match ys,hy2 with
 | [y0,y1],_=>
  have g0:DataW.trod (fun _=>()) Tryz.prog w 0 (fun _=>true) false n 9 [a]=some y0:=hf 0 _ rfl;have g1:DataW.trod (fun _=>()) Tryz.prog w 0 (fun _=>true) false n 3 [b]=some y1:=hf 1 _ rfl;obtain⟨s',e0,f0,_⟩:=DataW.trod_string Tryz.underlying9 g0;obtain⟨k',e1,f1,_⟩:=DataW.trod_int Tryz.underlying3 g1;subst f0 f1;have hx:=congrArg Prod.fst hx;simp only[List.map_cons,List.map_nil,DataW.agg.injEq,List.cons.injEq,DataW.lit.injEq,Lit.string.injEq,Lit.int.injEq,and_true,true_and] at hx;injection e0 with e0;injection e1 with e1;exact⟨by rw[e0,hx.1],by rw[e1,hx.2]⟩
theorem zLv {w:World} {fuel:Nat} {cs:Array Value} {p:List MemPlace}
  (h:DataW.trod (fun _=>()) Tryz.prog w 0 (fun _=>true) false fuel 258 cs.toList=some (Rows.laid_marquetry_ptype_plain,p)):cs.toList=plV.toList:=by
 obtain⟨xs,m,_,hx,hlen,hxl,hel⟩:=DataW.trod_array Tryz.underlying258 h;have h6:Tryz.prog.cellsOf 258=6:=by kernel_rfl
 have h2:Tryz.prog.cellsOf 257=2:=by kernel_rfl
 rw[h6] at hlen;rw[h2] at hel;have e0:=hel 0 (by omega);have e1:=hel 1 (by omega);have e2:=hel 2 (by omega);have hx:=congrArg Prod.fst hx
 generalize cs.toList=l at *
 match l,hlen,xs,hxl with
 | [a,b,c,d,e,f],_,[x0,x1,x2],_=>
  have hx:Rows.laid_marquetry_ptype_plain=DataW.agg [x0.1,x1.1,x2.1]:=hx;unfold Rows.laid_marquetry_ptype_plain at hx;simp only[DataW.agg.injEq,List.cons.injEq,and_true] at hx;obtain⟨q0,q1,q2⟩:=hx;obtain⟨y0,p0⟩:=x0;obtain⟨y1,p1⟩:=x1;obtain⟨y2,p2⟩:=x2;simp only at q0 q1 q2;subst q0 q1 q2;obtain⟨r0,r1⟩:=zWo e0;obtain⟨r2,r3⟩:=zWo e1;obtain⟨r4,r5⟩:=zWo e2;rw[r0,r1,r2,r3,r4,r5]
  rfl
theorem lQ {w:World} {fuel:Nat} {a b c d e:Value} {s:List UInt8} {k1 k2 k3 k4:Int} {p:List MemPlace}
  (h:DataW.trod (fun _=>()) Tryz.prog w 0 (fun _=>true) false fuel 162 [a,b,c,d,e]=some (.agg [.lit (.string s),.lit (.int .i64 k1),.lit (.int .i64 k2),.lit (.int .i64 k3),.lit (.int .i64 k4)],p)):a = .string ⟨s.toArray⟩∧b = .int .i64 k1∧c = .int .i64 k2∧d = .int .i64 k3∧e = .int .i64 k4:=by
 obtain⟨ys,n,_,hx,_,hyl,hf⟩:=DataW.trod_struct Tryz.underlying162 h;have hy2:ys.length=5:=hyl
 match ys,hy2 with
 | [y0,y1,y2,y3,y4],_=>
  have g0:DataW.trod (fun _=>()) Tryz.prog w 0 (fun _=>true) false n 9 [a]=some y0:=hf 0 _ rfl;have g1:DataW.trod (fun _=>()) Tryz.prog w 0 (fun _=>true) false n 3 [b]=some y1:=hf 1 _ rfl;have g2:DataW.trod (fun _=>()) Tryz.prog w 0 (fun _=>true) false n 3 [c]=some y2:=hf 2 _ rfl;have g3:DataW.trod (fun _=>()) Tryz.prog w 0 (fun _=>true) false n 3 [d]=some y3:=hf 3 _ rfl;have g4:DataW.trod (fun _=>()) Tryz.prog w 0 (fun _=>true) false n 3 [e]=some y4:=hf 4 _ rfl;obtain⟨s',e0,f0,_⟩:=DataW.trod_string Tryz.underlying9 g0;obtain⟨k1',e1,f1,_⟩:=DataW.trod_int Tryz.underlying3 g1;obtain⟨k2',e2,f2,_⟩:=DataW.trod_int Tryz.underlying3 g2;obtain⟨k3',e3,f3,_⟩:=DataW.trod_int Tryz.underlying3 g3;obtain⟨k4',e4,f4,_⟩:=DataW.trod_int Tryz.underlying3 g4;subst f0 f1 f2 f3 f4;have hx:=congrArg Prod.fst hx;simp only[List.map_cons,List.map_nil,DataW.agg.injEq,List.cons.injEq,DataW.lit.injEq,Lit.string.injEq,Lit.int.injEq,and_true,true_and] at hx;obtain⟨x0,x1,x2,x3,x4⟩:=hx;injection e0 with e0;injection e1 with e1;injection e2 with e2;injection e3 with e3;injection e4 with e4;exact⟨by rw[e0,x0],by rw[e1,x1],by rw[e2,x2],by rw[e3,x3],by rw[e4,x4]⟩
theorem zFg {w:World} {fuel:Nat} {cs:Array Value} {p:List MemPlace}
  (h:DataW.trod (fun _=>()) Tryz.prog w 0 (fun _=>true) false fuel 163 cs.toList=some (Rows.laid_marquetry_pexpr_operators,p)):cs.toList=opV.toList:=by
 obtain⟨xs,m,_,hx,hlen,hxl,hel⟩:=DataW.trod_array Tryz.underlying163 h;have h6:Tryz.prog.cellsOf 163=25:=by kernel_rfl
 have h2:Tryz.prog.cellsOf 162=5:=by kernel_rfl
 rw[h6] at hlen;rw[h2] at hel;have e0:=hel 0 (by omega);have e1:=hel 1 (by omega);have e2:=hel 2 (by omega);have e3:=hel 3 (by omega);have e4:=hel 4 (by omega);have hx:=congrArg Prod.fst hx
 generalize cs.toList=l at *
 match l,hlen,xs,hxl with
 | [v0,v1,v2,v3,v4,v5,v6,v7,v8,v9,v10,v11,v12,v13,v14,v15,v16,v17,v18,v19,v20,v21,v22,v23,v24],_,[x0,x1,x2,x3,x4],_=>
  have hx:Rows.laid_marquetry_pexpr_operators=DataW.agg [x0.1,x1.1,x2.1,x3.1,x4.1]:=hx;unfold Rows.laid_marquetry_pexpr_operators at hx;simp only[DataW.agg.injEq,List.cons.injEq,and_true] at hx;obtain⟨q0,q1,q2,q3,q4⟩:=hx;obtain⟨y0,p0⟩:=x0;obtain⟨y1,p1⟩:=x1;obtain⟨y2,p2⟩:=x2;obtain⟨y3,p3⟩:=x3;obtain⟨y4,p4⟩:=x4;simp only at q0 q1 q2 q3 q4;subst q0 q1 q2 q3 q4;obtain⟨a0,a1,a2,a3,a4⟩:=lQ e0;obtain⟨b0,b1,b2,b3,b4⟩:=lQ e1;obtain⟨c0,c1,c2,c3,c4⟩:=lQ e2;obtain⟨d0,d1,d2,d3,d4⟩:=lQ e3;obtain⟨f0,f1,f2,f3,f4⟩:=lQ e4;rw[a0,a1,a2,a3,a4,b0,b1,b2,b3,b4,c0,c1,c2,c3,c4,d0,d1,d2,d3,d4,f0,f1,f2,f3,f4]
  rfl
theorem yVr {W:World} (rd:∀n d,(n,d)∈(Rows.pexprParsesRow.laid:List (String×DataW Unit))→VarReads Tryz.prog W n d):Px7 W:=by
 have h7:=rd "marquetry/ptype.plain" Rows.laid_marquetry_ptype_plain (by simp[Rows.pexprParsesRow]);have h8:=rd "marquetry/pexpr.operators" Rows.laid_marquetry_pexpr_operators (by simp[Rows.pexprParsesRow]);refine⟨?_,?_⟩
 ·obtain⟨cs,fuel,p,_,⟨e,z,k2⟩,k3⟩:=vQ h8 (g:=0) (t:=163) (by kernel_rfl) (by kernel_rfl)
  refine⟨e,z,?_⟩;rw[k2]
  congr 2
  apply Array.ext'
  exact zFg k3
 ·obtain⟨cs,fuel,p,_,⟨e,z,k2⟩,k3⟩:=vQ h7 (g:=7) (t:=258) (by kernel_rfl) (by kernel_rfl)
  refine⟨e,z,?_⟩;rw[k2]
  congr 2
  apply Array.ext'
  exact zLv k3
theorem nO:ownKnob Tryz.prog.godebug=none:=by kernel_rfl
def laidL:List (String×DataW Unit):=Rows.pexprParsesRow.laid
theorem zFh:Rows.laid_unicode_utf8_first=Lib.firstData:=by kernel_rfl
theorem zLw:(Rows.laid_unicode_utf8_acceptRanges:DataW Unit)=Lib.acceptData:=by kernel_rfl
theorem yVs:(Rows.laid_internal_strconv_uint64pow10:DataW Unit)=Lib.tabData .u64 Lib.pow10Tab:=by kernel_rfl
theorem zFi:(Rows.laid_marquetry_lexer_signs:DataW Unit) = .agg (B.SIGNS.map fun x=>.lit (.string (B.u8 x))):=by kernel_rfl
theorem zFj {w:World} {n:String} {nm:String} {d:DataW Unit} (h:VarReads Tryz.prog w n (.iface nm d)) {g:Nat} {t:TypeId} (hg:Tryz.prog.globalNamed n=some g) (ht:(Tryz.prog.globals[g]?).map (·.type)=some t) {ms:Array (String×TypeId)} (hi:Tryz.prog.underlying t=some (.interface ms)):B.ErrIs w g:=by
 obtain⟨cs,fuel,p,h1,⟨e,z,h2⟩,h3⟩:=vQ h hg ht;obtain⟨_,u,v,h4,_,_⟩:=iface_of_trod hi h3;refine⟨.iface u v,?_,.inr ⟨u,v,rfl⟩⟩;rw[cell_of_row w g 0 cs e z h2];have:cs[0]? = cs.toList[0]?:=by simp
 rw[this,h4]
 rfl
theorem zAp {w:World} {fuel:Nat} {t e:TypeId} {cs:List Value} {zs:List (List UInt8)} {p:List MemPlace} (ht:Tryz.prog.underlying t=some (.array zs.length e)) (he:Tryz.prog.underlying e=some .string) (hce:Tryz.prog.cellsOf e=1) (hct:Tryz.prog.cellsOf t=zs.length)
  (h:DataW.trod (fun _=>()) Tryz.prog w 0 (fun _=>true) false fuel t cs=some (.agg (zs.map fun z=>.lit (.string z)),p)):cs=zs.map fun z=>Value.string ⟨z.toArray⟩:=by
 obtain⟨xs,m,_,hx,hlen,hxl,hel⟩:=DataW.trod_array ht h;rw[hct] at hlen
 apply List.ext_getElem (by simpa using hlen)
 intro i h1 h2;have hi:i<zs.length:=by simpa using h2
 have hk:=hel i hi;rw[hce,Nat.mul_one] at hk;have hcs:(cs.drop i).take 1=[cs[i]]:=by
  rw[List.drop_eq_getElem_cons h1]
  rfl
 have hxi:xs[i]? = some (xs[i]'(by omega)):=List.getElem?_eq_getElem (by omega);rw[hcs,hxi] at hk;obtain⟨s,hs,hy,_⟩:=DataW.trod_string he hk;have e1:(xs.map (·.1))[i]? = (zs.map fun z=>(DataW.lit (.string z):DataW Unit))[i]?:=by
  have:=congrArg Prod.fst hx;simp only[DataW.agg.injEq] at this;rw[this]
 rw[List.getElem?_map,List.getElem?_map,hxi,List.getElem?_eq_getElem hi] at e1;simp only[Option.map_some,Option.some.injEq] at e1;rw[hy] at e1;simp only[DataW.lit.injEq,Lit.string.injEq] at e1;rw[(List.cons.inj hs).1,List.getElem_map,←e1]
theorem yVt:(B.sgV.toList)=(B.SIGNS.map B.u8).map fun z=>Value.string ⟨z.toArray⟩:=by kernel_rfl
theorem zQ8 {W:World} {l:List (String×DataW Unit)} (h:laidMetH Tryz.prog l W) (hl:l=laidL) (hsh:W.ShapedOpen Tryz.prog):Vx7 W:=by
 subst hl;have h:laidMet Tryz.prog laidL W:=h;have rd:∀n d,(n,d)∈laidL→VarReads Tryz.prog W n d:=fun n d hm=>Lib.laidMet.reads h hm
 have h1:=rd "unicode/utf8.first" Rows.laid_unicode_utf8_first (by simp[laidL,Rows.pexprParsesRow])
 have h2:=rd "unicode/utf8.acceptRanges" Rows.laid_unicode_utf8_acceptRanges (by simp[laidL,Rows.pexprParsesRow]);have h3:=rd "internal/strconv.uint64pow10" Rows.laid_internal_strconv_uint64pow10 (by simp[laidL,Rows.pexprParsesRow]);have h4:=rd "strconv.ErrSyntax" Rows.laid_strconv_ErrSyntax (by simp[laidL,Rows.pexprParsesRow]);have h5:=rd "strconv.ErrRange" Rows.laid_strconv_ErrRange (by simp[laidL,Rows.pexprParsesRow]);have h6:=rd "marquetry/lexer.signs" Rows.laid_marquetry_lexer_signs (by simp[laidL,Rows.pexprParsesRow]);rw[zFh] at h1;rw[zLw] at h2;rw[yVs] at h3;rw[zFi] at h6;refine⟨⟨utf8Tabs_of_readsT (U8Types.of260 Tryz.lays260) ⟨by kernel_rfl,by kernel_rfl,by kernel_rfl,by kernel_rfl,by kernel_rfl,by kernel_rfl,by kernel_rfl⟩ h1 h2,?_,Tryz.laysM143.s1_3 W hsh,
  zFj h4 (g:=5) (by kernel_rfl) (by kernel_rfl) Tryz.underlying127,zFj h5 (g:=6) (by kernel_rfl) (by kernel_rfl) Tryz.underlying127,?_⟩,?_⟩
 ·obtain⟨cs,fuel,p,k1,_,k3⟩:=vQ h3 (g:=8) (t:=265) (by kernel_rfl) (by kernel_rfl)
  unfold TabIs;rw[k1,←Lib.cells_of_tab (t:=265) (n:=20) (e:=233) (by kernel_rfl) (by kernel_rfl) (by kernel_rfl) (by kernel_rfl) k3]
 ·obtain⟨cs,fuel,p,_,⟨e,z,k2⟩,k3⟩:=vQ h6 (g:=1) (t:=177) (by kernel_rfl) (by kernel_rfl)
  refine⟨e,z,?_⟩;have hm:(B.SIGNS.map fun x=>(DataW.lit (.string (B.u8 x)):DataW Unit))=(B.SIGNS.map B.u8).map fun z=>.lit (.string z):=by rw[List.map_map];rfl
  rw[hm] at k3;have k4:=zAp (t:=177) (e:=9) (by kernel_rfl) (by kernel_rfl) (by kernel_rfl) (by kernel_rfl) k3;rw[k2]
  congr 2
  apply Array.ext'
  rw[k4,yVt]
 ·exact yVr fun n d hm=>rd n d (by simpa [laidL] using hm)
def litV:DataW Unit→Value
 | .lit (.int k z)=>.int k z
 | .lit (.string l)=>.string ⟨l.toArray⟩
 | _=>undef
def rowV:DataW Unit→Array Value
 | .agg ds=>(ds.map litV).toArray
 | _=>#[]
def txtV:DataW Unit→Value
 | .iface _ (.ptr (.agg [d]))=>litV d
 | _=>undef
noncomputable def laidWorld (os:Os):World:=
 let w0:=World.holding Tryz.prog os ⟨#[],#[],[]⟩
 let put (h:Array Obj) (g:Nat) (cs:Array Value):Array Obj:=h.modify g fun
  | .cells _ t frozen=>.cells cs t frozen
  | o=>o
 let h1:=put w0.heap 2 (Lib.firstTab.map fun z=>Value.int .u8 z).toArray
 let h2:=put h1 3 ((List.range 16).flatMap fun i=>[Value.int .u8 (Lib.accLo i),Value.int .u8 (Lib.accHi i)]).toArray
 let h3:=put h2 8 (rowV Rows.laid_internal_strconv_uint64pow10)
 let h4:=put h3 9 (rowV Rows.laid_math_bits_deBruijn32tab)
 let h5:=put h4 10 (rowV Rows.laid_math_bits_deBruijn64tab)
 let h6:=put h5 1 (rowV Rows.laid_marquetry_lexer_signs)
 let h6:=put h6 7 plV
 let h6:=put h6 0 opV
 let n:=h6.size
 let h7:=put h6 6 #[.iface 270 (.pointer (some ⟨n,0,none⟩))]
 let h8:=put h7 5 #[.iface 270 (.pointer (some ⟨n+1,0,none⟩))]
 let h9:=(h8.push (.cells #[txtV Rows.laid_strconv_ErrRange] 272 (0,0))).push (.cells #[txtV Rows.laid_strconv_ErrSyntax] 272 (0,0))
 {w0 with heap:=h9}
end Go.Proofs.YtbpijnalmakfaaaGreatDoor
