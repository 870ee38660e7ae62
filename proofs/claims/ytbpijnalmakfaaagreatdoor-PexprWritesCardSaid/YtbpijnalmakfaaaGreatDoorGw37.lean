/-
  Layer 6, the program's writer: constructors, mu; every type.
-/
import Derived.Test.YtbpijnalmakfaaaGreatDoorGw20
import Derived.Test.YtbpijnalmakfaaaGreatDoorGw36
set_option maxHeartbeats 40000000
set_option maxRecDepth 100000
namespace Go.Proofs.YtbpijnalmakfaaaGreatDoor
open Go.RowKit
theorem zYl:∀(l:List (List Tk)) (a:List Tk),bars (l++[a])=if l=[] then a else bars l++ky kBar::a
 | [],a=>rfl
 | [x],a=>rfl
 | x::y::r,a=>by
  show x++ky kBar::bars ((y::r)++[a])=_
  rw[zYl (y::r) a,if_neg (by simp),if_neg (by simp)]
  show _=(x++ky kBar::bars (y::r))++ky kBar::a
  simp
def segF (f:Fr):List (List Tk):=(tkF f).map (·.2)
theorem lZ:∀(f:Fr),(segF f).length=f.len
 | .nil=>rfl
 | .cons x k r=>by show(segF r).length+1=r.len+1;rw[lZ r]
theorem zTw:∀{f:Fr} {j:Nat} {t:Tr},f.get j=some t→(segF f)[j]? = some (tkT t)
 | .nil,_,_,h=>by cases h
 | .cons x k r,0,t,h=>by
  have h:(x,k)=t:=Option.some.inj h;subst h
  rfl
 | .cons x k r,j+1,t,h=>zTw (f:=r) (j:=j) h
theorem pV {f:Fr} {j:Nat} {t:Tr} (h:f.get j=some t):bars ((segF f).take (j+1))=if j=0 then tkT t else bars ((segF f).take j)++ky kBar::tkT t:=by
 have hs:=zTw h;have hl:j<(segF f).length:=by rw[lZ];exact Fr.get_lt h
 have e:(segF f).take (j+1)=(segF f).take j++[tkT t]:=by rw[List.take_add_one,hs];rfl
 rw[e,zYl]
 cases j with
 | zero=>rfl
 | succ j=>
  rw[if_neg,if_neg (by omega)];intro h0;have:=congrArg List.length h0;rw[List.length_take] at this;simp only[List.length_nil] at this;omega
theorem gL:∀(l:List (List Tk)) (j:Nat),(bars (l.take j)).length≤(bars l).length
 | [],_=>by simp[bars]
 | [a],j=>by cases j with
  | zero=>simp[bars]
  | succ j=>simp[bars]
 | a::b::r,0=>by simp[bars]
 | a::b::r,1=>by simp[bars]
 | a::b::r,j+2=>by
  have ih:=gL (b::r) (j+1)
  show(a++ky kBar::bars ((b::r).take (j+1))).length≤(a++ky kBar::bars (b::r)).length
  simp only[List.length_append,List.length_cons];omega
section
variable {W:World} {bw:Nat}
theorem yX5 {w:World} {ts:List ByteArray} (x y:ByteArray) (hB:W.heap.size≤bw) (hu:Up W w) (hw:Wr bw w ts) (hts:ts.length≤1000000) :
  Calls Tryz.prog 235 #[.pointer (some ⟨bw,0,none⟩),.slice (some ⟨w.heap.size,0,none⟩) 2 2] (w.alloc (.cells #[.string x,.string y] 9)) (WrP W bw (ts++[x,y])):=eO [x,y] hB hu hw hts (by show 2≤10;omega) (by show 0<2;omega)
theorem put_3 {w:World} {ts:List ByteArray} (x y z:ByteArray) (hB:W.heap.size≤bw) (hu:Up W w) (hw:Wr bw w ts) (hts:ts.length≤1000000) :
  Calls Tryz.prog 235 #[.pointer (some ⟨bw,0,none⟩),.slice (some ⟨w.heap.size,0,none⟩) 3 3] (w.alloc (.cells #[.string x,.string y,.string z] 9)) (WrP W bw (ts++[x,y,z])):=eO [x,y,z] hB hu hw hts (by show 3≤10;omega) (by show 0<3;omega)
theorem zZ9 (f:Fr) (hB:W.heap.size≤bw) (hc:∀(j:Nat) t,f.get j=some t→∃s u,t=nd 8 s (fr1 u)∧WriAt W bw u 0) (kb ko c:Nat) (hf:InF W (fun q=>q<W.heap.size) f kb ko) (w:World) (ts:List ByteArray) (hu:Up W w) (hw:Wr bw w ts) (hz:ts.length+(bars (segF f)).length≤1000000) (hl:f.len≤100000) :
  Calls Tryz.prog 236 #[.pointer (some ⟨bw,0,none⟩),.slice (some ⟨kb,ko,none⟩) f.len c] w (WrP W bw (ts++txt (bars (segF f)))):=by
 obtain⟨n,hn⟩:∃n,f.len=n:=⟨_,rfl⟩;have HN:=Lib.hid hn;have HC:=Lib.hid hc;have HF:=Lib.hid hf;have HU:=Lib.hid hu;have HW:=Lib.hid hw;have HZ:=Lib.hid hz;rw[hn] at hl ⊢;have hend:Hid (bars ((segF f).take n)=bars (segF f)):=Lib.hid (by rw[List.take_of_length_le (by rw[lZ];omega)]);obtain⟨Z,hZ⟩:∃Z,ts++txt (bars (segF f))=Z:=⟨_,rfl⟩;rw[hZ];have HZZ:=Lib.hid hZ;clear hn hc hf hu hw hz hZ
 go_enter Tryz.func236,Tryz.ntmps236
 go_wp2_with fail
 go_loopw [8] (fun x wr=>∃j:Nat,j≤n∧x = .int .i64 (j:Int)∧Up W wr∧Wr bw wr (ts++txt (bars ((segF f).take j)))) (fun x _=>n+1-(intOf x).toNat)
 case atStart=>exact⟨0,Nat.zero_le _,rfl,HU.out,by show Wr bw w (ts++txt []);rw[show txt []=[] from rfl,List.append_nil];exact HW.out⟩
 case round=>
  obtain⟨j,hj,rfl,hur,hwr⟩:=hrel;have HUR:=Lib.hid hur;have HWR:=Lib.hid hwr;clear hur hwr
  by_cases hlt:j<n
  ·have hjz:(j:Int)<(n:Int):=by omega
   have hw1:IntKind.i64.wrap ((j:Int)+1)=((j+1:Nat):Int):=by rw[IntKind.wrap_i64];omega
   obtain⟨t,ht⟩:=Fr.get_some (f:=f) (i:=j) (by rw[HN.out];exact hlt);obtain⟨s,u,rfl,cU⟩:=HC.out j t ht;obtain⟨vc,hvc,hTc⟩:=HF.out.at ht;obtain⟨q,p,A,c',rfl,hq,k0,k1,k2,k3,k4,hcc,hkid⟩:=InT.open hTc;obtain⟨kb2,ko2,rfl,hkb2,⟨va,ka,ia⟩,-⟩:=hkid (by show 0<1;omega);obtain⟨qa,pa,rfl⟩:=InT.ptr ia;have hb1:(bars ((segF f).take (j+1))).length≤(bars (segF f)).length:=gL _ _;have hb0:(bars ((segF f).take j)).length≤(bars (segF f)).length:=gL _ _;have hbt:=pV ht;have ka:W.cell? ⟨kb2,ko2,none⟩=some (.pointer (some ⟨qa,pa,none⟩)):=ka;have k2:W.cell? ⟨q,p+2,none⟩=some (.string s):=k2;have k4:W.cell? ⟨q,p+4,none⟩=some (.slice (some ⟨kb2,ko2,none⟩) 1 c'):=k4;have HVC:=Lib.hid hvc;have HK2:=Lib.hid k2;have HK4:=Lib.hid k4;have HKA:=Lib.hid ka;have HIA:Hid (HasT W (.pointer (some ⟨qa,pa,none⟩)) (some u)):=Lib.hid ia;have HBT:=Lib.hid hbt;have HB0:=Lib.hid hb0;have HB1:=Lib.hid hb1;have HCU:=Lib.hid cU;have hvr:=HUR.out.cell hvc;clear ht hTc k0 k1 k2 k3 k4 hkid ka ia hbt hb0 hb1 cU hvc
   by_cases hj0:0<j
   ·have hj1:(0:Int)<(j:Int):=by omega
    have cP:=uS (W:=W) kBar hB HUR.out HWR.out (by rw[List.length_append,jI];have:=HB0.out;have:=HZ.out;omega);go_wp2_with fail;refine cP.mono ?_;rintro en w2 ⟨⟨x2,rfl⟩,u2,h2⟩;have k2:=u2.cell HK2.out;have cQ:=yX5 (W:=W) s kOf hB u2 h2 (by have h9:=congrArg List.length HBT.out;rw[if_neg (by omega)] at h9;simp only[List.length_append,List.length_cons] at h9;simp only[List.length_append,jI,List.length_cons,List.length_nil];have:=HB1.out;have:=HZ.out;omega);clear u2 h2 cP hvr;go_wp2_with fail;refine cQ.mono ?_;rintro en w3 ⟨⟨x3,rfl⟩,u3,h3⟩;have k4:=u3.cell HK4.out;have ka:=u3.cell HKA.out;have hlen:=HBT.out;rw[if_neg (by omega)] at hlen;have hln:=congrArg List.length hlen;simp only[List.length_append,List.length_cons,fP] at hln;have cW:=HCU.out w3 _ _ HIA.out u3 h3 (by rw[sD];simp only[List.length_append,jI,List.length_cons,List.length_nil];have:=HB1.out;have:=HZ.out;omega);have HLEN:=Lib.hid hlen;clear u3 h3 cQ k2 hlen hln;go_wp2_with fail;refine cW.mono ?_;rintro en w4 ⟨⟨x4,rfl⟩,u4,h4⟩;have H4:=Lib.hid h4;clear h4;go_wp2_with fail
    go_roundw
    case rel=>
     refine⟨j+1,by omega,rfl,u4,?_⟩;have h:=H4.out;rw[HLEN.out,lY];rw[sD] at h;have e:((ts++txt (bars ((segF f).take j))++[kBar])++[s,kOf])++txt (tkT u)=ts++(txt (bars ((segF f).take j))++txt (ky kBar::tkT (nd 8 s (fr1 u)))):=by rw[fP];simp[txt,ky,nmT]
     rw[e] at h;exact h
    case measure=>simp[intOf];omega
   ·obtain rfl:j=0:=by omega
    have hvr:wr.cell? ⟨kb,ko,none⟩=some (.pointer (some ⟨q,p,none⟩)):=hvr;have k2:=HUR.out.cell HK2.out;have h0:Wr bw wr ts:=by have h:=HWR.out;simpa [bars,txt] using h
    have cQ:=yX5 (W:=W) s kOf hB HUR.out h0 (by have:=HZ.out;omega);clear h0;go_wp2_with fail;refine cQ.mono ?_;rintro en w3 ⟨⟨x3,rfl⟩,u3,h3⟩;have k4:=u3.cell HK4.out;have ka:=u3.cell HKA.out;have hlen:=HBT.out;rw[if_pos trivial] at hlen;have hln:=congrArg List.length hlen;simp only[List.length_cons,fP] at hln;have cW:=HCU.out w3 _ _ HIA.out u3 h3 (by rw[sD];simp only[List.length_append,List.length_cons,List.length_nil];have:=HB1.out;have:=HZ.out;omega);have HLEN:=Lib.hid hlen;clear u3 h3 cQ k2 hlen hln hvr;go_wp2_with fail;refine cW.mono ?_;rintro en w4 ⟨⟨x4,rfl⟩,u4,h4⟩;have H4:=Lib.hid h4;clear h4;go_wp2_with fail
    go_roundw
    case rel=>
     refine⟨1,by omega,rfl,u4,?_⟩;have h:=H4.out;rw[HLEN.out];rw[sD] at h;have e:(ts++[s,kOf])++txt (tkT u)=ts++txt (tkT (nd 8 s (fr1 u))):=by rw[fP];simp[txt,ky,nmT]
     rw[e] at h;exact h
    case measure=>first | (simp[intOf];omega) | simp[intOf]
  ·obtain rfl:j=n:=by omega
   have hjz:¬(j:Int)<(j:Int):=by omega
   go_wp2_with fail;go_end0;have h:=HWR.out;rw[hend.out,HZZ.out] at h;exact⟨⟨_,rfl⟩,HUR.out,h⟩
theorem zFz (s:ByteArray) (f:Fr) (r:Int) (hB:W.heap.size≤bw) (hr:¬(2:Int)<r) (h0:0<f.len) (hl:f.len≤100000) (hc:∀(j:Nat) t,f.get j=some t→∃s u,t=nd 8 s (fr1 u)∧WriAt W bw u 0):WriAt W bw (nd 7 s f) r:=fun w ts v hv hu hw hz=>by
 have he:wiR r (nd 7 s f)=ky kMu::nmT s::ky kLeft::(bars (segF f)++[ky zY]):=by rw[uR (t:=nd 7 s f) hr,lS];rfl
 have HE:Hid (ts++txt (wiR r (nd 7 s f))=((ts++[kMu,s,kLeft])++txt (bars (segF f)))++[zY]):=Lib.hid (by rw[he];show ts++kMu::s::kLeft::txt (bars (segF f)++[ky zY])=_;rw[lY];simp[txt,ky]);have hzl:ts.length+(bars (segF f)).length+4≤1000000:=by rw[he] at hz;simp only[List.length_cons,List.length_append,List.length_nil] at hz;omega
 rw[HE.out];obtain⟨Z,hZ⟩:∃Z,((ts++[kMu,s,kLeft])++txt (bars (segF f)))++[zY]=Z:=⟨_,rfl⟩;rw[hZ];have HZZ:=Lib.hid hZ;clear hZ;have cR:Calls Tryz.prog 234 #[v] w fun e w'=>e = .returned (.int .i64 2)∧Up w w':=vF hv hu
 obtain⟨q,p,A,c,rfl,hq,k0,k1,k2,k3,k4,hcc,hkid⟩:=InT.open hv;obtain⟨kb,ko,rfl,hkb,hf⟩:=hkid h0;have k4:W.cell? ⟨q,p+4,none⟩=some (.slice (some ⟨kb,ko,none⟩) f.len c):=k4;have k2:W.cell? ⟨q,p+2,none⟩=some (.string s):=k2;have HF:=Lib.hid hf;have HU:=Lib.hid hu;have HW:=Lib.hid hw;have HK:=Lib.hid k0;have HK2:=Lib.hid k2;have HK4:=Lib.hid k4;have HZ:=Lib.hid hzl;have HC:=Lib.hid hc;clear hv hu hw he hz k0 k1 k2 k3 k4 hkid hf hzl hc HE
 go_enter Tryz.func205,Tryz.ntmps205
 go_wp2_with fail;refine cR.mono ?_;rintro en w1 ⟨rfl,u1⟩;have k0:=(HU.out.trans u1).cell HK.out;have k2:=(HU.out.trans u1).cell HK2.out;have cP:=put_3 (W:=W) kMu s kLeft hB (HU.out.trans u1) (HW.out.up u1) (by have:=HZ.out;omega);clear u1 cR;go_wp2_with fail;refine cP.mono ?_;rintro en w2 ⟨⟨u,rfl⟩,u2,h2⟩;have k4:=u2.cell HK4.out;have cC:=zZ9 f hB HC.out kb ko c HF.out w2 _ u2 h2 (by simp only[List.length_append,List.length_cons,List.length_nil];have:=HZ.out;omega) hl;clear u2 h2 cP k0 k2;go_wp2_with fail;refine cC.mono ?_;rintro en w3 ⟨⟨u,rfl⟩,u3,h3⟩;have cP:=uS (W:=W) zY hB u3 h3 (by simp only[List.length_append,jI,List.length_cons,List.length_nil];have:=HZ.out;omega);clear u3 h3 cC k4;go_wp2_with fail;refine cP.mono ?_;rintro en w4 ⟨⟨u,rfl⟩,u4,h4⟩;have H4:=Lib.hid h4;clear h4;go_wp2_with fail;go_end0;exact⟨⟨_,rfl⟩,u4,by rw[←HZZ.out];exact H4.out⟩
end
theorem zQe:(Tryz.prog.info? 146).map (fun i=>(i.zero,i.size,i.bytes))=some (some .nilFunc,1,8):=by kernel_rfl
def OwnCk (w:World) (B:Nat) (v:Value) (vs:List Value):Prop:=w.ownsRow B 146 1 v vs.length vs
def zN6 (vs:List Value) (w:World) (e:Ending) (w':World):Prop:=∃v,e = .returned v∧OwnCk w' w.heap.size v vs∧Below w.heap.size w w'
theorem zE0 (n:Nat) (w:World) (hn:n≤1000000):Calls Tryz.prog 192 #[.slice none 0 0,.int .i64 (n:Int)] w (zN6 [] w):=by
 by_cases h0:n=0
 ·subst h0
  go_enter Tryz.func192,Tryz.ntmps192
  go_wp2_with fail
  go_ret
  exact⟨_,rfl,World.ownsRow_nil _ _ _ _,Below.refl _ _⟩
 ·obtain⟨i0,hi,hz0,hz1,hz2⟩:=info_parts zQe
  have hrun:=Lib.run_append_nil_zeros (P:=Tryz.prog) w 183 3 183 146 i0 _ .i64 .i64 Tryz.underlying183 Tryz.underlying3 hi hz0 n (by omega) (by omega) (by omega) (by rw[hz2];omega);obtain⟨C,hC⟩:∃C,Go.grownCap w n 0 146=C:=⟨_,rfl⟩;have hge:n≤C:=by rw[←hC];exact grownCap_ge _ _ _ _
  have hle:C≤maxLen:=by rw[←hC];exact grownCap_le_maxLen _ _ _ _ (by unfold maxLen;omega)
  rw[hC] at hrun;obtain⟨cs,hcs⟩:∃cs,Go.Builtin.zeroCells Value.nilFunc.cells n++Go.Builtin.zeroCells Value.nilFunc.cells (C-n)=cs:=⟨_,rfl⟩;have hsz:cs.size=C*1:=by rw[←hcs,Array.size_append,size_zeroCells,size_zeroCells];show n*1+(C-n)*1=C*1;omega
  rw[hcs] at hrun;have h1:¬(n:Int)<0:=by omega
  have h2:0<(n:Int):=by omega
  have hb:Below w.heap.size w (w.drew.alloc (.cells cs 146)):=(Below.refl w.heap.size w).drew.alloc (Nat.le_refl _) _;have ho:=World.ownsRow_made (base:=w.heap.size) (e:=146) (size:=1) w.drew cs C (Nat.le_refl _) hle hsz;have HO:=Lib.hid ho;have HB:=Lib.hid hb;clear hi hz0 hz1 hz2 hC hcs hsz ho hb
  go_enter Tryz.func192,Tryz.ntmps192
  go_wp2_with (at_builtin;refine Lib.wpList_append_run _ rfl _ _ _ _ rfl _ _ rfl rfl _ _ hrun ?_)
  go_ret
  exact⟨_,rfl,HO.out,HB.out⟩
def Rds (w:World) (v:Value) (vs:List Value):Prop:=(v = .slice none 0 0∧vs=[])∨∃g o c,v = .slice (some ⟨g,o,none⟩) vs.length c∧g<w.heap.size∧∀(j:Nat) u,vs[j]? = some u→w.cell? ⟨g,o+j,none⟩=some u
theorem Rds.below {w w':World} {v:Value} {vs:List Value} (h:Rds w v vs) (hb:Below w.heap.size w w'):Rds w' v vs:=by
 rcases h with h | ⟨g,o,c,rfl,hg,h⟩
 ·exact .inl h
 ·exact .inr ⟨g,o,c,rfl,Nat.lt_of_lt_of_le hg hb.size,fun j u hu=>hb.cell hg |>.trans (h j u hu)⟩
def Fv (vs:List Value):Prop:=∀u∈vs,u.oneCell'=true
theorem bW {w:World} {ops:Array Oper} {rest:List Oper} {o:Oper} {a:Act} {Q:Exit→Act→World→Prop} (hgd:o.guard=none) (s x:Operand)
  (ho:o.op = .call {callee:=.builtin .append,args:=#[s,x],argTypes:=#[183,183]}) {B:Nat} {v u:Value} {vs us:List Value} (hs:a.eval s=v) (hown:OwnCk w B v vs)
  (hx:a.eval x=u) (hr:Rds w u us) (h1:Fv us) (hl:vs.length+us.length≤2000000) (hB:B≤w.heap.size)
  (h:∀v' w',OwnCk w' B v' (vs++us)→w.grownBy w' v.ownBlock→wpList Tryz.prog ops Q rest (a.put o.dst v') w'):wpList Tryz.prog ops Q (o::rest) a w:=by
 obtain⟨i0,hi,hz0,hz1,hz2⟩:=info_parts zQe
 rcases hr with ⟨rfl,rfl⟩ | ⟨g,p,c,rfl,hg,hc⟩
 ·refine wpList_append_own_none hgd s x 183 ho B 146 i0 1 Tryz.underlying183 hi v vs.length vs hs hown hx (h v w ?_ (jF _ _))
  rw[List.append_nil];exact hown
 ·refine wpList_append_own w hgd s x 183 ho B 146 i0 _ 1 8 Tryz.underlying183 hi hz0 hz1 hz2 rfl (by omega) v vs.length vs hs hown ⟨g,p,none⟩ us.length c us hx (by omega) (fun j u hu=>?_) h1 (by unfold maxLen;omega) (by omega) hB ?_
  ·rw[addAt]
   exact hc j u hu
  ·intro v' w' ho' hg' _
   refine h v' w' ?_ hg';unfold OwnCk;rw[List.length_append];exact ho'
theorem zE1 {w:World} {B:Nat} {v:Value} {vs:List Value} (h:OwnCk w B v vs):∀g,v.ownBlock=some g→B≤g:=fun g hg=>(World.ownsRow.lt h g hg).1
theorem zQf (g0:Nat) (u1 u2:Value) (n1 n2 c1 c2:Nat) (A1 A2:Option Addr) (l1 l2:List Value) (w:World) (h1:u1 = .slice A1 n1 c1) (h2:u2 = .slice A2 n2 c2) (hn1:l1.length=n1) (hn2:l2.length=n2)
  (hg:w.heap[g0]? = some (.cells #[u1,u2] 183 (0,0))) (r1:Rds w u1 l1) (r2:Rds w u2 l2) (f1:Fv l1) (f2:Fv l2) (hl1:n1≤400000) (hl2:n2≤400000) :
  Calls Tryz.prog 164 #[.slice (some ⟨g0,0,none⟩) 2 2] w (zN6 (l1++l2) w):=by
 have k1:w.cell? ⟨g0,0,none⟩=some u1:=cell_of_row w g0 0 _ _ _ hg;have k2:w.cell? ⟨g0,1,none⟩=some u2:=cell_of_row w g0 1 _ _ _ hg;have hgl:=qC hg;obtain⟨N,hN⟩:∃N,n1+n2=N:=⟨_,rfl⟩;have cG:=fun W=>zE0 N W (by omega)
 have R1:=Lib.hid r1;have R2:=Lib.hid r2;have K1:=Lib.hid k1;have K2:=Lib.hid k2;have U1:=Lib.hid h1;have U2:=Lib.hid h2;have F1:=Lib.hid f1;have F2:=Lib.hid f2;have CG:=Lib.hid cG;clear r1 r2 hg h1 h2 f1 f2 cG k1 k2
 go_enter Tryz.func164,Tryz.ntmps164
 go_wp2_with fail
 go_loopw [3,5,11] (fun sz _ i wr=>∃k:Nat,k≤2∧i = .int .i64 k∧sz = .int .i64 ((if k=0 then 0 else if k=1 then n1 else N:Nat):Int)∧wr=w) (fun _ _ i _=>2-(intOf i).toNat)
 case atStart=>exact⟨0,by omega,rfl,rfl,rfl⟩
 case round=>
  obtain⟨k,hk,rfl,rfl,rfl⟩:=hrel
  rcases(by omega:k=0∨k=1∨k=2) with rfl | rfl | rfl
  ·have e1:=K1.out
   rw[U1.out] at e1;have e2:¬(n1:Int)<0:=by omega
   go_wp2_with fail
   go_roundw
   case rel=>exact⟨1,by omega,by go_num,by simp,by trivial⟩
   case measure=>simp[intOf]
  ·have e1:=K2.out
   rw[U2.out] at e1;have e2:¬(n1:Int)+(n2:Int)<0:=by omega
   go_wp2_with fail
   go_roundw
   case rel=>exact⟨2,by omega,by go_num,zV (by simp;omega),by trivial⟩
   case measure=>simp[intOf]
  ·go_wp2_with fail
   refine(CG.out _).mono ?_;rintro e w1 ⟨v1,rfl,o1,b1⟩;have O1:=Lib.hid o1;have B1:=Lib.hid b1;clear o1 b1;go_wp2_with fail;obtain⟨L,hL⟩:∃L:Nat→List Value,L=fun k=>if k=0 then [] else if k=1 then l1 else l1++l2:=⟨_,rfl⟩
   have L0:L 0=[]:=by rw[hL];rfl
   have L1:L 1=l1:=by rw[hL];rfl
   have L2:L 2=l1++l2:=by rw[hL];rfl
   clear hL
   go_loopw [6,8,27] (fun nv _ i w2=>∃k:Nat,k≤2∧i = .int .i64 k∧OwnCk w2 wr.heap.size nv (L k)∧Below wr.heap.size wr w2) (fun _ _ i _=>2-(intOf i).toNat)
   case atStart=>exact⟨0,by omega,rfl,by rw[L0];exact O1.out,B1.out⟩
   case round=>
    obtain⟨k,hk2,rfl,ho,hb⟩:=hrel;have HO:=Lib.hid ho;have HB:=Lib.hid hb;have hbs:=hb.size;clear ho hb hk
    rename_i w2
    rcases(by omega:k=0∨k=1∨k=2) with rfl | rfl | rfl
    ·have e1:=HB.out.cell (p:=⟨g0,0,none⟩) hgl |>.trans K1.out
     go_wp2_with (at_builtin;refine bW rfl _ _ rfl rfl HO.out rfl (R1.out.below HB.out) F1.out (by rw[L0,hn1];simp;omega) hbs ?_;intro v3 w3 o3 g3)
     go_roundw
     case rel=>exact⟨1,by omega,by go_num,by rw[L1];rw[L0] at o3;exact o3,HB.out.grown g3 hbs (zE1 HO.out)⟩
     case measure=>simp[intOf]
    ·have e1:=HB.out.cell (p:=⟨g0,1,none⟩) hgl |>.trans K2.out
     go_wp2_with (at_builtin;refine bW rfl _ _ rfl rfl HO.out rfl (R2.out.below HB.out) F2.out (by rw[L1,hn1,hn2];omega) hbs ?_;intro v3 w3 o3 g3)
     go_roundw
     case rel=>exact⟨2,by omega,by go_num,by rw[L2];rw[L1] at o3;exact o3,HB.out.grown g3 hbs (zE1 HO.out)⟩
     case measure=>simp[intOf]
    ·go_wp2_with fail
     go_ret
     exact⟨_,rfl,by rw[←L2];exact HO.out,HB.out⟩
theorem uT {α:Type} (L:List α) (k:Nat) (cs:List α) (h:k+cs.length≤L.length):(splice L k cs).length=L.length:=length_splice L k cs h
theorem bY {fv:Value} {L:List Value} {k m:Nat} (h:k+m≤L.length) (hL:∀(j:Nat),j<k→L[j]? = some fv):∀(j:Nat),j<k+m→(splice L k (List.replicate m fv))[j]? = some fv:=by
 intro j hj;unfold splice
 by_cases h1:j<k
 ·rw[List.getElem?_append_left (by rw[List.length_take];omega),List.getElem?_take_of_lt h1]
  exact hL j h1
 ·rw[List.getElem?_append_right (by rw[List.length_take];omega),List.length_take,Nat.min_eq_left (by omega),List.getElem?_append_left (by rw[List.length_replicate];omega),List.getElem?_replicate,if_pos (by omega)]
theorem zQg {fv:Value} (h:fv.oneCell'=true) (m:Nat):∀v∈List.replicate m fv,v.oneCell'=true:=fun v hv=>by rw[List.eq_of_mem_replicate hv];exact h
def zN7 (fv:Value) (n:Nat) (w:World) (e:Ending) (w':World):Prop:=∃v,e = .returned v∧(∃A c,v = .slice A n c)∧Rds w' v (List.replicate n fv)∧Below w.heap.size w w'
theorem zN8 {fv:Value} {n H:Nat} {w w':World} {L:List Value} (_hH:w.heap.size=H) (hr:w'.heap[H]? = some (.cells L.toArray 146 (0,0))) (_hl:L.length=n) (hL:∀(j:Nat),j<n→L[j]? = some fv) (hb:Below w.heap.size w w') :
  zN7 fv n w (.returned (.slice (some ⟨H,0,none⟩) n n)) w':=by
 refine⟨_,rfl,⟨_,_,rfl⟩,.inr ⟨H,0,n,by rw[List.length_replicate],qC hr,fun j u hu=>?_⟩,hb⟩;rw[Nat.zero_add,cell_of_row w' H j _ _ _ hr];rw[List.getElem?_replicate] at hu
 by_cases h:j<n
 ·rw[if_pos h] at hu
  rw[←hu,List.getElem?_toArray];exact hL j h
 ·rw[if_neg h] at hu;cases hu
theorem zQh (gx c:Nat) (fv:Value) (n:Nat) (w:World) (hx:w.cell? ⟨gx,0,none⟩=some fv) (h1:fv.oneCell'=true) (hn:n≤400000) :
  Calls Tryz.prog 165 #[.slice (some ⟨gx,0,none⟩) 1 c,.int .i64 (n:Int)] w (zN7 fv n w):=by
 have cM:∀W,Calls Tryz.prog 193 #[.int .u64 1,.int .u64 (n:Int)] W fun e w'=>e = .returned (.tuple #[.int .u64 0,.int .u64 (n:Int)])∧w'=W:=fun W=>by
  have:=Tryz.bits_Mul 1 n (by omega) (by omega) W;rw[Nat.one_mul,Nat.div_eq_of_lt (by omega),Nat.mod_eq_of_lt (by omega)] at this;exact this
 have hxl:gx<w.heap.size:=yL hx;obtain⟨i0,hi,hz0,hz1,hz2⟩:=info_parts zQe;obtain⟨H,hH⟩:∃H,w.heap.size=H:=⟨_,rfl⟩;have hrun:=fun(W:World)=>run_make (P:=Tryz.prog) W 183 146 i0 _ Tryz.underlying183 hi hz0 .i64 .i64 (n:Int) (n:Int) (by omega) (Int.le_refl _) (by rw[hz2];omega) (by omega)
 obtain⟨Z,hZ⟩:∃Z:List Value,(madeCells Value.nilFunc.cells ((n:Int).toNat*i0.size))=Z.toArray:=⟨_,(Array.toArray_toList).symm⟩;have hZl:Z.length=n:=by
  have:=congrArg Array.size hZ;rw[size_madeCells] at this;simp only[List.size_toArray,Int.toNat_natCast,hz1] at this;omega
 rw[hZ] at hrun;simp only[Int.toNat_natCast] at hrun;have hb0:Below w.heap.size w (w.alloc (.cells Z.toArray 146)):=(Below.refl _ _).alloc (Nat.le_refl _) _;have hr0:(w.alloc (.cells Z.toArray 146)).heap[H]? = some (.cells Z.toArray 146 (0,0)):=by rw[←hH];exact heap_alloc_new w _
 have hx0:=hb0.cell hxl |>.trans hx;have hrw:=hrun w;have hbig:¬(9223372036854775807:Int)<(n:Int):=by omega
 have hcu:IntKind.u64.wrap (n:Int)=n:=by show(n:Int) % 18446744073709551616=n;omega
 have hci:IntKind.i64.wrap (n:Int)=n:=by rw[IntKind.wrap_i64];omega
 rw[hH] at hrw;have HH:=Lib.hid hH;have HR0:=Lib.hid hr0;have HB0:=Lib.hid hb0;have HBH:Hid (Below H w (w.alloc (.cells Z.toArray 146))):=Lib.hid (by rw[←hH];exact hb0);have HX0:=Lib.hid hx0;have HZL:=Lib.hid hZl;clear hi hz0 hz1 hz2 hZ hZl hrun hr0 hb0 hx0 hH
 by_cases h0:n=0
 ·subst h0
  have hrw0:(Instr.makeSlice 183 (.int .i64 0) (.int .i64 0)).run Tryz.prog w = .ok (.slice (some ⟨H,0,none⟩) 0 0) (w.alloc (.cells Z.toArray 146)):=hrw;clear hrw
  go_enter Tryz.func165,Tryz.ntmps165
  have hcp:∀W,(Builtin.copy_ #[183,183] 3 #[.slice (some ⟨H,0,none⟩) 0 0,.slice (some ⟨gx,0,none⟩) 1 c]).run Tryz.prog W = .ok (goInt 0) W:=fun W=>
   run_copy_none (P:=Tryz.prog) W _ _ _ 146 _ _ _ _ _ _ Tryz.underlying183 (by kernel_rfl) (by decide)
  go_wp2_with (go_at_call 193;refine(cM _).mono ?_;rintro e w1 ⟨rfl,he⟩;obtain rfl:=he.symm)
  go_loopw [8] (fun i wr=>i = .int .i64 0∧wr=w.alloc (.cells Z.toArray 146)) (fun _ _=>0)
  case atStart=>exact⟨rfl,rfl⟩
  case round=>
   obtain⟨rfl,rfl⟩:=hrel;go_wp2_with fail
   go_ret
   exact zN8 HH.out HR0.out HZL.out (fun j hj=>absurd hj (Nat.not_lt_zero _)) HB0.out
 ·have h0':0<n:=by omega
  have hpos:¬(n:Int)=0:=by omega
  obtain⟨w2,hcp,hr2,hb2⟩:∃w2,(Builtin.copy_ #[183,183] 3 #[.slice (some ⟨H,0,none⟩) n n,.slice (some ⟨gx,0,none⟩) 1 c]).run Tryz.prog (w.alloc (.cells Z.toArray 146)) = .ok (.int .i64 1) w2∧
    w2.heap[H]? = some (.cells (splice Z 0 (List.replicate 1 fv)).toArray 146 (0,0))∧Below H w w2:=by
   refine⟨_,run_copy_row (P:=Tryz.prog) _ _ _ _ 146 H 0 n n ⟨gx,0,none⟩ 1 c Z.toArray 146 (List.replicate 1 fv) Tryz.underlying183 (by kernel_rfl) HR0.out (by rw[List.length_replicate];exact(Nat.min_eq_left h0').symm) (fun j v hj=>?_) (by rw[List.length_replicate,List.size_toArray,HZL.out];omega) (zQg h1 1),?_,?_⟩
   ·rw[addAt,Nat.zero_add]
    rw[List.getElem?_replicate] at hj
    by_cases h:j<1
    ·rw[if_pos h] at hj
     obtain rfl:j=0:=by omega
     injection hj with hj;rw[←hj];exact HX0.out
    ·rw[if_neg h] at hj;cases hj
   ·simpa [splice] using setRow_heap _ H _ _ 146 _ HR0.out
   ·exact below_setRow HBH.out (Nat.le_refl _) _
  have HR2:=Lib.hid hr2;have HB2:=Lib.hid hb2;clear hr2 hb2
  go_enter Tryz.func165,Tryz.ntmps165
  go_wp2_with (go_at_call 193;refine(cM _).mono ?_;rintro e w1 ⟨rfl,he⟩;obtain rfl:=he.symm)
  clear hcp hrw cM hcu hci hx
  go_loopw [8] (fun i wr=>∃k:Nat,0<k∧k≤n∧i = .int .i64 k∧Below H w wr∧∃L:List Value,wr.heap[H]? = some (.cells L.toArray 146 (0,0))∧L.length=n∧∀(j:Nat),j<k→L[j]? = some fv) (fun i _=>n-(intOf i).toNat)
  case atStart=>
   refine⟨1,by omega,h0',rfl,HB2.out,_,HR2.out,by rw[uT _ _ _ (by rw[List.length_replicate,HZL.out];omega),HZL.out],?_⟩;exact bY (k:=0) (m:=1) (by rw[HZL.out];omega) (fun j hj=>absurd hj (Nat.not_lt_zero _))
  case round=>
   obtain⟨k,hk0,hk,rfl,hbw,L,hr,hl,hall⟩:=hrel
   rename_i wr
   have HR:=Lib.hid hr;have HBW:=Lib.hid hbw;have HL:=Lib.hid hl;have HALL:=Lib.hid hall;clear hr hbw hl hall
   by_cases hlt:k<n
   ·obtain⟨m,hm⟩:∃m,Nat.min k (n-k)=m:=⟨_,rfl⟩
    have hm1:0<m∧k+m≤n:=by
     have a:m≤n-k:=by rw[←hm];exact Nat.min_le_right _ _
     have b:0<m:=by rw[←hm];exact Nat.lt_min.2 ⟨hk0,by omega⟩
     omega
    have hkz:(k:Int)≤(n:Int):=by omega
    have hkl:(k:Int)<(n:Int):=by omega
    have hk00:¬(k:Int)<0:=by omega
    have ekn:¬n=k:=by omega
    have hmk:m≤k:=by rw[←hm];exact Nat.min_le_left _ _
    go_wp2_with fail;have hsrc:∀(j:Nat) v,(List.replicate m fv)[j]? = some v→wr.drew.cell? ((⟨H,0,none⟩:Addr).add j)=some v:=fun j v hj=>by
     rw[addAt,Nat.zero_add];rw[List.getElem?_replicate] at hj
     by_cases h:j<m
     ·rw[if_pos h] at hj
      injection hj with hj;rw[←hj];exact(cell_of_row wr H j _ _ _ HR.out).trans (by rw[List.getElem?_toArray];exact HALL.out j (by omega))
     ·rw[if_neg h] at hj;cases hj
    have HSRC:=Lib.hid hsrc;obtain⟨L',hL'⟩:∃L',splice L k (List.replicate m fv)=L':=⟨_,rfl⟩;have HA:Hid (L'.length=n):=Lib.hid (by rw[←hL'];exact(uT L k (List.replicate m fv) (by rw[List.length_replicate,HL.out];exact hm1.2)).trans HL.out);have HB:Hid (∀(j:Nat),j<k+m→L'[j]? = some fv):=Lib.hid (by rw[←hL'];exact bY (L:=L) (k:=k) (m:=m) (by rw[HL.out];exact hm1.2) HALL.out);have HL':=Lib.hid hL';clear hsrc hL';obtain⟨w4,hcp4,hg4,hb4⟩:∃w4,(Builtin.copy_ #[183,183] 3 #[.slice (some ⟨H,k,none⟩) (n-k) (n-k),.slice (some ⟨H,0,none⟩) k n]).run Tryz.prog wr.drew = .ok (.int .i64 (m:Int)) w4∧
      w4.heap[H]? = some (.cells L'.toArray 146 (0,0))∧Below H w w4:=by
     have hc:=run_copy_row (P:=Tryz.prog) wr.drew 183 183 3 146 H k (n-k) (n-k) ⟨H,0,none⟩ k n L.toArray 146 (List.replicate m fv) Tryz.underlying183 (by kernel_rfl) HR.out (by rw[List.length_replicate];exact hm.symm) HSRC.out (by rw[List.length_replicate,List.size_toArray,HL.out];exact hm1.2) (zQg h1 m);have e1:goInt (List.replicate m fv).length = .int .i64 (m:Int):=by rw[List.length_replicate];rfl
     rw[e1] at hc;refine⟨_,hc,?_,below_setRow (qD HBW.out 1) (Nat.le_refl _) _⟩;rw[←HL'.out]
     simpa [splice] using setRow_heap wr.drew H _ _ 146 _ HR.out
    have HB4:=Lib.hid hb4;have HG4:=Lib.hid hg4;clear hg4 hb4
    go_region
    go_wp2_with fail
    go_roundw
    case rel=>exact⟨k+m,by omega,hm1.2,by go_num,HB4.out,L',HG4.out,HA.out,HB.out⟩
    case measure=>simp[intOf];omega
   ·have hkn:k=n:=by omega
    subst hkn;go_wp2_with fail
    go_ret
    exact zN8 HH.out HR.out HL.out HALL.out (by rw[HH.out];exact HBW.out)
theorem yVv (l:List (FuncId×Array Value)):Fv (l.map fnV):=fun u hu=>by
 obtain⟨y,_,rfl⟩:=List.mem_map.1 hu
 rfl
theorem zAx {w:World} {B n c:Nat} {A:Option Addr} {fs:List (FuncId×Array Value)} {X:Option Nat} (h:OwnCk w B (.slice A n c) (fs.map fnV)) (hX:∀m,X=some m→m<B):n=fs.length∧Fns w X A fs:=by
 unfold OwnCk at h;rw[List.length_map] at h;obtain⟨h0,h⟩:=h
 rcases h with ⟨h,h1⟩ | ⟨g,cap,cur,h,hB,hg,_,_,hcs,hxs⟩
 ·injection h with h2 h3
  refine⟨by omega,fun j k cp hj=>?_⟩;rw[List.length_eq_zero_iff.1 h1] at hj
  cases hj
 ·injection h with h2 h3
  refine⟨h3,fun j k cp hj=>⟨g,0,h2,fun e=>by have:=hX g e;omega,?_⟩⟩;rw[Nat.zero_add,cell_of_row w g j _ _ _ hg];have hm:(fs.map fnV)[j]? = some (.func (.func k) #[] cp):=by rw[List.getElem?_map,hj];rfl
  rw[←hxs,List.getElem?_take] at hm
  split at hm
  ·rw[←hm,Array.getElem?_toList]
  ·cases hm
theorem zTx (W w0:World) (v:Value) (x:Nod) (f:Fr) (hv:HasT W v (some (x,f))) (hu:Up W w0) (hf:f.len≤100000) (least:Nat) (hle:least≤1) (o:FuncId×Array Value)
  (A1:Option Addr) (c1:Nat) (fs:List (FuncId×Array Value)) (hfs:fs.length≤2) (r1:Rds w0 (.slice A1 fs.length c1) (fs.map fnV)) (X:Option Nat) (hX:∀m,X=some m→W.heap.size≤m∧m<w0.heap.size)
  (bs:Nat→Bool) (J:Nat→World→Prop) (hJ:∀w,Below w0.heap.size w0 w→J 0 w)
  (hc:∀(i:Nat) (t:Tr) (kv:Value) (w:World) k cap,f.get i=some t→(fs++List.replicate (f.len-fs.length) o)[i]? = some (k,cap)→HasT W kv (some t)→Up W w→J i w→
   Ent k∧Calls Tryz.prog k (#[kv]++cap) w fun e w'=>TelX (bs i) X w e w'∧(bs i=true→J (i+1) w')) :
  Calls Tryz.prog 108 #[v,.int .i64 (least:Int),fnV o,.slice A1 fs.length c1] w0 (TelX (decide (fs.length+least≤f.len)&&allB f.len bs) X w0):=by
 have hv0:=hv;obtain⟨q,p,A',c',rfl,hq,c0,k1,k2,k3,c4,hcc,hkid⟩:=InT.open hv;have c4':=hu.cell c4;obtain⟨n1,hn1⟩:∃n1,fs.length=n1:=⟨_,rfl⟩;obtain⟨M,hM⟩:∃M,f.len=M:=⟨_,rfl⟩;rw[hn1] at r1 hfs ⊢;rw[hM] at c4' hf ⊢;have HC:=Lib.hid hc;have HU:=Lib.hid hu;have HV:=Lib.hid hv0;have HX:=Lib.hid hX;have HJ:=Lib.hid hJ;have HM:=Lib.hid hM;have HN:=Lib.hid hn1;have R1:=Lib.hid r1;obtain⟨ko,co⟩:=o;have HFO:Hid (fnV (ko,co) = .func (.func ko) #[] co):=Lib.hid rfl;rw[HFO.out];clear hc hu hv hv0 hX hJ c0 k1 k2 k3 c4 hcc hkid hq hn1 hM r1
 by_cases h:n1+least≤M
 ·obtain⟨n,hn⟩:∃n,M-n1=n:=⟨_,rfl⟩
  have e1:(M:Int)-(n1:Int)=(n:Int):=by omega
  have e2:(least:Int)≤(n:Int):=by omega
  have HB:Hid ((decide (n1+least≤M)&&allB M bs)=allB M bs):=Lib.hid (by rw[decide_eq_true h];rfl);rw[HB.out];obtain⟨H,hH⟩:∃H,w0.heap.size=H:=⟨_,rfl⟩;have hx1:(w0.alloc (.cells #[.func (.func ko) #[] co] 146)).cell? ⟨H,0,none⟩=some (.func (.func ko) #[] co):=by rw[←hH];exact cell_of_row _ w0.heap.size 0 _ _ _ (heap_alloc_new w0 _)
  have cR:=zQh H 1 (.func (.func ko) #[] co) n _ hx1 rfl (by omega)
  go_enter Tryz.func108,Tryz.ntmps108
  go_wp2_with fail;refine cR.mono ?_;rintro e w2 ⟨v2,rfl,⟨A2,c2,rfl⟩,r2,b2⟩;go_wp2_with fail;have hs1:(w0.alloc (.cells #[.func (.func ko) #[] co] 146)).heap.size=w0.heap.size+1:=by simp
  have b02:Below w0.heap.size w0 w2:=((Below.refl w0.heap.size w0).alloc (Nat.le_refl _) _).trans (b2.mono (by omega));have hs2:=b02.size;obtain⟨W3,hW3⟩:∃W3,w2.alloc (.cells #[.slice A1 n1 c1,.slice A2 n c2] 183)=W3:=⟨_,rfl⟩;have b23:Below w2.heap.size w2 W3:=by rw[←hW3];exact(Below.refl _ _).alloc (Nat.le_refl _) _
  have b03:Below w0.heap.size w0 W3:=b02.trans (b23.mono hs2);have hs3:=b03.size;have hg3:W3.heap[w2.heap.size]? = some (.cells #[.slice A1 n1 c1,.slice A2 n c2] 183 (0,0)):=by rw[←hW3];exact heap_alloc_new w2 _
  have hn2:n1+n=M:=by omega
  have cC:=zQf w2.heap.size _ _ n1 n c1 c2 A1 A2 (fs.map fnV) (List.replicate n (.func (.func ko) #[] co)) W3 rfl rfl (by rw[List.length_map];exact HN.out) List.length_replicate hg3 (R1.out.below b03) (r2.below b23) (yVv fs) (zQg rfl n) (by omega) (by omega);have hmap:fs.map fnV++List.replicate n (.func (.func ko) #[] co)=(fs++List.replicate n (ko,co)).map fnV:=by rw[List.map_append,List.map_replicate,HFO.out]
  have hlen:(fs++List.replicate n (ko,co)).length=M:=by rw[List.length_append,List.length_replicate,HN.out];exact hn2
  rw[hmap] at cC;rw[hW3];clear r2 b2 hg3 cR hx1 hW3 b23 b02;refine cC.mono ?_;rintro e w4 ⟨v4,rfl,o4,b4⟩;obtain⟨A4,c4,rfl⟩:=dB o4;obtain⟨-,hfn⟩:=zAx (X:=X) o4 (fun m hm=>by have:=HX.out m hm;omega);rw[List.length_map,hlen];have b04:Below w0.heap.size w0 w4:=b03.trans (b4.mono hs3);have cK:=zY7 W w4 _ x f HV.out (HU.out.trans b04) (by rw[HM.out];omega) A4 c4 (fs++List.replicate n (ko,co)) (by rw[hlen];omega) X hfn (fun m hm=>(HX.out m hm).1) bs J (HJ.out w4 b04)
   (fun i t kv w k cap h1 h2=>HC.out i t kv w k cap h1 (by rw[HM.out,HN.out,hn];exact h2))
  rw[hlen,HM.out,decide_eq_true rfl,Bool.true_and] at cK;have B04:=Lib.hid b04;clear b04 b4 b03 hfn o4 cC hmap;go_wp2_with fail;refine cK.mono ?_;rintro e w5 ⟨rfl,g5⟩;go_wp2_with fail
  go_ret
  exact xU rfl (yT (kO B04.out (Nat.le_refl _)) g5)
 ·have HB:Hid ((decide (n1+least≤M)&&allB M bs)=false):=Lib.hid (by rw[decide_eq_false h];rfl)
  rw[HB.out];have e2:¬(least:Int)≤(M:Int)-(n1:Int):=by omega
  go_enter Tryz.func108,Tryz.ntmps108
  go_wp2_with fail
  go_ret
  exact xU rfl (jF _ _)
def ShpAt (f:FuncId) (c:Int):Prop:=∀(o:Option Tr),szO o≤60000→okSO o→∀(W w:World) (v:Value),B.Nx W→HasT W v o→Up W w→Calls Tryz.prog f #[v] w (InP (chk B.nck B.long o c) W)
def rowB:List Int→Nat→(Inf→Bool)→List Inf→Bool
 | [],n,P,l=>decide (n≤l.length)&&l.all P
 | _::_,_,_,[]=>false
 | c::r,n,P,i::t=>i.is c&&rowB r n P t
theorem zYm (P:Inf→Bool):∀(l:List Inf),allB l.length (atB l [] P)=l.all P
 | []=>rfl
 | i::t=>by
  rw[List.length_cons,pQ,List.all_cons,←zYm P t]
  rfl
theorem zTy (n:Nat) (P:Inf→Bool):∀(cs:List Int) (l:List Inf),(decide (cs.length+n≤l.length)&&allB l.length (atB l cs P))=rowB cs n P l
 | [],l=>by
  rw[zYm,List.length_nil,Nat.zero_add]
  rfl
 | c::r,[]=>by
  show(decide (r.length+1+n≤0)&&_)=false
  rw[decide_eq_false (by omega)]
  rfl
 | c::r,i::t=>by
  show(decide (r.length+1+n≤t.length+1)&&allB (t.length+1) (atB (i::t) (c::r) P))=(i.is c&&rowB r n P t)
  rw[pQ,←zTy n P r t];have e:(fun j=>atB (i::t) (c::r) P (j+1))=atB t r P:=by funext j;rfl
  have e0:atB (i::t) (c::r) P 0=i.is c:=rfl;rw[e,e0]
  by_cases h:r.length+n≤t.length
  ·rw[decide_eq_true h,decide_eq_true (by omega:r.length+1+n≤t.length+1)]
   cases i.is c<;>rfl
  ·rw[decide_eq_false h,decide_eq_false (by omega:¬r.length+1+n≤t.length+1)]
   cases i.is c<;>rfl
theorem bC (l:List Inf):(!l.isEmpty)=decide (1≤l.length):=by
 cases l with
 | nil=>rfl
 | cons i t=>rw[List.length_cons,decide_eq_true (by omega)];rfl
theorem zN9 (l:List Inf):seqOk l [65]=(!l.isEmpty&&l.all fun i=>i.is 9):=by cases l<;>rfl
theorem zE2 (l:List Inf):seqOk l [101,65]=rowB [2] 1 (fun i=>i.is 9) l:=by
 cases l with
 | nil=>rfl
 | cons i t=>
  show(i.is 2&&seqOk t [65])=(i.is 2&&(decide (1≤t.length)&&t.all fun i=>i.is 9))
  rw[←bC,zN9]
theorem zLz (l:List Inf):seqOk l [101,116,65]=rowB [2,1] 1 (fun i=>i.is 9) l:=by
 cases l with
 | nil=>rfl
 | cons i t=>
  cases t with
  | nil=>rfl
  | cons j t=>
   show(i.is 2&&(j.is 1&&seqOk t [65]))=(i.is 2&&(j.is 1&&(decide (1≤t.length)&&t.all fun i=>i.is 9)))
   rw[←bC,zN9]
theorem zNa (cs:List Int) (least:Nat) (k:FuncId) (P:Inf→Bool) (x:Nod) (f:Fr) (w:World) (v:Value) (A:Option Addr) (c:Nat) (hk:Ent k) (hl:least≤1) (hx:B.Nx w) (hv:HasT w v (some (x,f))) (hf:f.len≤100000) (hcs:cs.length≤2)
  (hA:Rds w (.slice A cs.length c) ((fnsC cs).map fnV)) (hI:∀(i:Nat) (t:Tr) (c:Int),f.get i=some t→c∈cs→TelAt (fnC c) (isT B.nck B.long t c) t)
  (hK:∀(i:Nat) (t:Tr),f.get i=some t→TelAt k (P (IT t)) t) :
  Calls Tryz.prog 108 #[v,.int .i64 (least:Int),.func (.func k) #[] #[],.slice A cs.length c] w (TelB (rowB cs least P (IF f)) w):=by
 have h:=zTx w w v x f hv (Up.refl w) hf least hl (k,#[]) A c (fnsC cs) (by rw[wP];exact hcs) (by rw[wP];exact hA) none (fun m hm=>by cases hm) (atB (IF f) cs P) (fun _ _=>True) (fun _ _=>trivial)
  (fun i t kv w' k' cap h1 h2 h3 h4 _=>by
   rw[List.getElem?_append] at h2
   split at h2
   ·obtain⟨c,hc,rfl,rfl⟩:=zUv h2
    refine⟨yX0 c,((hI i t c h1 (List.mem_of_getElem? hc)) w' kv (Nx.up hx h4) (HasT.up h3 h4)).mono fun e w'' h=>⟨⟨?_,kO h.2 (Nat.le_refl _)⟩,fun _=>trivial⟩⟩;rw[h.1,zW9 h1,hc]
    rfl
   ·rename_i hi
    rw[wP] at hi;rw[List.getElem?_replicate] at h2
    split at h2
    ·injection h2 with h2
     injection h2 with h5 h6;subst h5;subst h6;refine⟨hk,((hK i t h1) w' kv (Nx.up hx h4) (HasT.up h3 h4)).mono fun e w'' h=>⟨⟨?_,kO h.2 (Nat.le_refl _)⟩,fun _=>trivial⟩⟩;rw[h.1,zW9 h1,List.getElem?_eq_none (by omega)]
    ·cases h2)
 rw[wP,←jR (nk:=B.nck) (lg:=B.long),zTy] at h;exact zUw h
end Go.Proofs.YtbpijnalmakfaaaGreatDoor
namespace Go.Proofs.YtbpijnalmakfaaaGreatDoor
open Go.RowKit Go.Maps
def conB (l:List ByteArray) (t:Tr):Bool:=!hasC l t.1.a&&isT B.nck B.long t 8
def zAy (t:Tr) (l:List ByteArray) (pb mb:Nat) (w:World) (e:Ending) (w':World):Prop:=TelX (conB l t) (some mb) w e w'∧StC w' pb mb (l++[t.1.a])
theorem yVw:∀r∈RWS,r.cat=8→r.kind=8:=by decide
theorem isT8 (x:Nod) (f:Fr):isT B.nck B.long (x,f) 8=(decide (x.k=8)&&texB x B.nck isEmp&&seqK (IF f) [1]):=by
 by_cases h:x.k=8
 ·rw[decide_eq_true h]
  show isX B.nck B.long x (IF f) 8=_
  rw[zZ h (by rfl),sR (A:=B.nck) (M:=isEmp) (fun _=>rfl) (fun _=>rfl),jS _ _ (by rfl)]
  rfl
 ·rw[decide_eq_false h]
  exact lG fun r hr hc e=>h (by rw[←e];exact yVw r hr hc)
theorem zAz (W w:World) (x:Nod) (f:Fr) (l:List ByteArray) (kv:Value) (pb mb:Nat) (hx:B.Nx W) (hv:HasT W kv (some (x,f))) (hu:Up W w) (hmb:W.heap.size≤mb) (hst:StC w pb mb l) (hs:okST (x,f)) (hl:l.length≤100000) (hf:f.len≤100000)
  (hI:∀(i:Nat) (t:Tr),f.get i=some t→TelAt (fnC 1) (isT B.nck B.long t 1) t) :
  Calls Tryz.prog 191 #[kv,.pointer (some ⟨pb,0,none⟩)] w (zAy (x,f) l pb mb w):=by
 obtain⟨q,p,A,c,rfl,hq,c0,c1,c2,c3,c4,hcc,hkid⟩:=InT.open hv;have k0:=hu.cell c0;have k2:=hu.cell c2;have kp:w.cell? ⟨pb,0,none⟩=some (.map (some mb)):=cell_of_row w pb 0 _ _ _ hst.1;have hsa:x.a.size≤2000000000:=by have h:x.a.size≤1000000000:=hs.1;omega
 have hl1:(Instr.lookup 205 (.map (some mb)) (.string x.a) true).run Tryz.prog w.drew = .ok (.tuple #[.agg #[],.bool (hasC l x.a)]) w.drew:=lookC (l:=l) (vD hst.2.2 (Below.refl _ _).drew) hsa;have hbA:Below w.heap.size w (w.alloc (.cells #[] 178)):=(Below.refl _ _).alloc (Nat.le_refl _) _;have k2':=hbA.cell (yL k2) |>.trans k2;have kp':=hbA.cell (yL kp) |>.trans kp;have hl2:(Instr.lookup 205 (.map (some mb)) (.string x.a) true).run Tryz.prog (w.alloc (.cells #[] 178)).drew = .ok (.tuple #[.agg #[],.bool (hasC l x.a)]) (w.alloc (.cells #[] 178)).drew:=lookC (l:=l) (vD hst.2.2 hbA.drew) hsa;have HBA:=Lib.hid hbA;have K2:=Lib.hid k2;have KP:=Lib.hid kp;have C0:=Lib.hid c0;have HST:=Lib.hid hst;have HV:=Lib.hid hv;have HU:=Lib.hid hu;have HS:=Lib.hid hs;have HI:=Lib.hid hI;clear c0 c1 c2 c3 c4 hcc hkid hst hv hu hs hI hbA;obtain⟨tw,htw⟩:∃tw,hasC l x.a=tw:=⟨_,rfl⟩;rw[htw] at hl1 hl2;have HTW:=Lib.hid htw;clear htw
 go_enter Tryz.func191,Tryz.ntmps191
 go_wp2_with fail
 go_region
 all_goals
  clear k2 kp hl1 hl2 k2' kp' k0;obtain⟨w1,hw1⟩:∃w1,(w.alloc (.cells #[] 178)).drew=w1:=⟨_,rfl⟩;rw[hw1];have b1:Below w.heap.size w w1:=by rw[←hw1];exact HBA.out.drew
  have u1:Up W w1:=HU.out.trans b1;have st1:=HST.out.below b1;have k2:=b1.cell (yL K2.out) |>.trans K2.out;have kp:=b1.cell (yL KP.out) |>.trans KP.out;obtain⟨w3,hup,hown,hg3⟩:=zWa (w:=w1.drew) (vD st1.2.2 (Below.refl _ _).drew) hsa (by omega);have st3:StC w3 pb mb (l++[x.a]):=⟨kE (w:=w1.drew) hg3 st1.1 st1.2.1,st1.2.1,hown⟩;have g3:w.grownBy w3 (some mb):=yT (kO b1 (Nat.le_refl _)) (yT (kO (B:=w1.heap.size) (Below.refl w1.heap.size w1).drew (Nat.le_refl _)) hg3);have u3:Up W w3:=zOj HU.out g3 fun m hm=>by injection hm with hm;rw[←hm];exact hmb
  have k0:=u3.cell C0.out;have ST3:=Lib.hid st3;have G3:=Lib.hid g3;have U3:=Lib.hid u3;clear st1 st3 g3 u1 u3 hw1 b1 hown hg3;go_wp2_with fail
  go_region
  cases tw
  ·by_cases hk:x.k=8
   ·have HCB:Hid (conB l (x,f)=(texB x B.nck isEmp&&seqK (IF f) [1])):=Lib.hid (by unfold conB;show(!hasC l x.a&&_)=_;rw[HTW.out,isT8,decide_eq_true hk];cases texB x B.nck isEmp<;>rfl)
    have cN:=pU x f w3 (.pointer (some ⟨q,p,none⟩)) (HV.out.up U3.out) HS.out.1;obtain⟨nb,hnb⟩:∃nb,texB x B.nck isEmp=nb:=⟨_,rfl⟩;rw[hnb] at cN;have HNB:=Lib.hid hnb;clear hnb
    cases nb
    ·go_wp2_with fail
     refine cN.mono ?_;rintro e w4 ⟨rfl,u4⟩;go_wp2_with fail
     go_ret
     exact⟨xU (by rw[HCB.out,HNB.out];rfl) (yT G3.out (kO u4 (Nat.le_refl _))),ST3.out.below u4⟩
    ·go_wp2_with fail
     refine cN.mono ?_;rintro e w4 ⟨rfl,u4⟩;have cK:=zS [1] x f (w4.alloc (.cells #[.func (.func 107) #[] #[]] 146)) (.pointer (some ⟨q,p,none⟩)) (some ⟨w4.heap.size,0,none⟩) 1 (Nx.up hx ((U3.out.trans u4).alloc _)) (HV.out.up ((U3.out.trans u4).alloc _)) hf (by decide)
      (jZ (fnsC [1]) (heap_alloc_new w4 _)) (fun i t c h hc=>by rw[List.mem_singleton.1 hc];exact HI.out i t h)
     have u5:Up w3 (w4.alloc (.cells #[.func (.func 107) #[] #[]] 146)):=u4.alloc _;have U5:=Lib.hid u5;clear u4 u5;go_wp2_with fail;refine cK.mono ?_;rintro e w5 ⟨rfl,u6⟩;go_wp2_with fail
     go_ret
     exact⟨xU (by rw[HCB.out,HNB.out];rfl) (yT G3.out (kO (U5.out.trans u6) (Nat.le_refl _))),ST3.out.below (U5.out.trans u6)⟩
   ·go_wp2_with fail
    go_ret
    exact⟨xU (by unfold conB;rw[isT8,decide_eq_false hk];show(_&&false)=_;rw[Bool.and_false]) G3.out,ST3.out⟩
  ·go_wp2_with fail
   go_ret
   exact⟨xU (by unfold conB;show(!hasC l x.a&&_)=_;rw[HTW.out];rfl) G3.out,ST3.out⟩
theorem zTz (p q:Inf→Bool):∀l:List Inf,(l.all fun x=>p x&&q x)=(l.all p&&l.all q)
 | []=>rfl
 | i::t=>by
  rw[List.all_cons,List.all_cons,List.all_cons,zTz p q t]
  cases p i<;>cases q i<;>cases t.all p<;>cases t.all q<;>rfl
theorem zK0 (l:List ByteArray) (a s:ByteArray):hasC (l++[a]) s=(hasC l s||decide (a=s)):=by
 rw[Bool.eq_iff_iff,Bool.or_eq_true,decide_eq_true_eq];unfold hasC;rw[lH,lH,List.mem_append,List.mem_singleton]
 constructor
 ·rintro(h | h)
  ·exact .inl h
  ·exact .inr h.symm
 ·rintro(h | h)
  ·exact .inl h
  ·exact .inr h.symm
def conAt (ahead:List ByteArray) (l:List Inf) (i:Nat):Bool:=match l[i]? with
 | some j=>!hasC (ahead++(l.take i).map (·.a)) j.a&&j.is 8
 | none=>true
theorem zNb:∀(l:List Inf) (ahead:List ByteArray),allB l.length (conAt ahead l)=(l.all (fun j=>j.is 8)&&kB l&&l.all fun j=>!hasC ahead j.a)
 | [],_=>rfl
 | i::t,ahead=>by
  rw[List.length_cons,pQ];have e:(fun j=>conAt ahead (i::t) (j+1))=conAt (ahead++[i.a]) t:=by
   funext j
   unfold conAt;rw[List.getElem?_cons_succ,List.take_succ_cons,List.map_cons];simp only[List.append_assoc,List.cons_append,List.nil_append]
  have e0:conAt ahead (i::t) 0=(!hasC ahead i.a&&i.is 8):=by
   unfold conAt
   simp
  rw[e,e0,zNb t (ahead++[i.a])];have e1:(t.all fun j=>!hasC (ahead++[i.a]) j.a)=((t.all fun j=>!hasC ahead j.a)&&t.all fun j=>decide (i.a≠j.a)):=by
   rw[←zTz]
   congr 1
   funext j
   rw[zK0]
   by_cases h:i.a=j.a
   ·rw[decide_eq_true h,decide_eq_false (by simpa using h)]
    cases hasC ahead j.a<;>rfl
   ·rw[decide_eq_false h,decide_eq_true h]
    cases hasC ahead j.a<;>rfl
  rw[e1,List.all_cons,List.all_cons]
  show _=(i.is 8&&t.all (fun j=>j.is 8)&&((t.all fun j=>decide (i.a≠j.a))&&kB t)&&(!hasC ahead i.a&&t.all fun j=>!hasC ahead j.a))
  cases hasC ahead i.a<;>cases i.is 8<;>cases t.all (fun j=>j.is 8)<;>cases kB t<;>cases (t.all fun j=>!hasC ahead j.a)<;>cases (t.all fun j=>decide (i.a≠j.a))<;>rfl
theorem yZ0 (l:List Inf):(decide (0+1≤l.length)&&allB l.length (conAt [] l))=seqOk l [67]:=by
 rw[zNb,Nat.zero_add,←bC];have e:(l.all fun j=>!hasC [] j.a)=true:=by
  rw[List.all_eq_true];intro j _;have:hasC [] j.a=false:=by
   rw[Bool.eq_false_iff];intro h;unfold hasC at h;rw[lH] at h
   cases h
  rw[this]
  rfl
 rw[e,Bool.and_true]
 cases l<;>rfl
def nR (f:Fr) (i:Nat):List ByteArray:=((IF f).take i).map (·.a)
theorem zS0 {f:Fr} {i:Nat} {t:Tr} (h:f.get i=some t):nR f (i+1)=nR f i++[t.1.a]:=by
 unfold nR;have hg:(IF f)[i]? = some (IT t):=by rw[nD,h];rfl
 rw[List.take_add_one,hg,List.map_append]
 rfl
theorem zQi (f:Fr) (i:Nat):(nR f i).length≤f.len:=by
 unfold nR;rw[List.length_map,List.length_take,jR];omega
theorem yZ1 {f:Fr} {i:Nat} {t:Tr} (h:f.get i=some t):conAt [] (IF f) i=conB (nR f i) t:=by
 have hg:(IF f)[i]? = some (IT t):=by rw[nD,h];rfl
 unfold conAt;rw[hg]
 rfl
theorem zK1 (x:Nod) (f:Fr) (w:World) (v:Value) (hx:B.Nx w) (hv:HasT w v (some (x,f))) (hs:okST (x,f)) (hf:f.len≤100000)
  (hI:∀(i:Nat) (t:Tr),f.get i=some t→t.2.len≤100000∧∀(j:Nat) (s:Tr),t.2.get j=some s→TelAt (fnC 1) (isT B.nck B.long s 1) s) :
  Calls Tryz.prog 163 #[v] w (TelB (seqOk (IF f) [67]) w):=by
 obtain⟨q,p,rfl⟩:=InT.ptr hv;obtain⟨H,hH⟩:∃H,w.heap.size=H:=⟨_,rfl⟩;obtain⟨W0,hW0⟩:∃W0,(w.alloc (.map #[] 0)).alloc (.cells #[.map (some H)] 205)=W0:=⟨_,rfl⟩;have s1:(w.alloc (.map #[] 0)).heap.size=H+1:=by simp[hH]
 have b0:Below w.heap.size w W0:=by rw[←hW0];exact((Below.refl w.heap.size w).alloc (Nat.le_refl _) _).alloc (by omega) _
 have hs0:W0.heap.size=H+2:=by rw[←hW0];simp[hH]
 have st0:StC W0 (H+1) H []:=by
  refine⟨?_,by omega,?_⟩
  ·rw[←hW0,←s1];exact heap_alloc_new _ _
  ·have hm:(w.alloc (.map #[] 0)).ownsMap Tryz.prog 9 (unitElem (H:=Unit)) w.heap.size 0 (.map []):=World.ownsMap_made _ _ _ _
   rw[hH] at hm;rw[←hW0];exact vD hm ((Below.refl _ _).alloc (Nat.le_refl _) _)
 have cR:=zTx w W0 (.pointer (some ⟨q,p,none⟩)) x f hv b0 hf 1 (by omega) (191,#[.pointer (some ⟨H+1,0,none⟩)]) none 0 [] (by decide) (.inl ⟨rfl,rfl⟩) (some H) (fun m hm=>by injection hm with hm;omega)
  (conAt [] (IF f)) (fun i w'=>StC w' (H+1) H (nR f i)) (fun w' hb=>st0.below hb)
  (fun i t kv w' k cap h1 h2 h3 h4 h5=>by
   rw[List.nil_append,List.getElem?_replicate] at h2
   split at h2
   ·injection h2 with h2
    injection h2 with h6 h7;subst h6;subst h7;refine⟨fun _ _=>by kernel_rfl,(zAz w w' t.1 t.2 (nR f i) kv (H+1) H hx h3 h4 (by omega) h5 (fC hs.2.2 h1) (by have:=zQi f i;omega) (hI i t h1).1 (fun j s hj=>(hI i t h1).2 j s hj)).mono fun e w'' h=>?_⟩;rw[yZ1 h1,zS0 h1];exact⟨h.1,fun _=>h.2⟩
   ·cases h2)
 rw[←jR (nk:=B.nck) (lg:=B.long),List.length_nil,yZ0] at cR;obtain⟨b,hb⟩:∃b,seqOk (IF f) [67]=b:=⟨_,rfl⟩;rw[hb] at cR ⊢;have B0:=Lib.hid b0;have hmm:(Instr.makeMap 205 none).run Tryz.prog w = .ok (.map (some H)) (w.alloc (.map #[] 0)):=by rw[←hH];kernel_rfl
 have HH:=Lib.hid hH;have HW:=Lib.hid hW0;clear hv hs hI b0 st0 hs0 hb hH hW0
 go_enter Tryz.func163,Tryz.ntmps163
 go_wp2_with fail;rw[HW.out];refine cR.mono ?_;rintro e w1 ⟨rfl,g1⟩;go_wp2_with fail
 go_ret
 exact qI rfl (B0.out.grown g1 B0.out.size fun g hg=>by injection hg with hg;rw[←hg,HH.out];exact Nat.le_refl _)
end Go.Proofs.YtbpijnalmakfaaaGreatDoor
namespace Go.Proofs.YtbpijnalmakfaaaGreatDoor
open Go.RowKit
theorem zNc {w:World} {H:Nat} {ty:TypeId} (cs:List Int) (hg:w.heap[H]? = some (.cells ((fnsC cs).map fnV).toArray ty (0,0))):Rds w (.slice (some ⟨H,0,none⟩) cs.length cs.length) ((fnsC cs).map fnV):=by
 refine .inr ⟨H,0,cs.length,by rw[List.length_map,wP],qC hg,fun j u hj=>?_⟩;rw[Nat.zero_add,cell_of_row w H j _ _ _ hg,List.getElem?_toArray];exact hj
end Go.Proofs.YtbpijnalmakfaaaGreatDoor
