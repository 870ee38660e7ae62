/-
  Layer 6, the program's cons: one constructor (written by gpj.py).
-/
import Derived.Test.YtgeghilbikljcaaGreatDoorGj11
set_option maxHeartbeats 40000000
set_option maxRecDepth 100000
namespace Go.Proofs.YtgeghilbikljcaaGreatDoor
open Go.RowKit Go.Maps
def yG:Fr->List ByteArray
 | .nil=>[]
 | .cons x _ r=>x.a::yG r
theorem lD:∀(f:Fr) (t:Tr),yG (f.app (fr1 t))=yG f++[t.1.a]
 | .nil,t=>rfl
 | .cons x k r,t=>by show x.a::yG (r.app (fr1 t))=x.a::(yG r++[t.1.a]);rw[lD r t]
theorem lE:∀(f:Fr),(yG f).length=f.len
 | .nil=>rfl
 | .cons x k r=>by show(yG r).length+1=r.len+1;rw[lE r]
theorem lF:∀(f:Fr) (s:ByteArray),hasN f s=true↔s∈yG f
 | .nil,s=>by constructor<;>(intro h;cases h)
 | .cons x k r,s=>by
  show(decide (x.a=s)||hasN r s)=true↔s∈x.a::yG r
  rw[Bool.or_eq_true,List.mem_cons,lF r s,decide_eq_true_iff]
  constructor
  ·rintro(h | h)
   ·exact .inl h.symm
   ·exact .inr h
  ·rintro(h | h)
   ·exact .inl h.symm
   ·exact .inr h
theorem zSv (f:Fr) (s:ByteArray):hasC (yG f) s=hasN f s:=by
 cases h:hasN f s with
 | true=>exact(zW3 _ _).2 ((lF f s).1 h)
 | false=>
  cases h2:hasC (yG f) s with
  | false=>rfl
  | true=>rw[(lF f s).2 ((zW3 _ _).1 h2)] at h;cases h
theorem StC.gs {S:Nat->Prop} {w w':World} {pb mb:Nat} {l:List ByteArray} (h:StC w pb mb l) (g:Gs S w w') (h1:¬S pb) (h2:¬S mb):StC w' pb mb l:=by
 obtain⟨a,b,es,clock,c,d⟩:=h;exact⟨g.row a h1,b,es,clock,g.row c h2,d⟩
def conR (s:ByteArray) (RA:Rs Tr):Rs Tr:=match RA with
 | .inr e=>.inr e
 | .inl (t,j)=>.inl (nd 8 s (fr1 t),j)
def coI (l:List Tk) (o:Option ByteArray) (i:Nat) (e:Int):Nat:=neI (nmI o i e) (tkB l (nmI o i e) (nmE o e) kOf)
def coE (l:List Tk) (o:Option ByteArray) (i:Nat) (e:Int):Int:=neE (nmE o e) (tkB l (nmI o i e) (nmE o e) kOf)
theorem lG {w w2:World} {g Bc:Nat} {s:ByteArray} {t:Tr} {A:Option Addr} (hs:w2.heap[Bc]? = some (.cells #[.int .i64 8,.int .i64 0,.string s,.string ⟨#[]⟩,.slice (some ⟨g,0,none⟩) 1 1] 44 (0,0))) (hg:w2.heap[g]? = some (.cells #[.pointer A] 24 (0,0)))
  (h1:w.heap.size<=Bc) (h2:w.heap.size<=g) (ht:NewT w w2 (.pointer A) t):NewT w w2 (.pointer (some ⟨Bc,0,none⟩)) (nd 8 s (fr1 t)):=by
 exact yV (x:=⟨8,0,s,nob⟩) (f:=fr1 t) hs rfl (Nat.le_refl _) ⟨h1,qC hs⟩ ⟨h2,qC hg⟩ ⟨⟨_,cell_of_row w2 g 0 _ _ _ hg,ht⟩,trivial⟩
theorem zYc (o:Option ByteArray) (i:Nat) (e:Int):nmI o i e<=i+1:=by
 unfold nmI
 split
 ·cases o<;>simp
 ·omega
section
variable {nk lg:ByteArray->Bool}
theorem oZ {V0:World} {l:List Tk} (b:Nat) (v:Value) (i:Nat) (e:Int) (B1 pb mb:Nat) (names:List ByteArray) (w:World) (T:Toks nk lg V0 v l) (h:Psr w b v i e) (hu:Up V0 w) (hbW:V0.heap.size<=b) (hmW:V0.heap.size<=mb) (hi:i<=500000) (hN:names.length<=200000)
  (hB1:w.heap[B1]? = some (.cells #[.pointer (some ⟨b,0,none⟩)] 129 (0,0))) (hst:StC w pb mb names) (n1:B1≠b) (n2:B1≠mb) (n3:pb≠b) (n4:mb≠b) (hL:Calls Tryz.prog 116 #[.pointer (some ⟨b,0,none⟩),.func (.func 75) #[] #[]] w (AnP (.string (nob)) false w)) (hN:∀w',Up V0 w'->Psr w' b v i e->Calls Tryz.prog 44 #[.pointer (some ⟨b,0,none⟩),.func (.func 75) #[] #[]] w' (NmP b v (nmS none e) (nmI none i e) (nmE none e) w')) (hos:(nob).size<=2000000000) (htw:True)
  (RA:Rs Tr) (cA:∀w',Gs (Two b mb) w w'->Psr w' b v (coI l none i e) (coE l none i e)->Calls Tryz.prog 124 #[.agg #[.pointer (some ⟨b,0,none⟩)]] w' (PaT (On b) b v RA (fun _ _=>True) w')) :
  Calls Tryz.prog 192 #[.pointer (some ⟨B1,0,none⟩),.pointer (some ⟨pb,0,none⟩)] w (PaT (Two b mb) b v (conR (nmS none e) RA) (fun _ w'=>StC w' pb mb (names++[nob])) w):=by
 obtain⟨d0,d1,d2,f1,f2⟩:=h.cells;have hb:b<w.heap.size:=qC h;have hb1w:=qC hB1;have hpbw:=qC hst.1;have hmbw:mb<w.heap.size:=by obtain⟨es,clock,c,d⟩:=hst.2.2;exact qC c
 have cB1:w.cell? ⟨B1,0,none⟩=some (.pointer (some ⟨b,0,none⟩)):=cell_of_row w B1 0 _ _ _ hB1;have H:=Lib.hid h;have HU:=Lib.hid hu;have HT:=Lib.hid T;have HST:=Lib.hid hst;have HB1:=Lib.hid hB1;have HCA:=Lib.hid cA;have HNN:=Lib.hid hN;have HTW:=Lib.hid htw;clear h hu T hst hB1 cA d0 d1 d2 f1 f2 hN htw
 go_enter Tryz.func192,Tryz.ntmps192
 go_wp2_with fail;refine hL.mono ?_;rintro en w9 ⟨rfl,u9⟩;have kp:w9.cell? ⟨pb,0,none⟩=some (.map (some mb)):=cell_of_row w9 pb 0 _ _ _ ((HST.out.below u9).1);obtain⟨tw,hteq⟩:∃tw,hasC names (nob)=tw:=⟨_,rfl⟩;have hl9:(Instr.lookup 148 (.map (some mb)) (.string (nob)) true).run Tryz.prog w9 = .ok (.tuple #[.agg #[],.bool tw]) w9:=by rw[<- hteq];exact lookC (HST.out.below u9).2.2 hos
 obtain⟨W2,hW2⟩:∃W2,w9.alloc (.cells #[] 149)=W2:=⟨_,rfl⟩;have u2:Up w W2:=by rw[<- hW2];exact u9.alloc _
 have U2:=Lib.hid u2;have HW2:=Lib.hid hW2;have HTE:=Lib.hid hteq;have hz9:=u9.size;have hpb9:pb<w9.heap.size:=by omega
 have hb19:B1<w9.heap.size:=by omega
 have k19:w9.cell? ⟨B1,0,none⟩=some (.pointer (some ⟨b,0,none⟩)):=cell_of_row w9 B1 0 _ _ _ (u9.row HB1.out);clear u9 cB1 hL hW2 u2 hteq;have g4:Gs (Two b mb) w W2:=Gs.of U2.out;have p4:Psr W2 b v i e:=H.out.up U2.out;have st4:StC W2 pb mb names:=HST.out.below U2.out;obtain⟨w4,hw4⟩:∃w4,W2=w4:=⟨_,rfl⟩;rw[hw4] at g4 p4 st4;have hz4:=g4.size;have r14:w4.heap[B1]? = some (.cells #[.pointer (some ⟨b,0,none⟩)] 129 (0,0)):=g4.row HB1.out (by rintro(h | h);exact n1 h;exact n2 h);obtain⟨w5,hup,hown,hg5⟩:=zYb (w:=w4) (s:=nob) st4.2.2 hos (by omega);have st5:StC w5 pb mb (names++[nob]):=⟨yI hg5 st4.1 st4.2.1,st4.2.1,hown⟩;have g5:Gs (Two b mb) w w5:=g4.grown hg5 fun g e=>.inl (.inr (by injection e with e;exact e.symm))
 have p5:Psr w5 b v i e:=yI hg5 p4 (fun e=>n4 e.symm);have r15:=yI hg5 r14 n2;have kp4:w4.cell? ⟨pb,0,none⟩=some (.map (some mb)):=cell_of_row w4 pb 0 _ _ _ st4.1;have k15:w5.cell? ⟨B1,0,none⟩=some (.pointer (some ⟨b,0,none⟩)):=cell_of_row w5 B1 0 _ _ _ r15;have hsW:∀q,Two b mb q->V0.heap.size<=q:=fun q hq=>by rcases hq with hq | hq<;>omega
 have u5:Up V0 w5:=g5.up HU.out hsW;have cN:=HNN.out w5 u5 p5;have ST5:=Lib.hid st5;have G5:=Lib.hid g5;have R15:=Lib.hid r15;have HSW:=Lib.hid hsW;clear st4 g4 p4 r14 hown hg5 st5 g5 p5 r15 u5 hsW;rw[<- hw4,<- HW2.out] at hup kp4;go_wp2_with fail;refine cN.mono ?_;rintro en w6 ⟨rfl,g6,p6⟩;have g66:Gs (Two b mb) w w6:=G5.out.trans g6.two;have u6:Up V0 w6:=g66.up HU.out HSW.out;have r16:=g6.row R15.out (by intro h;exact n1 h);have st6:=ST5.out.gs g6 (by intro h;exact n3 h) (by intro h;exact n4 h);obtain⟨s,hs⟩:∃s,nmS none e=s:=⟨_,rfl⟩;have HS:=Lib.hid hs;rw[hs];obtain⟨W7,hW7⟩:∃W7,w6.alloc (.cells #[.int .i64 8,.int .i64 0,.string s,.string ⟨#[]⟩,.slice none 0 0] 44)=W7:=⟨_,rfl⟩;have u7:Up w6 W7:=by rw[<- hW7];exact(Up.refl w6).alloc _
 have nb7:W7.heap[w6.heap.size]? = some (.cells #[.int .i64 8,.int .i64 0,.string s,.string ⟨#[]⟩,.slice none 0 0] 44 (0,0)):=by rw[<- hW7];exact heap_alloc_new w6 _
 have k16:w6.cell? ⟨B1,0,none⟩=some (.pointer (some ⟨b,0,none⟩)):=cell_of_row w6 B1 0 _ _ _ r16;have hb16:=qC r16;have cF:=zN b v (nmI none i e) (nmE none e) kOf W7 HT.out (p6.up u7) (u6.trans u7) (by have:=zYc none i e;omega);have G7:=Lib.hid (g66.trans (Gs.of u7));have R17:=Lib.hid (u7.row r16);have ST7:=Lib.hid (st6.below u7);have NB7:=Lib.hid nb7;have HW7:=Lib.hid hW7;have hz6:=g66.size;clear hs g6 p6 g66 u6 r16 st6 u7 nb7 hW7 k15 cN;go_wp2_with fail;rw[HW7.out];refine cF.mono ?_;rintro en w8 ⟨⟨u,rfl⟩,g8,p8⟩;have g88:Gs (Two b mb) w w8:=G7.out.trans g8.two;have r18:=g8.row R17.out (by intro h;exact n1 h);have st8:=ST7.out.gs g8 (by intro h;exact n3 h) (by intro h;exact n4 h);have nb8:=g8.row NB7.out (by unfold On;omega);have k18:w8.cell? ⟨B1,0,none⟩=some (.pointer (some ⟨b,0,none⟩)):=cell_of_row w8 B1 0 _ _ _ r18;have cArr:=HCA.out w8 g88 p8;have hz8:=g88.size;have hc8:=qC nb8;have G8:=Lib.hid g88;have ST8:=Lib.hid st8;have NB8:=Lib.hid nb8;clear g8 g88 r18 st8 nb8 p8 cF k16;go_wp2_with fail;refine cArr.mono ?_;rintro en wA ⟨A,rfl,gA,hRA⟩;have gAA:Gs (Two b mb) w wA:=G8.out.trans gA.two;have nbA:=gA.row NB8.out (by unfold On;omega);have stA:=ST8.out.gs gA (by intro h;exact n3 h) (by intro h;exact n4 h);have c4:wA.cell? ⟨w6.heap.size,4,none⟩=some (.slice none 0 0):=cell_of_row wA _ 4 _ _ _ nbA;have f4:=frozen_of_row wA w6.heap.size 4 _ _ nbA
 have hcA:=qC nbA;have hzA:=gA.size;have GA:=Lib.hid gAA;have STA:=Lib.hid stA;have NBA:=Lib.hid nbA;have HRA:=Lib.hid hRA;clear gA gAA nbA stA hRA cArr;go_wp2_with fail
 go_ret
 rw[HS.out];have g10:Gs (On w6.heap.size) wA ((wA.setCell ⟨w6.heap.size,4,none⟩ (.slice (some ⟨wA.heap.size,0,none⟩) 1 1)).alloc (.cells #[.pointer A] 24)):=((Gs.refl (On w6.heap.size) wA).set ⟨w6.heap.size,4,none⟩ _ (.inl rfl)).alloc _;obtain⟨Ws,hWs⟩:∃Ws,wA.setCell ⟨w6.heap.size,4,none⟩ (.slice (some ⟨wA.heap.size,0,none⟩) 1 1)=Ws:=⟨_,rfl⟩;have zs:Ws.heap.size=wA.heap.size:=by rw[<- hWs];simp[World.setCell]
 have ns:Ws.heap[w6.heap.size]? = some (.cells #[.int .i64 8,.int .i64 0,.string s,.string ⟨#[]⟩,.slice (some ⟨wA.heap.size,0,none⟩) 1 1] 44 (0,0)):=by rw[<- hWs];exact Nb.store (x:=⟨8,0,s,nob⟩) NBA.out _
 rw[hWs] at g10 ⊢;obtain⟨WF,hWF⟩:∃WF,Ws.alloc (.cells #[.pointer A] 24)=WF:=⟨_,rfl⟩;have uF:Up Ws WF:=by rw[<- hWF];exact(Up.refl _).alloc _
 have gN:WF.heap[wA.heap.size]? = some (.cells #[.pointer A] 24 (0,0)):=by rw[<- hWF,<- zs];exact heap_alloc_new Ws _
 rw[hWF] at g10 ⊢;have gF:Gs (Two b mb) w WF:=⟨g10.os.trans GA.out.os,g10.tape.trans GA.out.tape,g10.output.trans GA.out.output,Nat.le_trans GA.out.size g10.size,fun k hk hn=>(g10.block k (Nat.lt_of_lt_of_le hk GA.out.size) (by unfold On;omega)).trans (GA.out.block k hk hn)⟩;have hra:=HRA.out;refine⟨_,rfl,gF,?_⟩
 cases RA with
 | inr e2=>
  obtain⟨p,r⟩:=e2;exact g10.row hra (by unfold On;omega)
 | inl e2=>
  obtain⟨t,j⟩:=e2;obtain⟨ht,hp,-⟩:=hra;refine⟨?_,g10.row hp (by unfold On;omega),STA.out.gs g10 (by unfold On;omega) (by unfold On;omega)⟩;refine lG (uF.row ns) gN hz6 (by omega) (InT.keep ht (fun q hq=>⟨?_,?_⟩) fun q hq=>?_)
  ·have:=hq.1;omega
  ·have:=hq.2;have:=g10.size;omega
  ·have h1:=hq.1
   exact g10.block q hq.2 (by unfold On;omega)
theorem zW5 {V0:World} {l:List Tk} (b:Nat) (v:Value) (i:Nat) (e:Int) (B1 pb mb:Nat) (names:List ByteArray) (w:World) (T:Toks nk lg V0 v l) (h:Psr w b v i e) (hu:Up V0 w) (hbW:V0.heap.size<=b) (hmW:V0.heap.size<=mb) (hi:i<=500000) (hN:names.length<=200000)
  (hB1:w.heap[B1]? = some (.cells #[.pointer (some ⟨b,0,none⟩)] 129 (0,0))) (hst:StC w pb mb names) (n1:B1≠b) (n2:B1≠mb) (n3:pb≠b) (n4:mb≠b) (s0:ByteArray) (hL:Calls Tryz.prog 116 #[.pointer (some ⟨b,0,none⟩),.func (.func 75) #[] #[]] w (AnP (.string (s0)) true w)) (hN:∀w',Up V0 w'->Psr w' b v i e->Calls Tryz.prog 44 #[.pointer (some ⟨b,0,none⟩),.func (.func 75) #[] #[]] w' (NmP b v (nmS (some s0) e) (nmI (some s0) i e) (nmE (some s0) e) w')) (hos:(s0).size<=2000000000) (htw:hasC names s0=false)
  (RA:Rs Tr) (cA:∀w',Gs (Two b mb) w w'->Psr w' b v (coI l (some s0) i e) (coE l (some s0) i e)->Calls Tryz.prog 124 #[.agg #[.pointer (some ⟨b,0,none⟩)]] w' (PaT (On b) b v RA (fun _ _=>True) w')) :
  Calls Tryz.prog 192 #[.pointer (some ⟨B1,0,none⟩),.pointer (some ⟨pb,0,none⟩)] w (PaT (Two b mb) b v (conR (nmS (some s0) e) RA) (fun _ w'=>StC w' pb mb (names++[s0])) w):=by
 obtain⟨d0,d1,d2,f1,f2⟩:=h.cells;have hb:b<w.heap.size:=qC h;have hb1w:=qC hB1;have hpbw:=qC hst.1;have hmbw:mb<w.heap.size:=by obtain⟨es,clock,c,d⟩:=hst.2.2;exact qC c
 have cB1:w.cell? ⟨B1,0,none⟩=some (.pointer (some ⟨b,0,none⟩)):=cell_of_row w B1 0 _ _ _ hB1;have H:=Lib.hid h;have HU:=Lib.hid hu;have HT:=Lib.hid T;have HST:=Lib.hid hst;have HB1:=Lib.hid hB1;have HCA:=Lib.hid cA;have HNN:=Lib.hid hN;have HTW:=Lib.hid htw;clear h hu T hst hB1 cA d0 d1 d2 f1 f2 hN htw
 go_enter Tryz.func192,Tryz.ntmps192
 go_wp2_with fail;refine hL.mono ?_;rintro en w9 ⟨rfl,u9⟩;have kp:w9.cell? ⟨pb,0,none⟩=some (.map (some mb)):=cell_of_row w9 pb 0 _ _ _ ((HST.out.below u9).1);obtain⟨tw,hteq⟩:∃tw,hasC names (s0)=tw:=⟨_,rfl⟩;have hl9:(Instr.lookup 148 (.map (some mb)) (.string (s0)) true).run Tryz.prog w9 = .ok (.tuple #[.agg #[],.bool tw]) w9:=by rw[<- hteq];exact lookC (HST.out.below u9).2.2 hos
 obtain⟨W2,hW2⟩:∃W2,w9.alloc (.cells #[] 149)=W2:=⟨_,rfl⟩;have u2:Up w W2:=by rw[<- hW2];exact u9.alloc _
 have U2:=Lib.hid u2;have HW2:=Lib.hid hW2;have HTE:=Lib.hid hteq;have hz9:=u9.size;have hpb9:pb<w9.heap.size:=by omega
 have hb19:B1<w9.heap.size:=by omega
 have k19:w9.cell? ⟨B1,0,none⟩=some (.pointer (some ⟨b,0,none⟩)):=cell_of_row w9 B1 0 _ _ _ (u9.row HB1.out);clear u9 cB1 hL hW2 u2 hteq;have HTT:=HTE.out;rw[HTW.out] at HTT;subst HTT;have g4:Gs (Two b mb) w W2:=Gs.of U2.out;have p4:Psr W2 b v i e:=H.out.up U2.out;have st4:StC W2 pb mb names:=HST.out.below U2.out;obtain⟨w4,hw4⟩:∃w4,W2=w4:=⟨_,rfl⟩;rw[hw4] at g4 p4 st4;have hz4:=g4.size;have r14:w4.heap[B1]? = some (.cells #[.pointer (some ⟨b,0,none⟩)] 129 (0,0)):=g4.row HB1.out (by rintro(h | h);exact n1 h;exact n2 h);obtain⟨w5,hup,hown,hg5⟩:=zYb (w:=w4) (s:=s0) st4.2.2 hos (by omega);have st5:StC w5 pb mb (names++[s0]):=⟨yI hg5 st4.1 st4.2.1,st4.2.1,hown⟩;have g5:Gs (Two b mb) w w5:=g4.grown hg5 fun g e=>.inl (.inr (by injection e with e;exact e.symm))
 have p5:Psr w5 b v i e:=yI hg5 p4 (fun e=>n4 e.symm);have r15:=yI hg5 r14 n2;have kp4:w4.cell? ⟨pb,0,none⟩=some (.map (some mb)):=cell_of_row w4 pb 0 _ _ _ st4.1;have k15:w5.cell? ⟨B1,0,none⟩=some (.pointer (some ⟨b,0,none⟩)):=cell_of_row w5 B1 0 _ _ _ r15;have hsW:∀q,Two b mb q->V0.heap.size<=q:=fun q hq=>by rcases hq with hq | hq<;>omega
 have u5:Up V0 w5:=g5.up HU.out hsW;have cN:=HNN.out w5 u5 p5;have ST5:=Lib.hid st5;have G5:=Lib.hid g5;have R15:=Lib.hid r15;have HSW:=Lib.hid hsW;clear st4 g4 p4 r14 hown hg5 st5 g5 p5 r15 u5 hsW;rw[<- hw4,<- HW2.out] at hup kp4;go_wp2_with fail;refine cN.mono ?_;rintro en w6 ⟨rfl,g6,p6⟩;have g66:Gs (Two b mb) w w6:=G5.out.trans g6.two;have u6:Up V0 w6:=g66.up HU.out HSW.out;have r16:=g6.row R15.out (by intro h;exact n1 h);have st6:=ST5.out.gs g6 (by intro h;exact n3 h) (by intro h;exact n4 h);obtain⟨s,hs⟩:∃s,nmS (some s0) e=s:=⟨_,rfl⟩;have HS:=Lib.hid hs;rw[hs];obtain⟨W7,hW7⟩:∃W7,w6.alloc (.cells #[.int .i64 8,.int .i64 0,.string s,.string ⟨#[]⟩,.slice none 0 0] 44)=W7:=⟨_,rfl⟩;have u7:Up w6 W7:=by rw[<- hW7];exact(Up.refl w6).alloc _
 have nb7:W7.heap[w6.heap.size]? = some (.cells #[.int .i64 8,.int .i64 0,.string s,.string ⟨#[]⟩,.slice none 0 0] 44 (0,0)):=by rw[<- hW7];exact heap_alloc_new w6 _
 have k16:w6.cell? ⟨B1,0,none⟩=some (.pointer (some ⟨b,0,none⟩)):=cell_of_row w6 B1 0 _ _ _ r16;have hb16:=qC r16;have cF:=zN b v (nmI (some s0) i e) (nmE (some s0) e) kOf W7 HT.out (p6.up u7) (u6.trans u7) (by have:=zYc (some s0) i e;omega);have G7:=Lib.hid (g66.trans (Gs.of u7));have R17:=Lib.hid (u7.row r16);have ST7:=Lib.hid (st6.below u7);have NB7:=Lib.hid nb7;have HW7:=Lib.hid hW7;have hz6:=g66.size;clear hs g6 p6 g66 u6 r16 st6 u7 nb7 hW7 k15 cN;go_wp2_with fail;rw[HW7.out];refine cF.mono ?_;rintro en w8 ⟨⟨u,rfl⟩,g8,p8⟩;have g88:Gs (Two b mb) w w8:=G7.out.trans g8.two;have r18:=g8.row R17.out (by intro h;exact n1 h);have st8:=ST7.out.gs g8 (by intro h;exact n3 h) (by intro h;exact n4 h);have nb8:=g8.row NB7.out (by unfold On;omega);have k18:w8.cell? ⟨B1,0,none⟩=some (.pointer (some ⟨b,0,none⟩)):=cell_of_row w8 B1 0 _ _ _ r18;have cArr:=HCA.out w8 g88 p8;have hz8:=g88.size;have hc8:=qC nb8;have G8:=Lib.hid g88;have ST8:=Lib.hid st8;have NB8:=Lib.hid nb8;clear g8 g88 r18 st8 nb8 p8 cF k16;go_wp2_with fail;refine cArr.mono ?_;rintro en wA ⟨A,rfl,gA,hRA⟩;have gAA:Gs (Two b mb) w wA:=G8.out.trans gA.two;have nbA:=gA.row NB8.out (by unfold On;omega);have stA:=ST8.out.gs gA (by intro h;exact n3 h) (by intro h;exact n4 h);have c4:wA.cell? ⟨w6.heap.size,4,none⟩=some (.slice none 0 0):=cell_of_row wA _ 4 _ _ _ nbA
 have f4:=frozen_of_row wA w6.heap.size 4 _ _ nbA;have hcA:=qC nbA;have hzA:=gA.size;have GA:=Lib.hid gAA;have STA:=Lib.hid stA;have NBA:=Lib.hid nbA;have HRA:=Lib.hid hRA;clear gA gAA nbA stA hRA cArr;go_wp2_with fail
 go_ret
 rw[HS.out];have g10:Gs (On w6.heap.size) wA ((wA.setCell ⟨w6.heap.size,4,none⟩ (.slice (some ⟨wA.heap.size,0,none⟩) 1 1)).alloc (.cells #[.pointer A] 24)):=((Gs.refl (On w6.heap.size) wA).set ⟨w6.heap.size,4,none⟩ _ (.inl rfl)).alloc _;obtain⟨Ws,hWs⟩:∃Ws,wA.setCell ⟨w6.heap.size,4,none⟩ (.slice (some ⟨wA.heap.size,0,none⟩) 1 1)=Ws:=⟨_,rfl⟩;have zs:Ws.heap.size=wA.heap.size:=by rw[<- hWs];simp[World.setCell]
 have ns:Ws.heap[w6.heap.size]? = some (.cells #[.int .i64 8,.int .i64 0,.string s,.string ⟨#[]⟩,.slice (some ⟨wA.heap.size,0,none⟩) 1 1] 44 (0,0)):=by rw[<- hWs];exact Nb.store (x:=⟨8,0,s,nob⟩) NBA.out _
 rw[hWs] at g10 ⊢;obtain⟨WF,hWF⟩:∃WF,Ws.alloc (.cells #[.pointer A] 24)=WF:=⟨_,rfl⟩;have uF:Up Ws WF:=by rw[<- hWF];exact(Up.refl _).alloc _
 have gN:WF.heap[wA.heap.size]? = some (.cells #[.pointer A] 24 (0,0)):=by rw[<- hWF,<- zs];exact heap_alloc_new Ws _
 rw[hWF] at g10 ⊢;have gF:Gs (Two b mb) w WF:=⟨g10.os.trans GA.out.os,g10.tape.trans GA.out.tape,g10.output.trans GA.out.output,Nat.le_trans GA.out.size g10.size,fun k hk hn=>(g10.block k (Nat.lt_of_lt_of_le hk GA.out.size) (by unfold On;omega)).trans (GA.out.block k hk hn)⟩;have hra:=HRA.out;refine⟨_,rfl,gF,?_⟩
 cases RA with
 | inr e2=>
  obtain⟨p,r⟩:=e2;exact g10.row hra (by unfold On;omega)
 | inl e2=>
  obtain⟨t,j⟩:=e2;obtain⟨ht,hp,-⟩:=hra;refine⟨?_,g10.row hp (by unfold On;omega),STA.out.gs g10 (by unfold On;omega) (by unfold On;omega)⟩;refine lG (uF.row ns) gN hz6 (by omega) (InT.keep ht (fun q hq=>⟨?_,?_⟩) fun q hq=>?_)
  ·have:=hq.1;omega
  ·have:=hq.2;have:=g10.size;omega
  ·have h1:=hq.1
   exact g10.block q hq.2 (by unfold On;omega)
theorem zOq {V0:World} {l:List Tk} (b:Nat) (v:Value) (i:Nat) (e:Int) (B1 pb mb:Nat) (names:List ByteArray) (w:World) (T:Toks nk lg V0 v l) (h:Psr w b v i e) (hu:Up V0 w) (hbW:V0.heap.size<=b) (hmW:V0.heap.size<=mb) (hi:i<=500000) (hN:names.length<=200000)
  (hB1:w.heap[B1]? = some (.cells #[.pointer (some ⟨b,0,none⟩)] 129 (0,0))) (hst:StC w pb mb names) (n1:B1≠b) (n2:B1≠mb) (n3:pb≠b) (n4:mb≠b) (s0:ByteArray) (e1:Int) (he1:(if e=0 then 9 else e)=e1) (hL:Calls Tryz.prog 116 #[.pointer (some ⟨b,0,none⟩),.func (.func 75) #[] #[]] w (AnP (.string (s0)) true w)) (hN:∀w',Up V0 w'->Psr w' b v i e1->Calls Tryz.prog 44 #[.pointer (some ⟨b,0,none⟩),.func (.func 75) #[] #[]] w' (NmP b v (nmS (some s0) e1) (nmI (some s0) i e1) (nmE (some s0) e1) w')) (hos:(s0).size<=2000000000) (htw:hasC names s0=true)
  (RA:Rs Tr) (cA:∀w',Gs (Two b mb) w w'->Psr w' b v (coI l (some s0) i e1) (coE l (some s0) i e1)->Calls Tryz.prog 124 #[.agg #[.pointer (some ⟨b,0,none⟩)]] w' (PaT (On b) b v RA (fun _ _=>True) w')) :
  Calls Tryz.prog 192 #[.pointer (some ⟨B1,0,none⟩),.pointer (some ⟨pb,0,none⟩)] w (PaT (Two b mb) b v (conR (nmS (some s0) e1) RA) (fun _ w'=>StC w' pb mb (names++[s0])) w):=by
 obtain⟨d0,d1,d2,f1,f2⟩:=h.cells;have hb:b<w.heap.size:=qC h;have hb1w:=qC hB1;have hpbw:=qC hst.1;have hmbw:mb<w.heap.size:=by obtain⟨es,clock,c,d⟩:=hst.2.2;exact qC c
 have cB1:w.cell? ⟨B1,0,none⟩=some (.pointer (some ⟨b,0,none⟩)):=cell_of_row w B1 0 _ _ _ hB1;have H:=Lib.hid h;have HU:=Lib.hid hu;have HT:=Lib.hid T;have HST:=Lib.hid hst;have HB1:=Lib.hid hB1;have HCA:=Lib.hid cA;have HNN:=Lib.hid hN;have HTW:=Lib.hid htw;clear h hu T hst hB1 cA d0 d1 d2 f1 f2 hN htw
 go_enter Tryz.func192,Tryz.ntmps192
 go_wp2_with fail;refine hL.mono ?_;rintro en w9 ⟨rfl,u9⟩;have kp:w9.cell? ⟨pb,0,none⟩=some (.map (some mb)):=cell_of_row w9 pb 0 _ _ _ ((HST.out.below u9).1);obtain⟨tw,hteq⟩:∃tw,hasC names (s0)=tw:=⟨_,rfl⟩;have hl9:(Instr.lookup 148 (.map (some mb)) (.string (s0)) true).run Tryz.prog w9 = .ok (.tuple #[.agg #[],.bool tw]) w9:=by rw[<- hteq];exact lookC (HST.out.below u9).2.2 hos
 obtain⟨W2,hW2⟩:∃W2,w9.alloc (.cells #[] 149)=W2:=⟨_,rfl⟩;have u2:Up w W2:=by rw[<- hW2];exact u9.alloc _
 have U2:=Lib.hid u2;have HW2:=Lib.hid hW2;have HTE:=Lib.hid hteq;have hz9:=u9.size;have hpb9:pb<w9.heap.size:=by omega
 have hb19:B1<w9.heap.size:=by omega
 have k19:w9.cell? ⟨B1,0,none⟩=some (.pointer (some ⟨b,0,none⟩)):=cell_of_row w9 B1 0 _ _ _ (u9.row HB1.out);clear u9 cB1 hL hW2 u2 hteq;have HTT:=HTE.out;rw[HTW.out] at HTT;subst HTT;have p2:Psr W2 b v i e:=H.out.up U2.out;have k12:(w9.alloc (.cells #[] 149)).cell? ⟨B1,0,none⟩=some (.pointer (some ⟨b,0,none⟩)):=by rw[HW2.out];exact cell_of_row W2 B1 0 _ _ _ (U2.out.row HB1.out)
 have cFl:=vZ b v i e 9 W2 p2;rw[he1] at cFl;clear p2 he1;go_wp2_with fail;rw[HW2.out];refine cFl.mono ?_;rintro en w4 ⟨⟨u,rfl⟩,g42,p4⟩;have g4:Gs (Two b mb) w w4:=(Gs.of U2.out).trans g42.two;have st4:StC w4 pb mb names:=(HST.out.below U2.out).gs g42 (by intro h;exact n3 h) (by intro h;exact n4 h);clear g42 cFl hl9 kp k19 k12;have hz4:=g4.size;have r14:w4.heap[B1]? = some (.cells #[.pointer (some ⟨b,0,none⟩)] 129 (0,0)):=g4.row HB1.out (by rintro(h | h);exact n1 h;exact n2 h);obtain⟨w5,hup,hown,hg5⟩:=zYb (w:=w4) (s:=s0) st4.2.2 hos (by omega);have st5:StC w5 pb mb (names++[s0]):=⟨yI hg5 st4.1 st4.2.1,st4.2.1,hown⟩;have g5:Gs (Two b mb) w w5:=g4.grown hg5 fun g e=>.inl (.inr (by injection e with e;exact e.symm))
 have p5:Psr w5 b v i e1:=yI hg5 p4 (fun e=>n4 e.symm);have r15:=yI hg5 r14 n2;have kp4:w4.cell? ⟨pb,0,none⟩=some (.map (some mb)):=cell_of_row w4 pb 0 _ _ _ st4.1;have k15:w5.cell? ⟨B1,0,none⟩=some (.pointer (some ⟨b,0,none⟩)):=cell_of_row w5 B1 0 _ _ _ r15;have hsW:∀q,Two b mb q->V0.heap.size<=q:=fun q hq=>by rcases hq with hq | hq<;>omega
 have u5:Up V0 w5:=g5.up HU.out hsW;have cN:=HNN.out w5 u5 p5;have ST5:=Lib.hid st5;have G5:=Lib.hid g5;have R15:=Lib.hid r15;have HSW:=Lib.hid hsW;clear st4 g4 p4 r14 hown hg5 st5 g5 p5 r15 u5 hsW;go_wp2_with fail;refine cN.mono ?_;rintro en w6 ⟨rfl,g6,p6⟩;have g66:Gs (Two b mb) w w6:=G5.out.trans g6.two;have u6:Up V0 w6:=g66.up HU.out HSW.out;have r16:=g6.row R15.out (by intro h;exact n1 h);have st6:=ST5.out.gs g6 (by intro h;exact n3 h) (by intro h;exact n4 h);obtain⟨s,hs⟩:∃s,nmS (some s0) e1=s:=⟨_,rfl⟩;have HS:=Lib.hid hs;rw[hs];obtain⟨W7,hW7⟩:∃W7,w6.alloc (.cells #[.int .i64 8,.int .i64 0,.string s,.string ⟨#[]⟩,.slice none 0 0] 44)=W7:=⟨_,rfl⟩;have u7:Up w6 W7:=by rw[<- hW7];exact(Up.refl w6).alloc _
 have nb7:W7.heap[w6.heap.size]? = some (.cells #[.int .i64 8,.int .i64 0,.string s,.string ⟨#[]⟩,.slice none 0 0] 44 (0,0)):=by rw[<- hW7];exact heap_alloc_new w6 _
 have k16:w6.cell? ⟨B1,0,none⟩=some (.pointer (some ⟨b,0,none⟩)):=cell_of_row w6 B1 0 _ _ _ r16;have hb16:=qC r16;have cF:=zN b v (nmI (some s0) i e1) (nmE (some s0) e1) kOf W7 HT.out (p6.up u7) (u6.trans u7) (by have:=zYc (some s0) i e1;omega);have G7:=Lib.hid (g66.trans (Gs.of u7));have R17:=Lib.hid (u7.row r16);have ST7:=Lib.hid (st6.below u7);have NB7:=Lib.hid nb7;have HW7:=Lib.hid hW7;have hz6:=g66.size;clear hs g6 p6 g66 u6 r16 st6 u7 nb7 hW7 k15 cN;go_wp2_with fail;rw[HW7.out];refine cF.mono ?_;rintro en w8 ⟨⟨u,rfl⟩,g8,p8⟩;have g88:Gs (Two b mb) w w8:=G7.out.trans g8.two;have r18:=g8.row R17.out (by intro h;exact n1 h);have st8:=ST7.out.gs g8 (by intro h;exact n3 h) (by intro h;exact n4 h);have nb8:=g8.row NB7.out (by unfold On;omega);have k18:w8.cell? ⟨B1,0,none⟩=some (.pointer (some ⟨b,0,none⟩)):=cell_of_row w8 B1 0 _ _ _ r18;have cArr:=HCA.out w8 g88 p8;have hz8:=g88.size;have hc8:=qC nb8;have G8:=Lib.hid g88;have ST8:=Lib.hid st8;have NB8:=Lib.hid nb8;clear g8 g88 r18 st8 nb8 p8 cF k16;go_wp2_with fail;refine cArr.mono ?_;rintro en wA ⟨A,rfl,gA,hRA⟩;have gAA:Gs (Two b mb) w wA:=G8.out.trans gA.two;have nbA:=gA.row NB8.out (by unfold On;omega);have stA:=ST8.out.gs gA (by intro h;exact n3 h) (by intro h;exact n4 h);have c4:wA.cell? ⟨w6.heap.size,4,none⟩=some (.slice none 0 0):=cell_of_row wA _ 4 _ _ _ nbA
 have f4:=frozen_of_row wA w6.heap.size 4 _ _ nbA;have hcA:=qC nbA;have hzA:=gA.size;have GA:=Lib.hid gAA;have STA:=Lib.hid stA;have NBA:=Lib.hid nbA;have HRA:=Lib.hid hRA;clear gA gAA nbA stA hRA cArr;go_wp2_with fail
 go_ret
 rw[HS.out];have g10:Gs (On w6.heap.size) wA ((wA.setCell ⟨w6.heap.size,4,none⟩ (.slice (some ⟨wA.heap.size,0,none⟩) 1 1)).alloc (.cells #[.pointer A] 24)):=((Gs.refl (On w6.heap.size) wA).set ⟨w6.heap.size,4,none⟩ _ (.inl rfl)).alloc _;obtain⟨Ws,hWs⟩:∃Ws,wA.setCell ⟨w6.heap.size,4,none⟩ (.slice (some ⟨wA.heap.size,0,none⟩) 1 1)=Ws:=⟨_,rfl⟩;have zs:Ws.heap.size=wA.heap.size:=by rw[<- hWs];simp[World.setCell]
 have ns:Ws.heap[w6.heap.size]? = some (.cells #[.int .i64 8,.int .i64 0,.string s,.string ⟨#[]⟩,.slice (some ⟨wA.heap.size,0,none⟩) 1 1] 44 (0,0)):=by rw[<- hWs];exact Nb.store (x:=⟨8,0,s,nob⟩) NBA.out _
 rw[hWs] at g10 ⊢;obtain⟨WF,hWF⟩:∃WF,Ws.alloc (.cells #[.pointer A] 24)=WF:=⟨_,rfl⟩;have uF:Up Ws WF:=by rw[<- hWF];exact(Up.refl _).alloc _
 have gN:WF.heap[wA.heap.size]? = some (.cells #[.pointer A] 24 (0,0)):=by rw[<- hWF,<- zs];exact heap_alloc_new Ws _
 rw[hWF] at g10 ⊢;have gF:Gs (Two b mb) w WF:=⟨g10.os.trans GA.out.os,g10.tape.trans GA.out.tape,g10.output.trans GA.out.output,Nat.le_trans GA.out.size g10.size,fun k hk hn=>(g10.block k (Nat.lt_of_lt_of_le hk GA.out.size) (by unfold On;omega)).trans (GA.out.block k hk hn)⟩;have hra:=HRA.out;refine⟨_,rfl,gF,?_⟩
 cases RA with
 | inr e2=>
  obtain⟨p,r⟩:=e2;exact g10.row hra (by unfold On;omega)
 | inl e2=>
  obtain⟨t,j⟩:=e2;obtain⟨ht,hp,-⟩:=hra;refine⟨?_,g10.row hp (by unfold On;omega),STA.out.gs g10 (by unfold On;omega) (by unfold On;omega)⟩;refine lG (uF.row ns) gN hz6 (by omega) (InT.keep ht (fun q hq=>⟨?_,?_⟩) fun q hq=>?_)
  ·have:=hq.1;omega
  ·have:=hq.2;have:=g10.size;omega
  ·have h1:=hq.1
   exact g10.block q hq.2 (by unfold On;omega)
end
end Go.Proofs.YtgeghilbikljcaaGreatDoor
