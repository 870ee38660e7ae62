/-
  Layer 8, the program: spec (written by gmf.py).
-/
import Derived.Test.YtgeghilbikljcaaGreatDoorGj25
set_option maxHeartbeats 40000000
set_option maxRecDepth 100000
namespace Go.Proofs.YtgeghilbikljcaaGreatDoor
open Go.RowKit
theorem zQ8:EntF 74:=fun _ _=>by kernel_rfl
def someO (X:Rs Tr):Rs (Option Tr):=match X with
 | .inl (t,j)=>.inl (some t,j)
 | .inr x=>.inr x
def PoT (b:Nat) (v:Value) (R:Rs (Option Tr)) (w:World) (en:Ending) (w':World):Prop:=∃A:Option Addr,en = .returned (.pointer A)/\Gs (On b) w w'/\Psr w' b v (rI R) (rE R)/\(∀t j,R = .inl (some t,j)->NewT w w' (.pointer A) t)/\(∀j,R = .inl (none,j)->A=none)
def RoAt (V0:World) (v:Value) (b:Nat) (k:FuncId) (args:Array Value) (R:Nat->Rs (Option Tr)) (s:SS):Prop:=∀w,Up V0 w->Psr w b v s.1 s.2->Calls Tryz.prog k args w fun en w'=>PoT b v (at0 R s) w en w'/\(¬s.2=0->en = .returned (.pointer none))
theorem zX {R:Nat->Rs Tr} (s:SS):at0 (someR R) s=someO (at0 R s):=by
 show(if s.2=0 then thn (R s.1) (fun t m=>.inl (some t,m)) else .inr s)=someO (if s.2=0 then R s.1 else .inr s)
 by_cases h:s.2=0
 ·rw[if_pos h,if_pos h]
  cases R s.1<;>rfl
 ·rw[if_neg h,if_neg h]
  rfl
theorem zKx (X:Rs Tr):rI (someO X)=rI X:=by cases X<;>rfl
theorem zKy (X:Rs Tr):rE (someO X)=rE X:=by cases X<;>rfl
theorem PoT.got {b:Nat} {v:Value} {X:Rs Tr} {w w':World} {A:Option Addr} (g:Gs (On b) w w') (p:Psr w' b v (rI X) (rE X)) (n:∀t j,X = .inl (t,j)->NewT w w' (.pointer A) t):PoT b v (someO X) w (.returned (.pointer A)) w':=by
 refine⟨A,rfl,g,by rw[zKx,zKy];exact p,fun t j h=>?_,fun j h=>?_⟩
 ·cases X with
  | inl r=>injection h with h;injection h with h1 h2;injection h1 with h1;exact n t j (by rw[<- h1,<- h2])
  | inr r=>cases h
 ·cases X with
  | inl r=>injection h with h;injection h with h1 h2;cases h1
  | inr r=>cases h
theorem PoT.gone {b:Nat} {v:Value} {s:SS} {w w':World} (g:Gs (On b) w w') (p:Psr w' b v s.1 s.2):PoT b v (at0 (fun i=>.inl (none,i)) s) w (.returned (.pointer none)) w':=by
 have e:stO (at0 (fun i=>(.inl (none,i):Rs (Option Tr))) s)=s:=by
  unfold at0
  split
  ·rename_i h0
   obtain⟨i,e⟩:=s;have h0:e=0:=h0;subst h0
   rfl
  ·rfl
 refine⟨_,rfl,g,by rw[show rI _=_ from congrArg Prod.fst e,show rE _=_ from congrArg Prod.snd e];exact p,fun t j h=>?_,fun _ _=>rfl⟩;unfold at0 at h
 split at h
 ·injection h with h
  injection h with h1 h2
  cases h1
 ·cases h
theorem vN {l:List Tk} {i:Nat} {e:Int} {x:ByteArray} (h:tkB l i e x=true):e=0:=by
 unfold tkB at h;rw[Bool.and_eq_true] at h;exact of_decide_eq_true h.1
theorem yK {l:List Te} {i:Nat} {e:Int} {x:ByteArray} (hi:i<=l.length) (h:tkB (tks l) i e x=true):i+1<=l.length:=by
 have k:=zI l x (s:=(i,e)) hi;unfold kS at k;simp only at k;rw[h] at k;exact k
theorem zQ9 {β:Type} {l:List Tk} {x:ByteArray} (A B:Nat->Rs β) {i:Nat} {e:Int}:at0 (fun i=>if key l i x=true then A (i+1) else B i) (i,e)=if tkB l i e x=true then at0 A (i+1,e) else at0 B (i,e):=by
 rw[zYk]
 show(if tkB l i e x=true then _ else _)=_
 cases h:tkB l i e x with
 | false=>rfl
 | true=>
  have h0:=vN h;subst h0
  rfl
theorem Nb.mark {w:World} {b:Nat} {x:Nod} {v:Value} (h:Nb w b x v) (s:ByteArray):Nb (w.setCell ⟨b,3,none⟩ (.string s)) b {x with m:=s} v:=by
 unfold Nb at h ⊢
 simp[World.setCell,Array.getElem?_modify,h]
section
variable {V0:World} {v:Value} {l:List Te} {b:Nat}
theorem wV (P:Px9 V0 v l b) (s:SS) (hs:s.1<=l.length) (w:World) (hu:Up V0 w) (h:Psr w b v s.1 s.2):Calls Tryz.prog 44 #[.pointer (some ⟨b,0,none⟩),.func (.func 45) #[] #[]] w (NmP b v (nmS (nam B.long (tks l) s.1) s.2) (nS B.long (tks l) s).1 (nS B.long (tks l) s).2 w):=
 zW2 b v s.1 s.2 _ w (fun w' u=>P.Q.T.long s.1 w' (hu.trans u)) h (by have:=P.Q.hl;omega)
theorem zWn (k:Int) (s:SS):at0 (leafR l B.long k) s=at0 (fun m=>.inl (nd k (nmS (nam B.long (tks l) s.1) s.2) .nil,m)) (nS B.long (tks l) s):=by
 unfold leafR;rw[yJ]
theorem zNl (k:Int) {R:Nat->Rs Tr} (hR:kB l R) (d:Tr) {s:SS} (hs:s.1<=l.length):at0 (wrapR k R) s=at0 (fun m=>.inl (nd k nob (fr1 (valD d (at0 R s))),m)) (stO (at0 R s)):=by
 unfold wrapR;rw[yA (R:=R) (d:=d) fun _=>hR.ne hs]
theorem zQa (s:SS):at0 (lZ B.long l) s=at0 (fun m=>.inl ((⟨65,0,nmS (nam B.long (tks l) (kS (tks l) kType s).1) (kS (tks l) kType s).2,nmS (nam B.long (tks l) (kS (tks l) kEq (nS B.long (tks l) (kS (tks l) kType s))).1) (kS (tks l) kEq (nS B.long (tks l) (kS (tks l) kType s))).2⟩,.nil),m)) (nS B.long (tks l) (kS (tks l) kEq (nS B.long (tks l) (kS (tks l) kType s)))):=by
 unfold lZ;rw[jB,yJ,jB,yJ]
theorem zQb {S:Nat->Rs Tr} {i:Nat} {e:Int}:at0 (specP B.nck B.long l (typL B.nck B.long (tks l)) S (fun j=>consL B.nck B.long (tks l) j .nil)) (i,e)=if tkB (tks l) i e kVal=true then at0 (someR (bindR B.nck l 60 qH (typL B.nck B.long (tks l)))) (i+1,e) else if tkB (tks l) i e kType=true then at0 (someR (nH B.nck l (typL B.nck B.long (tks l)))) (i+1,e) else if tkB (tks l) i e kData=true then at0 (someR (dataR B.nck l 62 (fun j=>consL B.nck B.long (tks l) j .nil))) (i+1,e) else if tkB (tks l) i e qW=true then at0 (someR (bindR B.nck l 63 qH S)) (i+1,e) else if tkB (tks l) i e zP=true then at0 (someR (wrapR 64 S)) (i+1,e) else if tkB (tks l) i e jY=true then at0 (someR (lZ B.long l)) (i+1,e) else at0 (fun i=>.inl (none,i)) (i,e):=by
 by_cases he:e=0
 ·subst he
  simp only[qQ,qG]
  rfl
 ·simp only[zE he,Bool.false_eq_true,if_false]
  rw[qM _ (show ¬(i,e).2=0 from he),qM _ (show ¬(i,e).2=0 from he)]
theorem zQc {M S:Nat->Rs Tr} {m:Nat} {top:Bool} {i:Nat} {e:Int}:at0 (declP B.nck B.long l (typL B.nck B.long (tks l)) (exprF B.nck B.long l m) M S (fun j=>consL B.nck B.long (tks l) j .nil) top) (i,e)=if tkB (tks l) i e kVal=true then at0 (someR (valR B.nck l (typL B.nck B.long (tks l)) (exprF B.nck B.long l m))) (i+1,e) else if tkB (tks l) i e kType=true then at0 (someR (bindR B.nck l 71 kEq (typL B.nck B.long (tks l)))) (i+1,e) else if tkB (tks l) i e kData=true then at0 (someR (dataR B.nck l 72 (fun j=>consL B.nck B.long (tks l) j .nil))) (i+1,e) else if tkB (tks l) i e qW=true then at0 (someR (bindR B.nck l 73 kEq M)) (i+1,e) else if tkB (tks l) i e wD=true then at0 (someR (leafR l B.long 76)) (i+1,e) else if tkB (tks l) i e zP=true then at0 (someR (leafR l B.long 77)) (i+1,e) else if (top&&tkB (tks l) i e yX)=true then at0 (someR (bindR B.nck l 74 kEq S)) (i+1,e) else if (top&&tkB (tks l) i e jF)=true then at0 (someR (nI B.nck l M S)) (i+1,e) else at0 (fun i=>.inl (none,i)) (i,e):=by
 by_cases he:e=0
 ·subst he
  simp only[qQ,qG]
  rfl
 ·simp only[zE he,Bool.and_false,Bool.false_eq_true,if_false]
  rw[qM _ (show ¬(i,e).2=0 from he),qM _ (show ¬(i,e).2=0 from he)]
theorem zNm (P:Px9 V0 v l b) (S:Nat->Rs Tr) (hS:kB l S) (i:Nat) (e:Int) (hi:i<=l.length)
  (HS:Hid (∀s:SS,s.1<=l.length->(s.2=0->e=0/\i<s.1)->FnAt V0 v b 24 #[.agg #[.pointer (some ⟨b,0,none⟩)]] S s)):RoAt V0 v b 74 #[.agg #[.pointer (some ⟨b,0,none⟩)]] (specP B.nck B.long l (typL B.nck B.long (tks l)) S (fun j=>consL B.nck B.long (tks l) j .nil)) (i,e):=fun w hu h=>by
 have hb:b<w.heap.size:=qC h;have hbV:=P.Q.hb;have hll:=P.Q.hl;obtain⟨W0,hW0⟩:∃W0,w.alloc (.cells #[.pointer (some ⟨b,0,none⟩)] 51)=W0:=⟨_,rfl⟩;have u0:Up w W0:=by rw[<- hW0];exact(Up.refl w).alloc _
 have b1:W0.heap[w.heap.size]? = some (.cells #[.pointer (some ⟨b,0,none⟩)] 51 (0,0)):=by rw[<- hW0];exact heap_alloc_new w _
 have hgU:∀w',Gs (On b) W0 w'->Up V0 w':=fun w' g=>g.up (hu.trans u0) fun q hq=>by rw[hq];exact hbV
 have hgB:∀w',Gs (On b) W0 w'->w'.cell? ⟨w.heap.size,0,none⟩=some (.pointer (some ⟨b,0,none⟩)):=fun w' g=>cell_of_row w' w.heap.size 0 _ _ _ (g.row b1 (by unfold On;omega))
 have hzW0:W0.heap.size=w.heap.size+1:=by rw[<- hW0];simp
 have k0:=hgB W0 (Gs.refl _ _);have p0:=h.up u0;obtain⟨G,hG⟩:∃G,at0 (specP B.nck B.long l (typL B.nck B.long (tks l)) S (fun j=>consL B.nck B.long (tks l) j .nil)) (i,e)=G:=⟨_,rfl⟩;have hG1:=hG.symm;rw[zQb] at hG1;rw[hG];have HG:=Lib.hid hG1;have HPX:=Lib.hid P;have HGU:=Lib.hid hgU;have HGB:=Lib.hid hgB;have HW0:=Lib.hid hW0;have U0:=Lib.hid u0;have B1:=Lib.hid b1;have P0:=Lib.hid p0;clear hW0 u0 b1 h hu P hgU hgB p0;clear hG hG1
 go_enter Tryz.func74,Tryz.ntmps74
 obtain⟨dK,hdK⟩:∃d,tkB (tks l) i e kVal=d:=⟨_,rfl⟩;have cT:Calls Tryz.prog 38 #[.pointer (some ⟨b,0,none⟩),.string kVal] W0 (fun en w'=>en = .returned (.bool dK)/\Gs (On b) W0 w'/\Psr w' b v (if dK then i+1 else i) e):=by
  cases dK with
  | true=>exact qN HPX.out.Q hi kVal hdK W0 (HGU.out _ (Gs.refl _ _)) (P0.out)
  | false=>exact qI HPX.out.Q hi kVal hdK W0 (HGU.out _ (Gs.refl _ _)) (P0.out)
 have HK:=Lib.hid hdK;clear hdK;go_wp2_with fail;rw[HW0.out];refine cT.mono ?_;rintro en wT ⟨rfl,gT,pT⟩;have gT:Gs (On b) W0 wT:=(Gs.refl _ _).trans gT;have kT:=HGB.out wT gT;have GT:=Lib.hid gT;have PT:=Lib.hid pT;clear gT pT cT
 cases dK with
 | true=>
  have PT:Hid (Psr wT b v (i+1) e):=PT;have hG:=HG.out;rw[HK.out,if_pos rfl,zX] at hG;have HG:=Lib.hid hG;clear hG;have cX:=mI HPX.out 60 48 #[.agg #[.pointer (some ⟨b,0,none⟩)]] #[] _ (by simp) fN (typL B.nck B.long (tks l)) jC qH (i+1) e (yK hi HK.out) (nL HPX.out (kS (tks l) qH (nS B.nck (tks l) (i+1,e))).1 (kS (tks l) qH (nS B.nck (tks l) (i+1,e))).2 (zI l qH (kJ l B.nck (s:=(i+1,e)) (yK hi HK.out)))) wT (HGU.out wT GT.out) PT.out;go_wp2_with fail;refine cX.mono ?_;rintro en wX hP;obtain⟨A,rfl,gX,pX,nX⟩:=hP.psr;have GX:=Lib.hid gX;have PX:=Lib.hid pX;have NX:=Lib.hid nX;clear gX pX nX hP;go_wp2_with fail
  go_ret
  rw[HG.out];exact⟨PoT.got ((Gs.of U0.out).trans (GT.out.trans GX.out)) PX.out fun t j ht=>(NX.out t j ht).base (by have:=U0.out.size;have:=GT.out.size;omega),fun h0=>absurd (vN HK.out) h0⟩
 | false=>
  have PT:Hid (Psr wT b v i e):=PT;have hG:=HG.out;rw[HK.out,if_neg Bool.false_ne_true] at hG;have HG:=Lib.hid hG;clear hG HK;obtain⟨wN1,hwN⟩:∃x,wT=x:=⟨_,rfl⟩;rw[hwN] at GT PT kT ⊢;clear hwN;have GN:=GT;have PN:=PT;have kN1:=kT;clear GT PT kT;obtain⟨dK,hdK⟩:∃d,tkB (tks l) i e kType=d:=⟨_,rfl⟩;have cT:Calls Tryz.prog 38 #[.pointer (some ⟨b,0,none⟩),.string kType] wN1 (fun en w'=>en = .returned (.bool dK)/\Gs (On b) wN1 w'/\Psr w' b v (if dK then i+1 else i) e):=by
   cases dK with
   | true=>exact qN HPX.out.Q hi kType hdK wN1 (HGU.out _ (GN.out)) (PN.out)
   | false=>exact qI HPX.out.Q hi kType hdK wN1 (HGU.out _ (GN.out)) (PN.out)
  have HK:=Lib.hid hdK;clear hdK;go_wp2_with fail;refine cT.mono ?_;rintro en wT ⟨rfl,gT,pT⟩;have gT:Gs (On b) W0 wT:=(GN.out).trans gT;have kT:=HGB.out wT gT;have GT:=Lib.hid gT;have PT:=Lib.hid pT;clear gT pT cT
  cases dK with
  | true=>
   have PT:Hid (Psr wT b v (i+1) e):=PT;have hG:=HG.out;rw[HK.out,if_pos rfl,zX] at hG;have HG:=Lib.hid hG;clear hG;have cX:=zZ0 HPX.out (i+1) e (yK hi HK.out) wT (HGU.out wT GT.out) PT.out;go_wp2_with fail;refine cX.mono ?_;rintro en wX hP;obtain⟨A,rfl,gX,pX,nX⟩:=hP.psr;have GX:=Lib.hid gX;have PX:=Lib.hid pX;have NX:=Lib.hid nX;clear gX pX nX hP;go_wp2_with fail
   go_ret
   rw[HG.out];exact⟨PoT.got ((Gs.of U0.out).trans (GT.out.trans GX.out)) PX.out fun t j ht=>(NX.out t j ht).base (by have:=U0.out.size;have:=GT.out.size;omega),fun h0=>absurd (vN HK.out) h0⟩
  | false=>
   have PT:Hid (Psr wT b v i e):=PT;have hG:=HG.out;rw[HK.out,if_neg Bool.false_ne_true] at hG;have HG:=Lib.hid hG;clear hG HK;obtain⟨wN2,hwN⟩:∃x,wT=x:=⟨_,rfl⟩;rw[hwN] at GT PT kT ⊢;clear hwN;have GN:=GT;have PN:=PT;have kN2:=kT;clear GT PT kT;obtain⟨dK,hdK⟩:∃d,tkB (tks l) i e kData=d:=⟨_,rfl⟩;have cT:Calls Tryz.prog 38 #[.pointer (some ⟨b,0,none⟩),.string kData] wN2 (fun en w'=>en = .returned (.bool dK)/\Gs (On b) wN2 w'/\Psr w' b v (if dK then i+1 else i) e):=by
    cases dK with
    | true=>exact qN HPX.out.Q hi kData hdK wN2 (HGU.out _ (GN.out)) (PN.out)
    | false=>exact qI HPX.out.Q hi kData hdK wN2 (HGU.out _ (GN.out)) (PN.out)
   have HK:=Lib.hid hdK;clear hdK;go_wp2_with fail;refine cT.mono ?_;rintro en wT ⟨rfl,gT,pT⟩;have gT:Gs (On b) W0 wT:=(GN.out).trans gT;have kT:=HGB.out wT gT;have GT:=Lib.hid gT;have PT:=Lib.hid pT;clear gT pT cT
   cases dK with
   | true=>
    have PT:Hid (Psr wT b v (i+1) e):=PT;have hG:=HG.out;rw[HK.out,if_pos rfl,zX] at hG;have HG:=Lib.hid hG;clear hG;have cX:=pD HPX.out 62 (i+1) e (yK hi HK.out) wT (HGU.out wT GT.out) PT.out;go_wp2_with fail;refine cX.mono ?_;rintro en wX hP;obtain⟨A,rfl,gX,pX,nX⟩:=hP.psr;have GX:=Lib.hid gX;have PX:=Lib.hid pX;have NX:=Lib.hid nX;clear gX pX nX hP;go_wp2_with fail
    go_ret
    rw[HG.out];exact⟨PoT.got ((Gs.of U0.out).trans (GT.out.trans GX.out)) PX.out fun t j ht=>(NX.out t j ht).base (by have:=U0.out.size;have:=GT.out.size;omega),fun h0=>absurd (vN HK.out) h0⟩
   | false=>
    have PT:Hid (Psr wT b v i e):=PT;have hG:=HG.out;rw[HK.out,if_neg Bool.false_ne_true] at hG;have HG:=Lib.hid hG;clear hG HK;obtain⟨wN3,hwN⟩:∃x,wT=x:=⟨_,rfl⟩;rw[hwN] at GT PT kT ⊢;clear hwN;have GN:=GT;have PN:=PT;have kN3:=kT;clear GT PT kT;obtain⟨dK,hdK⟩:∃d,tkB (tks l) i e qW=d:=⟨_,rfl⟩;have cT:Calls Tryz.prog 38 #[.pointer (some ⟨b,0,none⟩),.string qW] wN3 (fun en w'=>en = .returned (.bool dK)/\Gs (On b) wN3 w'/\Psr w' b v (if dK then i+1 else i) e):=by
     cases dK with
     | true=>exact qN HPX.out.Q hi qW hdK wN3 (HGU.out _ (GN.out)) (PN.out)
     | false=>exact qI HPX.out.Q hi qW hdK wN3 (HGU.out _ (GN.out)) (PN.out)
    have HK:=Lib.hid hdK;clear hdK;go_wp2_with fail;refine cT.mono ?_;rintro en wT ⟨rfl,gT,pT⟩;have gT:Gs (On b) W0 wT:=(GN.out).trans gT;have kT:=HGB.out wT gT;have GT:=Lib.hid gT;have PT:=Lib.hid pT;clear gT pT cT
    cases dK with
    | true=>
     have PT:Hid (Psr wT b v (i+1) e):=PT;have hG:=HG.out;rw[HK.out,if_pos rfl,zX] at hG;have HG:=Lib.hid hG;clear hG;have cX:=mI HPX.out 63 24 #[.agg #[.pointer (some ⟨b,0,none⟩)]] #[] _ (by simp) iI S hS qH (i+1) e (yK hi HK.out) (HS.out (kS (tks l) qH (nS B.nck (tks l) (i+1,e))) (zI l qH (kJ l B.nck (s:=(i+1,e)) (yK hi HK.out))) fun h0=>(by obtain⟨a1,b1⟩:=yP h0;obtain⟨a2,b2⟩:=mG a1;have b2:i+1<_:=b2;exact⟨a2,by omega⟩)) wT (HGU.out wT GT.out) PT.out;go_wp2_with fail;refine cX.mono ?_;rintro en wX hP;obtain⟨A,rfl,gX,pX,nX⟩:=hP.psr;have GX:=Lib.hid gX;have PX:=Lib.hid pX;have NX:=Lib.hid nX;clear gX pX nX hP;go_wp2_with fail
     go_ret
     rw[HG.out];exact⟨PoT.got ((Gs.of U0.out).trans (GT.out.trans GX.out)) PX.out fun t j ht=>(NX.out t j ht).base (by have:=U0.out.size;have:=GT.out.size;omega),fun h0=>absurd (vN HK.out) h0⟩
    | false=>
     have PT:Hid (Psr wT b v i e):=PT;have hG:=HG.out;rw[HK.out,if_neg Bool.false_ne_true] at hG;have HG:=Lib.hid hG;clear hG HK;obtain⟨wN4,hwN⟩:∃x,wT=x:=⟨_,rfl⟩;rw[hwN] at GT PT kT ⊢;clear hwN;have GN:=GT;have PN:=PT;have kN4:=kT;clear GT PT kT;obtain⟨dK,hdK⟩:∃d,tkB (tks l) i e zP=d:=⟨_,rfl⟩;have cT:Calls Tryz.prog 38 #[.pointer (some ⟨b,0,none⟩),.string zP] wN4 (fun en w'=>en = .returned (.bool dK)/\Gs (On b) wN4 w'/\Psr w' b v (if dK then i+1 else i) e):=by
      cases dK with
      | true=>exact qN HPX.out.Q hi zP hdK wN4 (HGU.out _ (GN.out)) (PN.out)
      | false=>exact qI HPX.out.Q hi zP hdK wN4 (HGU.out _ (GN.out)) (PN.out)
     have HK:=Lib.hid hdK;clear hdK;go_wp2_with fail;refine cT.mono ?_;rintro en wT ⟨rfl,gT,pT⟩;have gT:Gs (On b) W0 wT:=(GN.out).trans gT;have kT:=HGB.out wT gT;have GT:=Lib.hid gT;have PT:=Lib.hid pT;clear gT pT cT
     cases dK with
     | true=>
      have PT:Hid (Psr wT b v (i+1) e):=PT;have hG:=HG.out;rw[HK.out,if_pos rfl,zX] at hG;have HG:=Lib.hid hG;clear hG;have hiT:=yK hi HK.out;have cX:=(HS.out (i+1,e) hiT fun h0=>⟨h0,Nat.lt_succ_self i⟩) wT (HGU.out wT GT.out) PT.out;have est:=fun d=>zNl (l:=l) 64 hS d (s:=(i+1,e)) hiT
      have h00:=xX (l:=l) hS (s:=(i+1,e)) hiT;obtain⟨X,hX⟩:∃X,at0 S (i+1,e)=X:=⟨_,rfl⟩;rw[hX] at cX est h00;have hG:=HG.out;rw[est (nd 0 nob .nil)] at hG;have HG:=Lib.hid hG;have H00:=Lib.hid h00;clear hX est h00 hG;go_wp2_with fail;refine cX.mono ?_;rintro en wX hP;obtain⟨A,rfl,gX,pX,nX⟩:=hP.psr;have GX:=Lib.hid gX;have PX:=Lib.hid pX;have NX:=Lib.hid nX;clear gX pX nX hP;go_wp2_with fail
      go_ret
      rw[HG.out];have z1:=GT.out.size;have z2:=GX.out.size;have z0:=U0.out.size;have u3:Up wX ((wX.alloc (.cells #[.pointer A] 24)).alloc (.cells #[.int .i64 64,.int .i64 0,.string ⟨#[]⟩,.string ⟨#[]⟩,.slice (some ⟨wX.heap.size,0,none⟩) 1 1] 44)):=((Up.refl wX).alloc _).alloc _;have ez:=qY (nd 64 nob (fr1 (valD (nd 0 nob .nil) X))) (stO X);exact⟨PoT.got (((Gs.of U0.out).trans (GT.out.trans GX.out)).trans (Gs.of u3)) (by rw[show rI _=_ from congrArg Prod.fst ez,show rE _=_ from congrArg Prod.snd ez];exact PX.out.up u3) fun t j ht=>(by
       obtain⟨h0,rfl⟩:=yY _ _ ht;obtain⟨-,-,a,ha⟩:=H00.out h0;have n3:NewT w wX (.pointer A) a:=(NX.out a _ ha).base (by omega);rw[yD _ ha];exact iG ⟨64,0,nob,nob⟩ (by omega) n3),fun h0=>absurd (vN HK.out) h0⟩
     | false=>
      have PT:Hid (Psr wT b v i e):=PT;have hG:=HG.out;rw[HK.out,if_neg Bool.false_ne_true] at hG;have HG:=Lib.hid hG;clear hG HK;obtain⟨wN5,hwN⟩:∃x,wT=x:=⟨_,rfl⟩;rw[hwN] at GT PT kT ⊢;clear hwN;have GN:=GT;have PN:=PT;have kN5:=kT;clear GT PT kT;obtain⟨dK,hdK⟩:∃d,tkB (tks l) i e jY=d:=⟨_,rfl⟩;have cT:Calls Tryz.prog 38 #[.pointer (some ⟨b,0,none⟩),.string jY] wN5 (fun en w'=>en = .returned (.bool dK)/\Gs (On b) wN5 w'/\Psr w' b v (if dK then i+1 else i) e):=by
       cases dK with
       | true=>exact qN HPX.out.Q hi jY hdK wN5 (HGU.out _ (GN.out)) (PN.out)
       | false=>exact qI HPX.out.Q hi jY hdK wN5 (HGU.out _ (GN.out)) (PN.out)
      have HK:=Lib.hid hdK;clear hdK;go_wp2_with fail;refine cT.mono ?_;rintro en wT ⟨rfl,gT,pT⟩;have gT:Gs (On b) W0 wT:=(GN.out).trans gT;have kT:=HGB.out wT gT;have GT:=Lib.hid gT;have PT:=Lib.hid pT;clear gT pT cT
      cases dK with
      | true=>
       have PT:Hid (Psr wT b v (i+1) e):=PT;have hG:=HG.out;rw[HK.out,if_pos rfl,zX] at hG;have HG:=Lib.hid hG;clear hG;have hiT:=yK hi HK.out;have est:=zQa (l:=l) (i+1,e);have l1:=zI l kType (s:=(i+1,e)) hiT;have c1:=zN b v (i+1) e kType wT HPX.out.Q.T PT.out (HGU.out wT GT.out) (by have:=HPX.out.Q.hl;omega);have c1:Calls Tryz.prog 43 #[.pointer (some ⟨b,0,none⟩),.string kType] wT (PsP (On b) b v (kS (tks l) kType (i+1,e)).1 (kS (tks l) kType (i+1,e)).2 wT):=c1;obtain⟨s1,hs1⟩:∃s,kS (tks l) kType (i+1,e)=s:=⟨_,rfl⟩;rw[hs1] at l1 est c1;have l2:=kJ l B.long l1;have c2:=fun w' (u:Up V0 w') (p:Psr w' b v s1.1 s1.2)=>wV HPX.out s1 l1 w' u p
       obtain⟨s2,hs2⟩:∃s,nS B.long (tks l) s1=s:=⟨_,rfl⟩;obtain⟨nm,hnm⟩:∃n,nmS (nam B.long (tks l) s1.1) s1.2=n:=⟨_,rfl⟩;rw[hs2] at l2 est c2;rw[hnm] at est c2;have l3:=zI l kEq l2;have c3:∀w',Up V0 w'->Psr w' b v s2.1 s2.2->Calls Tryz.prog 43 #[.pointer (some ⟨b,0,none⟩),.string kEq] w' (PsP (On b) b v (kS (tks l) kEq s2).1 (kS (tks l) kEq s2).2 w'):=fun w' u p=>zN b v s2.1 s2.2 kEq w' HPX.out.Q.T p u (by have:=HPX.out.Q.hl;omega)
       obtain⟨s3,hs3⟩:∃s,kS (tks l) kEq s2=s:=⟨_,rfl⟩;rw[hs3] at l3 est c3;have c4:=fun w' (u:Up V0 w') (p:Psr w' b v s3.1 s3.2)=>wV HPX.out s3 l3 w' u p
       obtain⟨s4,hs4⟩:∃s,nS B.long (tks l) s3=s:=⟨_,rfl⟩;obtain⟨mk,hmk⟩:∃n,nmS (nam B.long (tks l) s3.1) s3.2=n:=⟨_,rfl⟩;rw[hs4] at est c4;rw[hmk] at est c4;have hG:=HG.out;rw[est] at hG;have HG:=Lib.hid hG;have C2:=Lib.hid c2;have C3:=Lib.hid c3;have C4:=Lib.hid c4;clear hs1 hs2 hs3 hs4 hnm hmk est c2 c3 c4 hG;go_wp2_with fail;refine c1.mono ?_;rintro en w1 ⟨⟨u,rfl⟩,g1,p1⟩;have g1:=GT.out.trans g1;have k1:=HGB.out w1 g1;have c2:=C2.out w1 (HGU.out w1 g1) p1;have G1:=Lib.hid g1;clear g1 p1 c1;go_wp2_with fail;refine c2.mono ?_;rintro en w2 ⟨rfl,g2,p2⟩;have g2:=G1.out.trans g2;have k2:=HGB.out w2 g2;have G2:=Lib.hid g2;have P2:=Lib.hid p2;clear g2 p2 c2;go_wp2_with fail;refine(jH 65 nm none 0 0 w2).mono ?_;rintro en w3 ⟨rfl,hw3⟩;have u3:Up w2 w3:=by rw[hw3];exact(Up.refl _).alloc _
       have nb3:Nb w3 w2.heap.size ⟨65,0,nm,nob⟩ (.slice none 0 0):=by rw[hw3];exact heap_alloc_new w2 _
       have g3:=G2.out.trans (Gs.of u3);have k3:=HGB.out w3 g3;have c3:=C3.out w3 (HGU.out w3 g3) (P2.out.up u3);have NB3:=Lib.hid nb3;have G3:=Lib.hid g3;have z2:=G2.out.size;clear u3 nb3 g3 hw3;go_wp2_with fail;refine c3.mono ?_;rintro en w4 ⟨⟨u,rfl⟩,g4,p4⟩;have nb4:=g4.row NB3.out (by unfold On;omega);have g4:=G3.out.trans g4;have k4:=HGB.out w4 g4;have c4:=C4.out w4 (HGU.out w4 g4) p4;have NB4:=Lib.hid nb4;have G4:=Lib.hid g4;clear g4 p4 nb4 c3;go_wp2_with fail;refine c4.mono ?_;rintro en w5 ⟨rfl,g5,p5⟩;have nb5:=g5.row NB4.out (by unfold On;omega);have g5:=G4.out.trans g5;have k5:=HGB.out w5 g5;have c54:w5.cell? ⟨w2.heap.size,3,none⟩=some (.string nob):=cell_of_row w5 _ 3 _ _ _ nb5;have f54:w5.frozen? ⟨w2.heap.size,3,none⟩=false:=frozen_of_row w5 _ 3 _ _ nb5;have hb5:w2.heap.size<w5.heap.size:=qC nb5;have NB5:=Lib.hid nb5;have G5:=Lib.hid g5;have P5:=Lib.hid p5;clear g5 p5 nb5 c4;go_wp2_with fail
       go_ret
       obtain⟨WF,hWF⟩:∃WF,w5.setCell ⟨w2.heap.size,3,none⟩ (.string mk)=WF:=⟨_,rfl⟩;have gF:Gs (On w2.heap.size) w5 WF:=by rw[<- hWF];exact(Gs.refl _ _).set _ _ (.inl rfl)
       have nF:Nb WF w2.heap.size ⟨65,0,nm,mk⟩ (.slice none 0 0):=by rw[<- hWF];exact(show Nb w5 w2.heap.size ⟨65,0,nm,nob⟩ (.slice none 0 0) from NB5.out).mark mk
       rw[hWF];rw[HG.out];have z0:=U0.out.size;have ez:=qY ((⟨65,0,nm,mk⟩,.nil):Tr) s4;exact⟨PoT.got ((Gs.of U0.out).trans (G5.out.outB gF (by omega))) (by rw[show rI _=_ from congrArg Prod.fst ez,show rE _=_ from congrArg Prod.snd ez];exact gF.row P5.out (by unfold On;omega)) fun t j ht=>(by obtain⟨h0,rfl⟩:=yY _ _ ht;exact kR (x:=⟨65,0,nm,mk⟩) nF ⟨by omega,qC nF⟩),fun h0=>absurd (vN HK.out) h0⟩
      | false=>
       have PT:Hid (Psr wT b v i e):=PT;have hG:=HG.out;rw[HK.out,if_neg Bool.false_ne_true] at hG;have HG:=Lib.hid hG;clear hG HK;go_wp2_with fail
       go_ret
       rw[HG.out];exact⟨PoT.gone (s:=(i,e)) ((Gs.of U0.out).trans GT.out) PT.out,fun _=>rfl⟩
end
theorem zNn:EntF 115:=fun _ _=>by kernel_rfl
theorem zQd (wb:World) (b:Nat) (v:Value) (B1 B2:Nat) (A0:Option Addr) (R:Rs Tr) (w:World) (hz:wb.heap.size<=w.heap.size) (hbw:b≠B2) (hB2:B2<w.heap.size) (c1:w.cell? ⟨B1,0,none⟩=some (.pointer (some ⟨b,0,none⟩))) (b2:Boxed w B2 24 (.pointer A0))
  (cA:Calls Tryz.prog 21 #[.agg #[.pointer (some ⟨b,0,none⟩)]] w (PaT (On b) b v R (fun _ _=>True) w)) :
  Calls Tryz.prog 115 #[.pointer (some ⟨B1,0,none⟩),.pointer (some ⟨B2,0,none⟩)] w (InL (Two b B2) b v (rI R) (rE R) (P1 wb B2 R) w):=by
 have HB:=Lib.hid b2;clear b2
 go_enter Tryz.func115,Tryz.ntmps115
 go_wp2_with fail;refine cA.mono ?_;rintro en w1 ⟨A,rfl,g1,hR⟩;have b3:Boxed w1 B2 24 (.pointer A0):=g1.row HB.out (by unfold On;omega);have c3:=b3.cell;have f3:=b3.frozen;have hb3:=b3.lt;have B3:=Lib.hid b3;have G1:=Lib.hid g1;have HR:=Lib.hid hR;have hz1:=g1.size;clear b3 g1 hR cA;go_wp2_with fail;go_end0;have hne:∀q,q≠B2->(w1.setCell ⟨B2,0,none⟩ (.pointer A)).heap[q]? = w1.heap[q]?:=fun q hq=>Below.heap_setCell _ _ _ _ hq
 refine⟨⟨_,rfl⟩,(G1.out.two).set _ _ (.inl (.inr rfl)),?_,A,B3.out.set _,fun t j hR=>?_⟩
 ·have h:=HR.out
  cases R with
  | inl e=>exact(hne b hbw).trans h.2.1
  | inr e=>exact(hne b hbw).trans h
 ·have h:=HR.out
  rw[hR] at h;have hs:(w1.setCell ⟨B2,0,none⟩ (.pointer A)).heap.size=w1.heap.size:=by simp[World.setCell]
  exact InT.keep h.1 (fun q hq=>⟨⟨by have:=hq.1;omega,by rw[hs];exact hq.2⟩,by have:=hq.1;omega⟩) fun q hq=>hne q (by have:=hq.1;omega)
section
variable {V0:World} {v:Value} {l:List Te} {b:Nat}
def parM (l:List Te) (M:Nat->Rs Tr) (i:Nat):Rs Tr:=thn (keysL (tks l) i [kOpen]) fun _ j=>thenK (tks l) (M j) [kShut]
theorem zNo {M:Nat->Rs Tr} (hM:kB l M) (d:Tr) {s:SS} (hs:s.1<=l.length):at0 (parM l M) s=at0 (fun m=>.inl (valD d (at0 M (kS (tks l) kOpen s)),m)) (kS (tks l) kShut (stO (at0 M (kS (tks l) kOpen s)))):=by
 unfold parM thenK;rw[jB,yA (R:=M) (d:=d) fun _=>hM.ne (zI l _ hs),jB]
theorem pE (P:Px9 V0 v l b) (M:Nat->Rs Tr) (hM:kB l M) (i:Nat) (e:Int) (hi:i<=l.length) (cM:FnAt V0 v b 21 #[.agg #[.pointer (some ⟨b,0,none⟩)]] M (kS (tks l) kOpen (i,e))) :
  FnAt V0 v b 66 #[.agg #[.pointer (some ⟨b,0,none⟩)]] (parM l M) (i,e):=fun w hu h=>by
 have hb:b<w.heap.size:=qC h;have hbV:=P.Q.hb;have hll:=P.Q.hl;obtain⟨W0,hW0⟩:∃W0,w.alloc (.cells #[.pointer (some ⟨b,0,none⟩)] 51)=W0:=⟨_,rfl⟩;have u0:Up w W0:=by rw[<- hW0];exact(Up.refl w).alloc _
 have b1:W0.heap[w.heap.size]? = some (.cells #[.pointer (some ⟨b,0,none⟩)] 51 (0,0)):=by rw[<- hW0];exact heap_alloc_new w _
 have hgU:∀w',Gs (On b) W0 w'->Up V0 w':=fun w' g=>g.up (hu.trans u0) fun q hq=>by rw[hq];exact hbV
 have hgB:∀w',Gs (On b) W0 w'->w'.cell? ⟨w.heap.size,0,none⟩=some (.pointer (some ⟨b,0,none⟩)):=fun w' g=>cell_of_row w' w.heap.size 0 _ _ _ (g.row b1 (by unfold On;omega))
 have hzW0:W0.heap.size=w.heap.size+1:=by rw[<- hW0];simp
 have k0:=hgB W0 (Gs.refl _ _);have p0:=h.up u0;have hl1:=zI l kOpen (s:=(i,e)) hi;have hat:=fun d=>zNo hM d (s:=(i,e)) hi
 have hV0:=hgU W0 (Gs.refl _ _);obtain⟨W1,hW1⟩:∃W1,W0.alloc (.cells #[.pointer none] 24)=W1:=⟨_,rfl⟩;have u1:Up W0 W1:=by rw[<- hW1];exact(Up.refl W0).alloc _
 have z1:W1.heap.size=w.heap.size+2:=by rw[<- hW1];simp;omega
 have r1:=u1.row b1;have r2:W1.heap[w.heap.size+1]? = some (.cells #[.pointer none] 24 (0,0)):=by rw[<- hW1];exact yU W0 _ hzW0
 have k1:((w.alloc (.cells #[.pointer (some ⟨b,0,none⟩)] 51)).alloc (.cells #[.pointer none] 24)).cell? ⟨w.heap.size,0,none⟩=some (.pointer (some ⟨b,0,none⟩)):=by rw[hW0,hW1];exact cell_of_row W1 _ 0 _ _ _ r1
 obtain⟨s1,hs1⟩:∃s,kS (tks l) kOpen (i,e)=s:=⟨_,rfl⟩;rw[hs1] at cM hl1 hat;have e2:neI i (tkB (tks l) i e kOpen)=s1.1:=congrArg Prod.fst hs1;have e3:neE e (tkB (tks l) i e kOpen)=s1.2:=congrArg Prod.snd hs1;have hlx:=rK hM hl1;have h00:=xX hM hl1;have cM:∀w',Up V0 w'->Psr w' b v s1.1 s1.2->Calls Tryz.prog 21 #[.agg #[.pointer (some ⟨b,0,none⟩)]] w' (PaT (On b) b v (at0 M s1) (fun _ _=>True) w'):=cM;obtain⟨X,hX⟩:∃X,at0 M s1=X:=⟨_,rfl⟩;rw[hX] at cM hat hlx h00;obtain⟨s2,hs2⟩:∃s,kS (tks l) kShut (stO X)=s:=⟨_,rfl⟩;have e4:neI (stO X).1 (tkB (tks l) (stO X).1 (stO X).2 kShut)=s2.1:=congrArg Prod.fst hs2;have e5:neE (stO X).2 (tkB (tks l) (stO X).1 (stO X).2 kShut)=s2.2:=congrArg Prod.snd hs2;have n2:=yP (l:=tks l) (x:=kShut) (s:=stO X);rw[hs2] at hat n2;obtain⟨G,hG⟩:∃G,at0 (parM l M) (i,e)=G:=⟨_,rfl⟩;rw[hG] at hat ⊢;have cBt:=zJ (W0:=V0) (l:=tks l) b v i e kOpen kShut 115 #[.pointer (some ⟨w.heap.size,0,none⟩),.pointer (some ⟨w.heap.size+1,0,none⟩)] zNn (Two b (w.heap.size+1)) (fun q hq=>by have:=hV0.size;rcases hq with hq | hq<;>omega) hbV (stO X).1 (stO X).2 (P1 w (w.heap.size+1) X) W1
  P.Q.T (p0.up u1) (hV0.trans u1) (by omega) (by omega) (fun w2 g2 h2=>by
   rw[e2,e3] at h2;exact zQd w b v w.heap.size (w.heap.size+1) none X w2 (by have:=g2.size;omega) (by omega) (by have:=g2.size;omega) (cell_of_row w2 _ 0 _ _ _ (g2.row r1 (by unfold On;omega))) (g2.row r2 (by unfold On;omega)) (cM w2 (g2.up (hV0.trans u1) fun q hq=>by rw[hq];exact hbV) h2))
 rw[e4,e5] at cBt;have HW1:=Lib.hid hW1;have HAT:=Lib.hid hat;have H00:=Lib.hid h00;have N2:=Lib.hid n2;have U1:=Lib.hid u1;have HPX:=Lib.hid P;have HGU:=Lib.hid hgU;have HGB:=Lib.hid hgB;have HW0:=Lib.hid hW0;have U0:=Lib.hid u0;have B1:=Lib.hid b1;have P0:=Lib.hid p0;clear hW0 u0 b1 h hu P hgU hgB p0;clear hG hs1 hs2 hX hat h00 n2 u1 hV0 e2 e3 e4 e5 cM hW1 hM
 go_enter Tryz.func66,Tryz.ntmps66
 go_wp2_with fail;rw[HW0.out,HW1.out];refine cBt.mono ?_;rintro en w4 ⟨⟨u,rfl⟩,w2,w3,g2,g3,⟨A,b3,hT⟩,g4,h4⟩;have b4:Boxed w4 (w.heap.size+1) 24 (.pointer A):=g4.row b3 (by unfold On;omega);have c4:=b4.cell;have f4:=b4.frozen;have hb4:=b4.lt;have hgF:Gs (On b) w w4:=(((Gs.of (U0.out.trans U1.out)).trans g2).out2 g3 (by omega)).trans g4;have HGF:=Lib.hid hgF;have HTT:Hid (∀t j,X = .inl (t,j)->InT w4 (fun q=>NewS w w4 q/\q≠w.heap.size+1) (.pointer A) t):=Lib.hid fun t j hR=>InT.keep (hT t j hR) (fun q hq=>⟨⟨hq.1.1,Nat.lt_of_lt_of_le hq.1.2 g4.size⟩,hq.2⟩) fun q hq=>g4.block q hq.1.2 (by have:=hq.1.1;unfold On;omega)
 have H4:=Lib.hid h4;have B4:=Lib.hid b4;clear cBt b4 hgF h4 g2 g3 g4 b3 hT;go_wp2_with fail;obtain⟨WF,hWF⟩:∃WF,w4.setCell ⟨w.heap.size+1,0,none⟩ (.pointer A)=WF:=⟨_,rfl⟩;have bF:Boxed WF (w.heap.size+1) 24 (.pointer A):=by rw[<- hWF];exact B4.out.set _
 have r0:=bF.cell;have hs:WF.heap.size=w4.heap.size:=by rw[<- hWF];simp[World.setCell]
 have hne:∀q,q≠w.heap.size+1->WF.heap[q]? = w4.heap[q]?:=fun q hq=>by rw[<- hWF];exact Below.heap_setCell _ _ _ _ hq
 have gF:Gs (On b) w WF:=by rw[<- hWF];exact HGF.out.set _ _ (.inr (by simp))
 have pF:Psr WF b v s2.1 s2.2:=(hne b (by omega)).trans H4.out;rw[hWF];rw[HAT.out (nd 0 nob .nil)];have est:=qY (valD (nd 0 nob .nil) X) s2;refine bodyPost_ret (v:=.pointer A) (by simp[results,Tryz.results66,go_sem,r0]) rfl (PaT.mk gF (by rw[show rI _=_ from congrArg Prod.fst est,show rE _=_ from congrArg Prod.snd est];exact pF) fun t j ht=>?_);obtain⟨h0,rfl⟩:=yY _ _ ht;obtain⟨-,-,a,ha⟩:=H00.out (N2.out h0).1;rw[yD _ ha];exact InT.keep (HTT.out a _ ha) (fun q hq=>⟨hq.1.1,by rw[hs];exact hq.1.2⟩) fun q hq=>hne q hq.2
end
theorem zZ1 (v:Value) (i:Nat) (o:Option ByteArray) (d:Bool) (w:World) (hi:i<=1000000) (cN:∀w',Up w w'->Calls Tryz.prog 75 #[v,.int .i64 (i:Int)] w' (NaP o w')) (cK:∀w',Up w w'->Calls Tryz.prog 117 #[v,.int .i64 ((i:Int)+1),.string kOpen] w' (BoU d w')) :
  Calls Tryz.prog 68 #[v,.int .i64 (i:Int)] w (NaP (if d=true then o else none) w):=by
 have c1:=cN w (Up.refl _);have hw:IntKind.i64.wrap ((i:Int)+1)=(i:Int)+1:=by rw[IntKind.wrap_i64];omega
 have CK:=Lib.hid cK;clear cN cK
 cases o with
 | none=>
  rw[show(if d=true then (none:Option ByteArray) else none)=none from by split<;>rfl]
  go_enter Tryz.func68,Tryz.ntmps68
  go_wp2_with fail;refine c1.mono ?_;rintro en w1 ⟨rfl,u1⟩;have U1:=Lib.hid u1;clear u1;go_wp2_with fail
  go_ret2
  exact⟨rfl,U1.out⟩
 | some s=>
  obtain⟨Z,hZ⟩:∃Z,(if d=true then some s else none)=Z:=⟨_,rfl⟩;rw[hZ];have HZ:=Lib.hid hZ;clear hZ
  go_enter Tryz.func68,Tryz.ntmps68
  go_wp2_with fail;refine c1.mono ?_;rintro en w1 ⟨rfl,u1⟩;have c2:=CK.out w1 u1;have U1:=Lib.hid u1;clear u1 c1;go_wp2_with fail;refine c2.mono ?_;rintro en w2 ⟨rfl,u2⟩;have U2:=Lib.hid u2;clear u2 c2
  cases d with
  | false=>
   go_wp2_with fail
   go_ret2
   exact⟨by rw[<- HZ.out];rfl,U1.out.trans U2.out⟩
  | true=>
   go_wp2_with fail
   go_ret2
   exact⟨by rw[<- HZ.out];rfl,U1.out.trans U2.out⟩
def KidsP (W w:World) (v:Value) (f:Fr):Prop:=∃A c,v = .slice A f.len c/\f.len<=c/\(0<f.len->∃g,A=some ⟨g,0,none⟩/\NewS W w g/\InF w (NewS W w) f g 0)
theorem KidsP.of {W w:World} {v:Value} {f:Fr} {ps:List Value} (h:CoSt W w v f ps):KidsP W w v f:=by
 obtain⟨A,c,rfl,hc,hlt,h0⟩:=h.form;refine⟨A,c,rfl,hc,fun hp=>?_⟩;obtain⟨g,rfl,hcell⟩:=h0 hp;exact⟨g,rfl,hlt g rfl,PtF.row (PtF.keep (fun q hq=>hq.1) (fun _ _=>rfl) h.kids) hcell⟩
theorem KidsP.gs {S:Nat->Prop} {W w w':World} {v:Value} {f:Fr} (h:KidsP W w v f) (g:Gs S w w') (hS:∀k,S k->k<W.heap.size):KidsP W w' v f:=by
 obtain⟨A,c,h1,h2,h4⟩:=h;refine⟨A,c,h1,h2,fun h0=>?_⟩;obtain⟨q,hA,hq,hf⟩:=h4 h0;exact⟨q,hA,⟨hq.1,Nat.lt_of_lt_of_le hq.2 g.size⟩,InF.keep (fun q hq=>⟨hq.1,Nat.lt_of_lt_of_le hq.2 g.size⟩) (fun q hq=>g.block q hq.2 fun hs=>by have:=hS q hs;have:=hq.1;omega) hq hf⟩
def ManP (b:Nat) (v:Value) (R:Rs Fr) (w:World) (en:Ending) (w':World):Prop:=∃A n c,en = .returned (.slice A n c)/\Gs (On b) w w'/\Psr w' b v (rI R) (rE R)/\∀f j,R = .inl (f,j)->KidsP w w' (.slice A n c) f
theorem zZ2 (w:World) (a:Addr):(binOp .neq 24 (.pointer (some a)) (.pointer none)).run Tryz.prog w = .ok (.bool true) w:=by
 kernel_rfl
def errW (b:Nat) (w:World):Int:=match w.cell? ⟨b,2,none⟩ with
 | some v=>intOf v
 | none=>0
theorem Psr.err {w:World} {b:Nat} {v:Value} {i:Nat} {e:Int} (h:Psr w b v i e):errW b w=e:=by
 unfold errW;rw[h.cells.2.2.1]
 simp[intOf]
def mesW (b N:Nat) (vn:Value) (w:World):Nat:=match vn with
 | .pointer none=>0
 | _=>if errW b w=0 then N-posW b w+2 else 1
section
variable {W w w' w5 w6:World} {b N:Nat} {v:Value}
theorem zQe {j:Nat} (A:Option Addr) (h:Psr w b v j 0):mesW b N (.pointer A) w<=N-j+2:=by
 unfold mesW
 split
 ·omega
 ·rw[if_pos h.err,h.pos];omega
theorem zNp {j:Nat} {r:Int} (A:Option Addr) (hr:¬r=0) (h:Psr w b v j r):mesW b N (.pointer A) w<=1:=by
 unfold mesW
 split
 ·omega
 ·rw[if_neg (by rw[h.err];exact hr)];omega
theorem zU9 {j:Nat} (a:Addr) (h:Psr w b v j 0):mesW b N (.pointer (some a)) w=N-j+2:=by
 show(if errW b w=0 then N-posW b w+2 else 1)=_
 rw[if_pos h.err,h.pos]
theorem zQf {j:Nat} {r:Int} (a:Addr) (hr:¬r=0) (h:Psr w b v j r):mesW b N (.pointer (some a)) w=1:=by
 show(if errW b w=0 then N-posW b w+2 else 1)=_
 rw[if_neg (by rw[h.err];exact hr)]
theorem RwT.push {vo v6:Value} {ps:List Value} {f:Fr} {t:Tr} {A:Option Addr} {g:Nat} (h:RwT W w vo ps f) (ht:InT w (fun q=>NewS W w q/\vo.ownBlock≠some q) (.pointer A) t) (u:Up w w5)
  (hv:v6.ownBlock=some g) (hg:w5.grownBy w6 vo.ownBlock) (hat:vo.ownBlock=some g\/g=w5.heap.size):RwT W w6 v6 (ps++[.pointer A]) (f.app (fr1 t)):=by
 have hz:=hg.size;have hz5:=u.size;have hgn:∀q,q<w5.heap.size->vo.ownBlock≠some q->v6.ownBlock≠some q:=fun q hq hne e=>by
  rw[hv] at e;injection e with e
  rcases hat with h1 | h1
  ·rw[e] at h1;exact hne h1
  ·omega
 have kp:∀q,q<w.heap.size->vo.ownBlock≠some q->w6.heap[q]? = w.heap[q]?:=fun q hq hne=>(hg.block q (by omega) fun e=>hne e.symm).trans (Below.block u q hq)
 have sh:∀q,NewS W w q/\vo.ownBlock≠some q->NewS W w6 q/\v6.ownBlock≠some q:=fun q hq=>⟨⟨hq.1.1,by have:=hq.1.2;omega⟩,hgn q (by have:=hq.1.2;omega) hq.2⟩
 exact PtF.snoc (t:=t) (InT.keep ht sh fun q hq=>kp q hq.1.2 hq.2) (PtF.keep sh (fun q hq=>kp q hq.1.2 hq.2) h)
inductive ManL (l:List Te) (b:Nat) (v:Value) (i:Nat) (e:Int) (F:Nat->Nat->Fr->Rs Fr) (R:Rs Fr) (W w:World) (vo:Value) (A:Option Addr) (ps:List Value):Prop
 | good (acc:Fr) (j n:Nat) (t:Tr) (h0:e=0) (hj:j<=l.length) (hlen:ps.length+i+1<=j) (hn:l.length<n+j) (hR:R=F n j (acc.app (fr1 t))) (hT:RwT W w vo ps acc) (ht:InT w (fun q=>NewS W w q/\vo.ownBlock≠some q) (.pointer A) t) (hp:Psr w b v j 0):ManL l b v i e F R W w vo A ps
 | bad (p:Nat) (r:Int) (hr:¬r=0) (hpl:p<=l.length) (hR:R = .inr (p,r)) (hp:Psr w b v p r) (hlen:ps.length<=l.length):ManL l b v i e F R W w vo A ps
 | fin (acc:Fr) (j:Nat) (hA:A=none) (hR:R = .inl (acc,j)) (hT:RwT W w vo ps acc) (hp:Psr w b v j 0) (hlen:ps.length<=l.length+1):ManL l b v i e F R W w vo A ps
 | out (p:Nat) (r:Int) (hA:A=none) (hR:R = .inr (p,r)) (hp:Psr w b v p r) (hlen:ps.length<=l.length+1):ManL l b v i e F R W w vo A ps
theorem bU {l:List Te} {i n j:Nat} {PR:Nat->Rs (Option Tr)} {F:Nat->Nat->Fr->Rs Fr} {R:Rs Fr} {acc:Fr} {vo:Value} {ps:List Value} {en:Ending}
  (hF:F n j acc=thn (PR j) fun o q=>match o with
   | none=>.inl (acc,j)
   | some x=>F (n-1) q (acc.app (fr1 x))) (hPR:InR l.length j (PR j)) (hj:j<=l.length) (hn:l.length<n+j) (hR:R=F n j acc) (hbW:b<W.heap.size) (hT:RwT W w vo ps acc) (hlt:∀g,vo.ownBlock=some g->g<w.heap.size) (hW:W.heap.size<=w.heap.size) (hlen:ps.length+i<=j)
  (h:PoT b v (at0 PR (j,0)) w en w'):∃A,en = .returned (.pointer A)/\Gs (On b) w w'/\ManL l b v i 0 F R W w' vo A ps/\mesW b l.length (.pointer A) w'<l.length-j+2:=by
 obtain⟨A,rfl,g,p,hs,hnn⟩:=h;rw[qG] at p hs hnn;rw[hF] at hR;have hTg:=hT.gs g (fun k hk=>by rw[hk];exact hbW);refine⟨A,rfl,g,?_⟩
 cases hX:PR j with
 | inr x=>
  obtain⟨q,r⟩:=x;rw[hX] at p hPR hR;have hr:¬r=0:=by have:=hPR.2.2;omega
  have p:Psr w' b v q r:=p;exact⟨.bad q r hr hPR.2.1 hR p (by omega),by have:=zNp (N:=l.length) A hr p;omega⟩
 | inl x=>
  obtain⟨o,q⟩:=x
  cases o with
  | none=>
   rw[hX] at p hPR hR;have hA:=hnn q hX;have hq:q=j:=hPR;subst hq hA;have p:Psr w' b v q 0:=p;exact⟨.fin acc q rfl hR hTg p (by omega),by show 0<_;omega⟩
  | some t=>
   have ht:=hs t q hX;rw[hX] at p hPR hR;have hq:j<q/\q<=l.length:=hPR;have p:Psr w' b v q 0:=p;refine⟨.good acc q (n-1) t rfl hq.2 (by omega) (by omega) hR hTg (InT.keep ht (fun k hk=>⟨⟨by have:=hk.1;omega,hk.2⟩,fun e=>by have:=hlt k e;have:=hk.1;omega⟩) fun _ _=>rfl) p,?_⟩;have:=zQe (N:=l.length) A p;omega
theorem zQg {vo:Value} {ps:List Value} {f:Fr} (ho:w.ownsRow W.heap.size 24 1 vo ps.length ps) (hT:RwT W w vo ps f):KidsP W w vo f:=
 KidsP.of (ps:=ps) ⟨by rw[<- hT.len];exact ho,hT⟩
end
section
variable {V0:World} {v:Value} {l:List Te} {b:Nat}
theorem zZ3 (k:FuncId) (pre cap args:Array Value) (ha:pre++cap=args) (hE:EntF k) (PR:Nat->Rs (Option Tr)) (hPR:∀j,j<=l.length->InR l.length j (PR j)) (F:Nat->Nat->Fr->Rs Fr)
  (hF:∀n j acc,0<n->F n j acc=thn (PR j) fun o q=>match o with
   | none=>.inl (acc,j)
   | some x=>F (n-1) q (acc.app (fr1 x))) (hll:l.length<=100000) (i:Nat) (e:Int) (hi:i<=l.length) (n:Nat) (hn:e=0->l.length<n+i) (w:World) (h:Psr w b v i e)
  (cP:∀s:SS,s.1<=l.length->(s.2=0->e=0/\i<=s.1)->∀w',Gs (On b) w w'->Psr w' b v s.1 s.2->Calls Tryz.prog k args w' fun en w''=>PoT b v (at0 PR s) w' en w''/\(¬s.2=0->en = .returned (.pointer none))) :
  Calls Tryz.prog 51 #[.func (.func k) pre cap] w (ManP b v (at0 (fun j=>F n j .nil) (i,e)) w):=by
 subst ha;have hb:b<w.heap.size:=qC h;have c1:=cP (i,e) hi (fun h0=>⟨h0,Nat.le_refl _⟩) w (Gs.refl _ _) h;obtain⟨R,hR⟩:∃R,at0 (fun j=>F n j .nil) (i,e)=R:=⟨_,rfl⟩;rw[hR];have HR:=Lib.hid hR;have HF:=Lib.hid hF;have HPR:=Lib.hid hPR;have HCP:=Lib.hid cP;have HE:=Lib.hid hE;have HN:=Lib.hid hn;have H:=Lib.hid h;obtain⟨i0,hi0,hz0,hz1,hz2⟩:=info_parts xT;clear hR hF hPR cP hE hn h
 go_enter Tryz.func51,Tryz.ntmps51
 go_wp2_with fail;rw[HE.out,Oper.upon_enter];refine c1.mono ?_;rintro en w1 ⟨hP,hQ⟩;have key:∃A,en = .returned (.pointer A)/\Gs (On b) w w1/\ManL l b v i e F R w w1 (.slice none 0 0) A []:=by
  by_cases he:e=0
  ·subst he
   obtain⟨A,h1,h2,h3,-⟩:=bU (l:=l) (i:=i) (W:=w) (F:=F) (R:=R) (acc:=.nil) (vo:=.slice none 0 0) (ps:=[]) (HF.out n i .nil (by have:=HN.out rfl;omega)) (HPR.out i hi) hi (HN.out rfl) (by rw[<- HR.out,qG]) hb trivial (fun g hg=>by cases hg) (Nat.le_refl _) (by simp) hP;exact⟨A,h1,h2,h3⟩
  ·have h1:=hQ he
   obtain⟨A,h2,g,p,-,-⟩:=hP;rw[h1] at h2;injection h2 with h2;injection h2 with h2;rw[qM _ (show ¬(i,e).2=0 from he)] at p;have p:Psr w1 b v i e:=p;refine⟨none,h1,g,.out i e rfl ?_ p (Nat.zero_le _)⟩;rw[<- HR.out,qM _ (show ¬(i,e).2=0 from he)]
 obtain⟨A1,rfl,g1,st1⟩:=key;have G1:=Lib.hid g1;have ST1:=Lib.hid st1;clear g1 st1 hP hQ c1 HN;go_wp2_with fail
 go_loopw [3,4] (fun vo vn wr=>∃A ps,vn = .pointer A/\wr.ownsRow w.heap.size 24 1 vo ps.length ps/\Gs (On b) w wr/\ManL l b v i e F R w wr vo A ps) (fun _ vn wr=>mesW b l.length vn wr)
 case atStart=>exact⟨A1,[],rfl,World.ownsRow_nil _ _ _ _,G1.out,ST1.out⟩
 case round=>
  obtain⟨A,ps,rfl,ho,hg,hst⟩:=hrel;obtain⟨sA,sc,rfl⟩:=zYr ho;have HG:=Lib.hid hg;have HO:=Lib.hid ho;have hgs:=hg.size;have hown:=World.ownsRow.lt ho
  cases hst with
  | fin acc j hA hR hT hp hlen=>
   have hk:=zQg ho hT;subst hA;have HRR:=Lib.hid hR;have HK:=Lib.hid hk;have HPP:=Lib.hid hp;clear hg ho hR hT hp hk hown;go_wp2_with fail
   go_ret
   rw[HRR.out];exact⟨_,_,_,rfl,HG.out,HPP.out,fun f j hf=>by obtain⟨rfl,rfl⟩:=Prod.mk.inj (Sum.inl.inj hf);exact HK.out⟩
  | out p r hA hR hp hlen=>
   subst hA;have HRR:=Lib.hid hR;have HPP:=Lib.hid hp;clear hg ho hR hp hown;go_wp2_with fail
   go_ret
   rw[HRR.out];exact⟨_,_,_,rfl,HG.out,HPP.out,fun f j hf=>nomatch hf⟩
  | bad p r hr hpl hR hp hlen=>
   cases A with
   | none=>
    have HRR:=Lib.hid hR;have HPP:=Lib.hid hp;clear hg ho hR hp hown;go_wp2_with fail
    go_ret
    rw[HRR.out];exact⟨_,_,_,rfl,HG.out,HPP.out,fun f j hf=>nomatch hf⟩
   | some a=>
    have hmes:=zQf (N:=l.length) a hr hp;obtain⟨N,hN⟩:∃N,ps.length=N:=⟨_,rfl⟩;rw[hN] at hlen hown ⊢;obtain⟨w5,hw5⟩:∃w5,wr.alloc (.cells #[.pointer (some a)] 24)=w5:=⟨_,rfl⟩;have u5:Up wr w5:=by rw[<- hw5];exact(Up.refl _).alloc _
    have how:=zR6 ho u5;rw[hN] at how;have HCE:Hid (∀(j:Nat) u,[Value.pointer (some a)][j]? = some u->w5.cell? ((⟨wr.heap.size,0,none⟩:Addr).add j)=some u):=Lib.hid (by rw[<- hw5];exact cell_one_new _ _ _);have hz5:=u5.size;have hW5:w.heap.size<=w5.heap.size:=by omega
    have HLT:=Lib.hid hown;have HNN:=Lib.hid hN;have HRR:=Lib.hid hR;have HPP:=Lib.hid hp;have HRE:=Lib.hid hr;have HOW:=Lib.hid how;have HW5:=Lib.hid hw5;have U5:=Lib.hid u5;have HM:=Lib.hid hmes;have hnil:=zZ2 wr a;clear hg ho hR hp hr how hw5 u5 hN hown hmes
    go_wp2_with (at_builtin;rw[HW5.out];refine wpList_append_lies _ rfl _ _ 33 rfl w.heap.size 24 i0 _ 1 8 Tryz.underlying33 hi0 hz0 hz1 hz2 rfl (by omega) (.slice sA N sc) N ps rfl HOW.out ⟨wr.heap.size,0,none⟩ 1 1 [.pointer (some a)] rfl rfl HCE.out (by intro u hu;rw[List.mem_singleton.1 hu];rfl) (by omega) (by unfold maxLen;omega) (by omega) hW5 w5.heap.size rfl ?_;intro g6 cap6 w6 ho6 hg6 hat6 hlt6)
    have hG6:Gs (On b) w w6:=(HG.out.trans (Gs.of U5.out)).grown hg6 fun g hg=>.inr (HLT.out g hg).1
    have hp6:Psr w6 b v p r:=(hg6.block b (by omega) fun e=>by have:=(HLT.out b e.symm).1;omega).trans (U5.out.row HPP.out);have hlen6:(ps++[Value.pointer (some a)]).length=N+1:=by rw[List.length_append,HNN.out];rfl
    rw[<- hlen6] at ho6;have HO6:=Lib.hid ho6;have HG6:=Lib.hid hG6;have cX:=HCP.out (p,r) hpl (fun h0=>absurd h0 HRE.out) w6 hG6 hp6;clear ho6 hg6 hat6 hlt6 hG6 hp6;rw[HE.out,Oper.upon_enter];refine cX.mono ?_;rintro en w7 ⟨hP,hQ⟩;obtain⟨A7,h7,g7,p7,-,-⟩:=hP;have h8:=hQ HRE.out;subst h8;rw[qM _ (show ¬(p,r).2=0 from HRE.out)] at p7;have p7:Psr w7 b v p r:=p7;have P7:=Lib.hid p7;have G7:=Lib.hid g7;clear p7 g7 hQ h7 cX;go_wp2_with fail
    go_roundw
    case rel=>exact⟨none,ps++[.pointer (some a)],rfl,by rw[hlen6];exact kY (by rw[<- hlen6];exact HO6.out) G7.out (fun k hk=>by rw[hk];exact hb),HG6.out.trans G7.out,.out p r rfl HRR.out P7.out (by omega)⟩
    case measure=>rw[HM.out];show 0<1;omega
  | good acc j n t h0 hj hlen hn hR hT ht hp=>
   obtain⟨o1,q1,hA⟩:=InT.ptr ht;injection hA with hA;subst hA;obtain⟨a,ha⟩:∃a:Addr,(⟨o1,q1,none⟩:Addr)=a:=⟨_,rfl⟩;rw[ha] at ht ⊢;have hmes:=zU9 (N:=l.length) a hp;have hl6:=hT.len;obtain⟨N,hN⟩:∃N,ps.length=N:=⟨_,rfl⟩;rw[hN] at hlen hown hl6 hT ht ⊢;obtain⟨w5,hw5⟩:∃w5,wr.alloc (.cells #[.pointer (some a)] 24)=w5:=⟨_,rfl⟩;have u5:Up wr w5:=by rw[<- hw5];exact(Up.refl _).alloc _
   have how:=zR6 ho u5;rw[hN] at how;have HCE:Hid (∀(j:Nat) u,[Value.pointer (some a)][j]? = some u->w5.cell? ((⟨wr.heap.size,0,none⟩:Addr).add j)=some u):=Lib.hid (by rw[<- hw5];exact cell_one_new _ _ _);have hz5:=u5.size;have hW5:w.heap.size<=w5.heap.size:=by omega
   have HLT:=Lib.hid hown;have HNN:=Lib.hid hN;have HRR:=Lib.hid hR;have HPP:=Lib.hid hp;have HTT:=Lib.hid hT;have HT1:=Lib.hid ht;have HOW:=Lib.hid how;have HW5:=Lib.hid hw5;have U5:=Lib.hid u5;have HM:=Lib.hid hmes;have hnil:=zZ2 wr a;clear hg ho hR hp hT ht how hw5 u5 hN hown hmes ha hl6
   go_wp2_with (at_builtin;rw[HW5.out];refine wpList_append_lies _ rfl _ _ 33 rfl w.heap.size 24 i0 _ 1 8 Tryz.underlying33 hi0 hz0 hz1 hz2 rfl (by omega) (.slice sA N sc) N ps rfl HOW.out ⟨wr.heap.size,0,none⟩ 1 1 [.pointer (some a)] rfl rfl HCE.out (by intro u hu;rw[List.mem_singleton.1 hu];rfl) (by omega) (by unfold maxLen;omega) (by omega) hW5 w5.heap.size rfl ?_;intro g6 cap6 w6 ho6 hg6 hat6 hlt6)
   have hG6:Gs (On b) w w6:=(HG.out.trans (Gs.of U5.out)).grown hg6 fun g hg=>.inr (HLT.out g hg).1
   have hp6:Psr w6 b v j 0:=(hg6.block b (by omega) fun e=>by have:=(HLT.out b e.symm).1;omega).trans (U5.out.row HPP.out);have hlen6:(ps++[Value.pointer (some a)]).length=N+1:=by rw[List.length_append,HNN.out];rfl
   rw[<- hlen6] at ho6;have HO6:=Lib.hid ho6;have HG6:=Lib.hid hG6;have hT6:RwT w w6 (.slice (some ⟨g6,0,none⟩) (N+1) cap6) (ps++[.pointer (some a)]) (acc.app (fr1 t)):=HTT.out.push HT1.out U5.out rfl hg6 hat6;have HT6:=Lib.hid hT6;have hg6W:∀g,(Value.slice (some ⟨g6,0,none⟩) (N+1) cap6).ownBlock=some g->g<w6.heap.size:=fun g hg=>by
    have e:g6=g:=Option.some.inj hg;have hz:=hg6.size
    rcases hat6 with h | h
    ·have:=(HLT.out g6 h).2;omega
    ·exact e▸hlt6
   have hz6:=hG6.size;have cX:=HCP.out (j,0) hj (fun _=>⟨h0,by show i<=j;omega⟩) w6 hG6 hp6;clear ho6 hg6 hat6 hlt6 hG6 hp6 hT6;rw[HE.out,Oper.upon_enter];refine cX.mono ?_;rintro en w7 ⟨hP,-⟩;obtain⟨A7,rfl,g7,st7,m7⟩:=bU (l:=l) (i:=i) (W:=w) (F:=F) (R:=R) (HF.out n j (acc.app (fr1 t)) (by omega)) (HPR.out j hj) hj (by omega) HRR.out hb HT6.out hg6W hz6 (by omega) hP;subst h0;have ST7:=Lib.hid st7;have G7:=Lib.hid g7;clear st7 g7 hP cX;go_wp2_with fail
   go_roundw
   case rel=>exact⟨A7,ps++[.pointer (some a)],rfl,by rw[hlen6];exact kY (by rw[<- hlen6];exact HO6.out) G7.out (fun k hk=>by rw[hk];exact hb),HG6.out.trans G7.out,ST7.out⟩
   case measure=>rw[HM.out];exact m7
end
end Go.Proofs.YtgeghilbikljcaaGreatDoor
