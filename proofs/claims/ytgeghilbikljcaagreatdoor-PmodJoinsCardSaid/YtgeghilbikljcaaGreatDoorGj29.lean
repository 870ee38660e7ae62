/-
  Layer 8, the program: decls; all rules (written by gmn.py).
-/
import Derived.Test.YtgeghilbikljcaaGreatDoorGj06
import Derived.Test.YtgeghilbikljcaaGreatDoorGj27
import Derived.Test.YtgeghilbikljcaaGreatDoorGj28
import Derived.ArgAppend
import Derived.Deep.DeepCutAuto
import Derived.Deep.Fields
import Derived.Deep.OwnRows
import Derived.Deep.Slices
import Derived.LaidEqlPtr
import Derived.Laws.EntriesVeiled
set_option maxHeartbeats 40000000
set_option maxRecDepth 100000
namespace Go.Proofs.YtgeghilbikljcaaGreatDoor
open Go.RowKit
theorem zYu:EntF 52:=fun _ _=>by kernel_rfl
theorem KidsP.base {W0 W w:World} {v:Value} {f:Fr} (h:KidsP W w v f) (hz:W0.heap.size<=W.heap.size):KidsP W0 w v f:=by
 obtain⟨A,c,h1,h2,h4⟩:=h;refine⟨A,c,h1,h2,fun h0=>?_⟩;obtain⟨q,hA,hq,hf⟩:=h4 h0;exact⟨q,hA,⟨by have:=hq.1;omega,hq.2⟩,InF.keep (fun q hq=>⟨by have:=hq.1;omega,hq.2⟩) (fun _ _=>rfl) hq hf⟩
section
variable {V0:World} {v:Value} {l:List Te} {b:Nat}
def on9 (l:List Te) (n:Nat):UInt8->Nat->Rs Tr:=oneS (typL B.nck B.long (tks l)) (exprF B.nck B.long l n) (modF B.nck B.long l n) (sigF B.nck B.long l n)
theorem zJ0 (n i:Nat):modF B.nck B.long l (n+1) i=thn (primS B.nck B.long l (modF B.nck B.long l n) (declF B.nck B.long l n false) i) fun m j=>sealS l (sigF B.nck B.long l n) (n+1) m j:=by rw[modF]
theorem zJ1 (n i:Nat):sigF B.nck B.long l (n+1) i=thn (bodyS B.nck l (specF B.nck B.long l n) i) fun s j=>zV B.nck B.long l (on9 l n) (n+1) s j:=by rw[sigF];rfl
theorem zNr (n:Nat) (top:Bool) (i:Nat):declF B.nck B.long l (n+1) top i=manyS B.nck B.long l (on9 l n) declR top (n+1) i .nil:=by rw[declF];rfl
theorem zNs (n i:Nat):specF B.nck B.long l (n+1) i=manyS B.nck B.long l (on9 l n) specR false (n+1) i .nil:=by rw[specF];rfl
theorem zQr (n:Nat):OneIn l (on9 l n):=vK (fun _ hj=>lV hj) (fun _ hj=>iD hj)
theorem zWr (O:UInt8->Nat->Rs Tr) (t:List Rw8) (top:Bool) (n j:Nat) (acc:Fr) (hn:0<n):manyS B.nck B.long l O t top n j acc=thn (rowsS B.nck B.long l O top t j) fun o q=>match o with
  | none=>.inl (acc,j)
  | some x=>manyS B.nck B.long l O t top (n-1) q (acc.app (fr1 x)):=by
 obtain⟨k,rfl⟩:∃k,n=k+1:=⟨n-1,by omega⟩
 rfl
theorem zUg (n:Nat) (top:Bool):rowsS B.nck B.long l (on9 l n) top declR=declP B.nck B.long l (typL B.nck B.long (tks l)) (exprF B.nck B.long l n) (modF B.nck B.long l n) (sigF B.nck B.long l n) (fun j=>consL B.nck B.long (tks l) j .nil) top:=funext fun i=>by
 rw[zYj]
 rfl
theorem zUh (n:Nat):rowsS B.nck B.long l (on9 l n) false specR=specP B.nck B.long l (typL B.nck B.long (tks l)) (sigF B.nck B.long l n) (fun j=>consL B.nck B.long (tks l) j .nil):=funext fun i=>by
 rw[zYi]
 rfl
theorem zNt (top:Bool) (B1 B2:Nat) (w:World) (Q:Option Addr->World->Prop) (c1:w.cell? ⟨B1,0,none⟩=some (.pointer (some ⟨b,0,none⟩))) (c2:w.cell? ⟨B2,0,none⟩=some (.bool top))
  (cD:Calls Tryz.prog 53 #[.agg #[.pointer (some ⟨b,0,none⟩)],.bool top] w fun en w'=>∃A,en = .returned (.pointer A)/\Q A w') :
  Calls Tryz.prog 52 #[.pointer (some ⟨B1,0,none⟩),.pointer (some ⟨B2,0,none⟩)] w fun en w'=>∃A,en = .returned (.pointer A)/\Q A w':=by
 go_enter Tryz.func52,Tryz.ntmps52
 go_wp2_with fail;refine cD.mono ?_;rintro en w1 ⟨A,rfl,h⟩;have H:=Lib.hid h;clear h;go_wp2_with fail
 go_ret
 exact⟨A,rfl,H.out⟩
theorem zYv (top:Bool) (B1 B2:Nat) (w:World) (Q:Ending->World->Prop) (c1:w.cell? ⟨B1,0,none⟩=some (.pointer (some ⟨b,0,none⟩))) (c2:w.cell? ⟨B2,0,none⟩=some (.bool top)) (hQ:∀en w',Q en w'->∃A:Option Addr,en = .returned (.pointer A))
  (cD:Calls Tryz.prog 53 #[.agg #[.pointer (some ⟨b,0,none⟩)],.bool top] w Q) :
  Calls Tryz.prog 52 #[.pointer (some ⟨B1,0,none⟩),.pointer (some ⟨B2,0,none⟩)] w Q:=
 (zNt top B1 B2 w (fun A w'=>Q (.returned (.pointer A)) w') c1 c2 (cD.mono fun en w' h=>by
  obtain⟨A,hA⟩:=hQ en w' h;exact⟨A,hA,hA▸h⟩)).mono fun en w' ⟨A,hA,h⟩=>hA▸h
theorem zQs (P:Px9 V0 v l b) (n:Nat) (hn2:2*l.length+2<=n) (top:Bool) (i:Nat) (e:Int) (hi:i<=l.length) (hn:e=0->l.length<n+1+i)
  (cM:∀s:SS,s.1<=l.length->(s.2=0->e=0/\i<s.1)->FnAt V0 v b 21 #[.agg #[.pointer (some ⟨b,0,none⟩)]] (modF B.nck B.long l n) s)
  (cS:∀s:SS,s.1<=l.length->(s.2=0->e=0/\i<s.1)->FnAt V0 v b 24 #[.agg #[.pointer (some ⟨b,0,none⟩)]] (sigF B.nck B.long l n) s) (w:World) (hu:Up V0 w) (h:Psr w b v i e) :
  Calls Tryz.prog 28 #[.agg #[.pointer (some ⟨b,0,none⟩)],.bool top] w (ManP b v (at0 (declF B.nck B.long l (n+1) top) (i,e)) w):=by
 have hb:b<w.heap.size:=qC h;have hbV:=P.Q.hb;have hll:=P.Q.hl;obtain⟨W0,hW0⟩:∃W0,w.alloc (.cells #[.pointer (some ⟨b,0,none⟩)] 51)=W0:=⟨_,rfl⟩;have u0:Up w W0:=by rw[<- hW0];exact(Up.refl w).alloc _
 have b1:W0.heap[w.heap.size]? = some (.cells #[.pointer (some ⟨b,0,none⟩)] 51 (0,0)):=by rw[<- hW0];exact heap_alloc_new w _
 have hgU:∀w',Gs (On b) W0 w'->Up V0 w':=fun w' g=>g.up (hu.trans u0) fun q hq=>by rw[hq];exact hbV
 have hgB:∀w',Gs (On b) W0 w'->w'.cell? ⟨w.heap.size,0,none⟩=some (.pointer (some ⟨b,0,none⟩)):=fun w' g=>cell_of_row w' w.heap.size 0 _ _ _ (g.row b1 (by unfold On;omega))
 have hzW0:W0.heap.size=w.heap.size+1:=by rw[<- hW0];simp
 have k0:=hgB W0 (Gs.refl _ _);have p0:=h.up u0;obtain⟨W1,hW1⟩:∃W1,W0.alloc (.cells #[.bool top] 4)=W1:=⟨_,rfl⟩;have u1:Up W0 W1:=by rw[<- hW1];exact(Up.refl W0).alloc _
 have z1:W1.heap.size=w.heap.size+2:=by rw[<- hW1];simp;omega
 have r1:=u1.row b1;have r2:W1.heap[w.heap.size+1]? = some (.cells #[.bool top] 4 (0,0)):=by rw[<- hW1];exact yU W0 _ hzW0
 have hV1:Up V0 W1:=(hgU W0 (Gs.refl _ _)).trans u1;have hF:at0 (declF B.nck B.long l (n+1) top) (i,e)=at0 (fun j=>manyS B.nck B.long l (on9 l n) declR top (n+1) j .nil) (i,e):=by rw[funext (zNr n top)]
 have cMy:=zZ3 (l:=l) (v:=v) (b:=b) 52 #[] #[.pointer (some ⟨w.heap.size,0,none⟩),.pointer (some ⟨w.heap.size+1,0,none⟩)] _ rfl zYu (rowsS B.nck B.long l (on9 l n) top declR) (fun j hj=>sI (zQr n) top declR j hj) (fun n j acc=>manyS B.nck B.long l (on9 l _) declR top n j acc) (fun m j acc hm=>zWr _ _ _ m j acc hm) hll i e hi (n+1) hn W1 (p0.up u1) (fun s hs h0 w' g p=>by
  have gW:Up V0 w':=g.up hV1 fun q hq=>by rw[hq];exact hbV
  have cD:=zNq P (modF B.nck B.long l n) (sigF B.nck B.long l n) (fun _ hj=>(lV hj).weak) (fun _ hj=>(iD hj).weak) n hn2 top s.1 s.2 hs (Lib.hid fun t ht h1=>cM t ht fun h2=>(by obtain⟨a,c⟩:=h1 h2;obtain⟨a2,c2⟩:=h0 a;exact⟨a2,by omega⟩)) (Lib.hid fun t ht h1=>cS t ht fun h2=>(by obtain⟨a,c⟩:=h1 h2;obtain⟨a2,c2⟩:=h0 a;exact⟨a2,by omega⟩)) w' gW p;rw[<- zUg] at cD;exact zYv top w.heap.size (w.heap.size+1) w' _ (cell_of_row w' _ 0 _ _ _ (g.row r1 (by unfold On;omega))) (cell_of_row w' _ 0 _ _ _ (g.row r2 (by unfold On;omega))) (fun en w2 hq=>by obtain⟨⟨A,hA,_⟩,_⟩:=hq;exact⟨A,hA⟩) cD)
 obtain⟨G,hG⟩:∃G,at0 (declF B.nck B.long l (n+1) top) (i,e)=G:=⟨_,rfl⟩;rw[<- hF,hG] at cMy;rw[hG];have HW1:=Lib.hid hW1;have U1:=Lib.hid u1;have HPX:=Lib.hid P;have HGU:=Lib.hid hgU;have HGB:=Lib.hid hgB;have HW0:=Lib.hid hW0;have U0:=Lib.hid u0;have B1:=Lib.hid b1;have P0:=Lib.hid p0;clear hW0 u0 b1 h hu P hgU hgB p0;clear hG hF hW1 u1 hV1 r1 r2 cM cS hn
 go_enter Tryz.func28,Tryz.ntmps28
 go_wp2_with fail;rw[HW0.out,HW1.out];refine cMy.mono ?_;rintro en w2 ⟨A,n,c,rfl,g2,p2,k2⟩;have G2:=Lib.hid g2;have P2:=Lib.hid p2;have K2:=Lib.hid k2;clear g2 p2 k2 cMy;go_wp2_with fail
 go_ret
 exact⟨_,_,_,rfl,(Gs.of (U0.out.trans U1.out)).trans G2.out,P2.out,fun f j hf=>(K2.out f j hf).base (by omega)⟩
theorem zWs {R R':Nat->Rs Tr} {s:SS} (h:¬s.2=0):at0 R s=at0 R' s:=(qM R h).trans (qM R' h).symm
def noM (i:Nat):Rs Tr:=.inr (i,6)
def noD (i:Nat):Rs Fr:=.inr (i,6)
theorem zYw:∀j,j<=l.length->In l.length j (noM j):=fun _ hj=>⟨Nat.le_refl _,hj,.inl rfl⟩
theorem iJ:∀j,j<=l.length->In0 l.length j (noD j):=fun _ hj=>⟨Nat.le_refl _,hj,.inl rfl⟩
theorem zNu (P:Px9 V0 v l b) (R:Nat->Rs Tr) (s:SS) (hs:s.1<=l.length) (he:¬s.2=0):FnAt V0 v b 24 #[.agg #[.pointer (some ⟨b,0,none⟩)]] R s:=by
 intro w hu h;rw[zWs (R':=fun i=>thn (bodyS B.nck l noD i) fun m j=>zV B.nck B.long l (on9 l 0) 0 m j) he];exact zQq P (bodyS B.nck l noD) (on9 l 0) rfl (fun j hj=>(sK iJ hj).weak) 0 s.1 s.2 hs (fun h0=>absurd h0 he) (zWp P noD iJ s.1 s.2 hs fun hk=>absurd (vN hk) he) w hu h
theorem zNv (P:Px9 V0 v l b) (R:Nat->Rs Tr) (s:SS) (hs:s.1<=l.length) (he:¬s.2=0):FnAt V0 v b 21 #[.agg #[.pointer (some ⟨b,0,none⟩)]] R s:=by
 intro w hu h;rw[zWs (R':=fun i=>thn (primS B.nck B.long l noM noD i) fun m j=>sealS l noM 0 m j) he];exact zQp P (primS B.nck B.long l noM noD) noM (fun j hj=>(sJ zYw iJ hj).weak) (fun j hj=>(zYw j hj).weak) 0 s.1 s.2 hs (fun h0=>absurd h0 he) (zWq P noM noD (fun j hj=>(zYw j hj).weak) iJ s.1 s.2 hs (fun hk=>absurd (vN hk) he) fun _ _ h0=>absurd h0 he) (fun _ _ _ h0=>absurd h0 he) w hu h
def zJ2 (V0:World) (v:Value) (b:Nat) (R:Nat->Rs Fr) (s:SS):Prop:=∀w,Up V0 w->Psr w b v s.1 s.2->Calls Tryz.prog 51 #[.func (.func 74) #[.agg #[.pointer (some ⟨b,0,none⟩)]] #[]] w (ManP b v (at0 R s) w)
def zJ3 (V0:World) (v:Value) (b:Nat) (top:Bool) (R:Nat->Rs Fr) (s:SS):Prop:=∀w,Up V0 w->Psr w b v s.1 s.2->Calls Tryz.prog 28 #[.agg #[.pointer (some ⟨b,0,none⟩)],.bool top] w (ManP b v (at0 R s) w)
theorem zYx (P:Px9 V0 v l b):∀n:Nat,(∀i,i<=l.length->3*l.length+4<=n+i->FnAt V0 v b 21 #[.agg #[.pointer (some ⟨b,0,none⟩)]] (modF B.nck B.long l n) (i,0))/\(∀i,i<=l.length->3*l.length+4<=n+i->FnAt V0 v b 24 #[.agg #[.pointer (some ⟨b,0,none⟩)]] (sigF B.nck B.long l n) (i,0))
  /\(∀top i,i<=l.length->3*l.length+4<=n+i->zJ3 V0 v b top (declF B.nck B.long l n top) (i,0))/\(∀i,i<=l.length->3*l.length+4<=n+i->zJ2 V0 v b (specF B.nck B.long l n) (i,0))
 | 0=>⟨fun i hi h=>absurd h (by omega),fun i hi h=>absurd h (by omega),fun _ i hi h=>absurd h (by omega),fun i hi h=>absurd h (by omega)⟩
 | n+1=>by
  obtain⟨hM,hS,hD,hP⟩:=zYx P n;have fM:∀i,3*l.length+4<=n+1+i->∀s:SS,s.1<=l.length->(s.2=0->i<s.1)->FnAt V0 v b 21 #[.agg #[.pointer (some ⟨b,0,none⟩)]] (modF B.nck B.long l n) s:=fun i hb s hs h0=>by
   by_cases he:s.2=0
   ·obtain⟨j,e⟩:=s
    have he:e=0:=he;subst he;have:=h0 rfl;have:i<j:=this;exact hM j hs (by omega)
   ·exact zNv P _ s hs he
  have fS:∀i,3*l.length+4<=n+1+i->∀s:SS,s.1<=l.length->(s.2=0->i<s.1)->FnAt V0 v b 24 #[.agg #[.pointer (some ⟨b,0,none⟩)]] (sigF B.nck B.long l n) s:=fun i hb s hs h0=>by
   by_cases he:s.2=0
   ·obtain⟨j,e⟩:=s
    have he:e=0:=he;subst he;have:=h0 rfl;have:i<j:=this;exact hS j hs (by omega)
   ·exact zNu P _ s hs he
  refine⟨fun i hi hb=>?_,fun i hi hb=>?_,fun top i hi hb=>?_,fun i hi hb=>?_⟩
  ·rw[funext (zJ0 n)]
   refine zQp P _ (sigF B.nck B.long l n) (fun j hj=>(sJ (fun _ hj=>lV hj) (fun _ hj=>xW hj) hj).weak) (fun _ hj=>(iD hj).weak) (n+1) i 0 hi (fun _=>by omega) ?_ fun s hs h0 _=>fS i hb s hs fun h1=>(h0 h1).2
   exact zWq P _ _ (fun _ hj=>(lV hj).weak) (fun _ hj=>xW hj) i 0 hi (fun hk w' u p=>hD false (i+1) (yK hi hk) (by omega) w' u p) fun j hj _ hij=>hM j hj (by omega)
  ·rw[funext (zJ1 n)]
   refine zQq P _ (on9 l n) rfl (fun j hj=>(sK (fun _ hj=>(jK n).2.2.2 _ hj) hj).weak) (n+1) i 0 hi (fun _=>by omega) ?_;exact zWp P _ (fun _ hj=>(jK n).2.2.2 _ hj) i 0 hi fun hk w' u p=>hP (i+1) (yK hi hk) (by omega) w' u p
  ·intro w hu h
   exact zQs P n (by omega) top i 0 hi (fun _=>by omega) (fun s hs h0=>fM i hb s hs fun h1=>(h0 h1).2) (fun s hs h0=>fS i hb s hs fun h1=>(h0 h1).2) w hu h
  ·intro w hu h
   rw[funext (zNs n)];refine zZ3 (l:=l) 74 #[.agg #[.pointer (some ⟨b,0,none⟩)]] #[] #[.agg #[.pointer (some ⟨b,0,none⟩)]] (by simp) zQ8 (rowsS B.nck B.long l (on9 l n) false specR) (fun j hj=>sI (zQr n) false specR j hj) (fun m j acc=>manyS B.nck B.long l (on9 l n) specR false m j acc) (fun m j acc hm=>zWr _ _ _ m j acc hm) P.Q.hl i 0 hi (n+1) (fun _=>by omega) w h fun s hs h0 w' g p=>?_
   rw[zUh];exact zNm P _ (fun _ hj=>(iD hj).weak) s.1 s.2 hs (Lib.hid fun t ht h1=>fS i hb t ht fun h2=>(by obtain⟨a,c⟩:=h1 h2;obtain⟨a2,c2⟩:=h0 a;omega)) w' (g.up hu fun q hq=>by rw[hq];exact P.Q.hb) p
end
theorem moLit (b:Nat) (P:Option Addr->World->Prop) (w:World) (cA:Calls Tryz.prog 21 #[.agg #[.pointer (some ⟨b,0,none⟩)]] w fun e w'=>∃A,e = .returned (.pointer A)/\P A w') :
  Calls Tryz.prog 20 #[.pointer (some ⟨b,0,none⟩)] w fun e w'=>∃A,e = .returned (.pointer A)/\P A w':=by
 go_enter Tryz.func20,Tryz.ntmps20
 go_wp2_with fail;refine cA.mono ?_;rintro en w1 ⟨A,rfl,h⟩;have H:=Lib.hid h;clear h;go_wp2_with fail
 go_ret
 exact⟨A,rfl,H.out⟩
theorem zNw (v:Value) (i:Int) (P:Value->Int->Int->World->Prop) (w:World) (cP:Calls Tryz.prog 19 #[v,.int .i64 i,.func (.func 20) #[] #[]] w fun e w'=>∃u j r,e = .returned (.tuple #[u,.int .i64 j,.int .i64 r])/\P u j r w') :
  Calls Tryz.prog 8 #[v,.int .i64 i] w fun e w'=>∃u j r,e = .returned (.tuple #[u,.int .i64 j,.int .i64 r])/\P u j r w':=by
 go_enter Tryz.func8,Tryz.ntmps8
 go_wp2_with fail;refine cP.mono ?_;rintro en w1 ⟨u,j,r,rfl,h⟩;have H:=Lib.hid h;clear h;go_wp2_with fail
 go_ret3
 exact⟨u,j,r,rfl,H.out⟩
theorem pMod (l:List Te) (i:Int) (hl:l.length<=100000) (hz:∀t∈l,t.t.s.size<=1000000000) (m:Nat) (hm:3*l.length+4<=m) (w:World) (v:Value) (hv:Tke w v l) (hx:B.Nx w) (hp:Pl w) (ho:Op7 w) :
  Calls Tryz.prog 8 #[v,.int .i64 i] w (lO (modZ B.nck B.long l m i) w):=by
 have hv0:=hv;obtain⟨A,c,rfl,-⟩:=hv;have key:Calls Tryz.prog 8 #[.slice A l.length c,.int .i64 i] w fun e w'=>∃u j r,e = .returned (.tuple #[u,.int .i64 j,.int .i64 r])/\RtV (modZ B.nck B.long l m i) w w' u j r/\Up w w':=by
  refine zNw _ i (fun u j r w'=>RtV (modZ B.nck B.long l m i) w w' u j r/\Up w w') w ?_
  by_cases h:i<0\/(l.length:Int)<i
  ·unfold modZ
   rw[if_pos h];exact(wJ A l.length c i _ w h).mono fun e w' ⟨h1,h2⟩=>⟨_,_,_,h1,⟨rfl,rfl,rfl⟩,h2⟩
  ·have he:modZ B.nck B.long l m i=modF B.nck B.long l m i.toNat:=if_neg h
   rw[he];obtain⟨k,rfl⟩:=Int.eq_ofNat_of_zero_le (by omega:0<=i);have hk:k<=l.length:=by omega
   rw[Int.toNat_natCast];have hzt:∀t∈tks l,t.s.size<=1000000000:=fun t ht=>by
    obtain⟨u,hu,rfl⟩:=List.mem_map.1 ht;exact hz u hu
   have Q:Px9 w (.slice A l.length c) l w.heap.size:=⟨⟨mE hv0.tkm hzt hx,ho,Nat.le_refl _,hl⟩,hv0,hx,hp,hz⟩;have up:=mF w (.slice A l.length c) k;have cA:=(zYx Q m).1 k hk (by omega) _ up (wH w _ k);rw[qG] at cA;have hin:=lV (nk:=B.nck) (lg:=B.long) (l:=l) (n:=m) hk;have gu:∀w',Gs (On w.heap.size) (parW w (.slice A l.length c) k) w'->Up w w':=fun w' g=>g.up up fun q hq=>by rw[hq];exact Nat.le_refl _
   cases hT:modF B.nck B.long l m k with
   | inr e=>
    obtain⟨p,r⟩:=e;rw[hT] at cA;have hr:¬r=0:=hin.ne hT;refine(wK A l.length c k p r 20 (fun _ _=>by kernel_rfl) w hk hr ?_).mono fun e w' ⟨h1,h2⟩=>⟨_,_,_,h1,⟨rfl,rfl,rfl⟩,h2⟩
    refine(moLit w.heap.size (fun _ w'=>Up w w'/\Psr w' w.heap.size (.slice A l.length c) p r) _ (cA.mono fun e w' ⟨B,h1,g,h2⟩=>⟨B,h1,gu w' g,h2⟩)).mono fun e w' ⟨B,h1,h2,h3⟩=>⟨⟨_,h1⟩,h2,h3⟩
   | inl e=>
    obtain⟨t,j⟩:=e;rw[hT] at cA;refine(fL A l.length c k j 20 (fun _ _=>by kernel_rfl) (fun u w'=>NewT w w' u t) w hk ?_ (fun u w' q h=>h.drewN q)).mono fun e w' ⟨u,h1,h2,h3⟩=>⟨_,_,_,h1,⟨h2,rfl,rfl⟩,h3⟩
    refine(moLit w.heap.size (fun B w'=>NewT w w' (.pointer B) t/\Up w w'/\Psr w' w.heap.size (.slice A l.length c) j 0) _ (cA.mono fun e w' ⟨B,h1,g,h2,h3,_⟩=>⟨B,h1,h2.base up.size,gu w' g,h3⟩)).mono fun e w' ⟨B,h1,h2,h3,h4⟩=>⟨⟨_,h1,h2⟩,h3,h4⟩
 exact key.mono fun e w' ⟨u,j,r,h1,h2,h3⟩=>⟨u,j,r,h1,h2,h3⟩
theorem zZ6 (A:Option Addr) (n c:Nat) (i p:Nat) (r:Int) (k:FuncId) (cap:Array Value) (hE:EntF k) (w:World) (hi:i<=n) (hr:¬r=0)
  (cR:Calls Tryz.prog k (#[.pointer (some ⟨w.heap.size,0,none⟩)]++cap) (parW w (.slice A n c) i) fun e w'=>(∃u,e = .returned u)/\Up w w'/\Psr w' w.heap.size (.slice A n c) p r) :
  Calls Tryz.prog 26 #[.slice A n c,.int .i64 (i:Int),.func (.func k) #[] cap] w fun e w'=>e = .returned (.tuple #[.slice none 0 0,.int .i64 (p:Int),.int .i64 r])/\Up w w':=by
 have h0:¬(i:Int)<0:=by omega
 have h1:¬(n:Int)<(i:Int):=by omega
 have HE:=Lib.hid hE;have HW:Hid (parW w (.slice A n c) i=w.alloc (.cells #[.slice A n c,.int .i64 (i:Int),.int .i64 0] 67)):=Lib.hid rfl;have HC:=Lib.hid cR;clear cR hE
 go_enter Tryz.func26,Tryz.ntmps26
 go_wp2_with fail;rw[HE.out,Oper.upon_enter];refine Calls.mono HC.out ?_;rintro en w1 ⟨⟨u,rfl⟩,u1,h⟩;obtain⟨c0,c1,c2,f1,f2⟩:=h.cells;have U1:=Lib.hid u1;clear u1 h HC;go_wp2_with fail
 go_quiet (fail)
 go_wp2_with fail
 go_ret3
 exact⟨rfl,U1.out.drewN _⟩
theorem zYy (A:Option Addr) (n c:Nat) (i j:Nat) (k:FuncId) (cap:Array Value) (hE:EntF k) (P:Value->World->Prop) (w:World) (hi:i<=n)
  (cR:Calls Tryz.prog k (#[.pointer (some ⟨w.heap.size,0,none⟩)]++cap) (parW w (.slice A n c) i) fun e w'=>(∃u,e = .returned u/\P u w')/\Up w w'/\Psr w' w.heap.size (.slice A n c) j 0)
  (hP:∀u w' q,P u w'->P u (w'.drewN q)) :
  Calls Tryz.prog 26 #[.slice A n c,.int .i64 (i:Int),.func (.func k) #[] cap] w fun e w'=>∃u,e = .returned (.tuple #[u,.int .i64 (j:Int),.int .i64 0])/\P u w'/\Up w w':=by
 have h0:¬(i:Int)<0:=by omega
 have h1:¬(n:Int)<(i:Int):=by omega
 have HE:=Lib.hid hE;have HPD:=Lib.hid hP;have HC:=Lib.hid cR;clear cR hE hP
 go_enter Tryz.func26,Tryz.ntmps26
 go_wp2_with fail;rw[HE.out,Oper.upon_enter];refine Calls.mono HC.out ?_;rintro en w1 ⟨⟨u,rfl,hu⟩,u1,h⟩;obtain⟨c0,c1,c2,f1,f2⟩:=h.cells;have U1:=Lib.hid u1;have HU:=Lib.hid hu;clear u1 h HC hu;go_wp2_with fail
 go_quiet (fail)
 go_wp2_with fail
 go_ret3
 exact⟨_,rfl,HPD.out _ _ _ HU.out,U1.out.drewN _⟩
def zJ4 (R:Rs Fr) (w:World) (e:Ending) (w':World):Prop:=∃A n c j er,e = .returned (.tuple #[.slice A n c,.int .i64 j,.int .i64 er])/\Up w w'/\match R with
 | .inl (f,q)=>KidsP w w' (.slice A n c) f/\j=(q:Int)/\er=0
 | .inr (p,r)=>j=(p:Int)/\er=r/\A=none/\n=0
theorem rM:EntF 27:=fun _ _=>by kernel_rfl
theorem dcLit (b:Nat) (B2:Nat) (top:Bool) (P:Value->World->Prop) (w:World) (c2:w.cell? ⟨B2,0,none⟩=some (.bool top)) (cA:Calls Tryz.prog 28 #[.agg #[.pointer (some ⟨b,0,none⟩)],.bool top] w fun e w'=>∃u,e = .returned u/\P u w') :
  Calls Tryz.prog 27 #[.pointer (some ⟨b,0,none⟩),.pointer (some ⟨B2,0,none⟩)] w fun e w'=>∃u,e = .returned u/\P u w':=by
 go_enter Tryz.func27,Tryz.ntmps27
 go_wp2_with fail;refine cA.mono ?_;rintro en w1 ⟨u,rfl,h⟩;have H:=Lib.hid h;clear h;go_wp2_with fail
 go_ret
 exact⟨u,rfl,H.out⟩
theorem zYz (v:Value) (i:Int) (top:Bool) (P:Value->Int->Int->World->Prop) (w:World) (cP:∀w1,w.alloc (.cells #[.bool top] 4)=w1->Calls Tryz.prog 26 #[v,.int .i64 i,.func (.func 27) #[] #[.pointer (some ⟨w.heap.size,0,none⟩)]] w1 fun e w'=>∃u j r,e = .returned (.tuple #[u,.int .i64 j,.int .i64 r])/\P u j r w') :
  Calls Tryz.prog 14 #[v,.int .i64 i,.bool top] w fun e w'=>∃u j r,e = .returned (.tuple #[u,.int .i64 j,.int .i64 r])/\P u j r w':=by
 obtain⟨w1,hw1⟩:∃w1,w.alloc (.cells #[.bool top] 4)=w1:=⟨_,rfl⟩;have cP:=cP w1 hw1;have HW:=Lib.hid hw1;clear hw1
 go_enter Tryz.func14,Tryz.ntmps14
 go_wp2_with fail;rw[HW.out];refine cP.mono ?_;rintro en w1 ⟨u,j,r,rfl,h⟩;have H:=Lib.hid h;clear h;go_wp2_with fail
 go_ret3
 exact⟨u,j,r,rfl,H.out⟩
theorem zJ5 (l:List Te) (top:Bool) (i:Int) (hl:l.length<=100000) (hz:∀t∈l,t.t.s.size<=1000000000) (m:Nat) (hm:3*l.length+4<=m) (w:World) (v:Value) (hv:Tke w v l) (hx:B.Nx w) (hp:Pl w) (ho:Op7 w) :
  Calls Tryz.prog 14 #[v,.int .i64 i,.bool top] w (zJ4 (declZ B.nck B.long l m top i) w):=by
 have hv0:=hv;obtain⟨A,c,rfl,-⟩:=hv;have key:Calls Tryz.prog 14 #[.slice A l.length c,.int .i64 i,.bool top] w fun e w'=>∃u j r,e = .returned (.tuple #[u,.int .i64 j,.int .i64 r])/\Up w w'/\∃A' n' c',u = .slice A' n' c'/\match declZ B.nck B.long l m top i with
   | .inl (f,q)=>KidsP w w' (.slice A' n' c') f/\j=(q:Int)/\r=0
   | .inr (p,er)=>j=(p:Int)/\r=er/\A'=none/\n'=0:=by
  refine zYz _ i top (fun u j r w'=>Up w w'/\∃A' n' c',u = .slice A' n' c'/\match declZ B.nck B.long l m top i with
   | .inl (f,q)=>KidsP w w' (.slice A' n' c') f/\j=(q:Int)/\r=0
   | .inr (p,er)=>j=(p:Int)/\r=er/\A'=none/\n'=0) w fun w1 hw1=>?_
  have u1:Up w w1:=by rw[<- hw1];exact(Up.refl w).alloc _
  have b1:w1.heap[w.heap.size]? = some (.cells #[.bool top] 4 (0,0)):=by rw[<- hw1];exact heap_alloc_new w _
  by_cases h:i<0\/(l.length:Int)<i
  ·have e:declZ B.nck B.long l m top i = .inr (0,2):=by unfold declZ;rw[if_pos h]
   rw[e];exact(pA A l.length c i _ w1 h).mono fun e w' ⟨h1,h2⟩=>⟨_,_,_,h1,u1.trans h2,none,0,0,rfl,rfl,rfl,rfl,rfl⟩
  ·have he:declZ B.nck B.long l m top i=declF B.nck B.long l m top i.toNat:=if_neg h
   rw[he];obtain⟨k,rfl⟩:=Int.eq_ofNat_of_zero_le (by omega:0<=i);have hk:k<=l.length:=by omega
   rw[Int.toNat_natCast];have hzt:∀t∈tks l,t.s.size<=1000000000:=fun t ht=>by
    obtain⟨u,hu,rfl⟩:=List.mem_map.1 ht;exact hz u hu
   have Q:Px9 w (.slice A l.length c) l w1.heap.size:=⟨⟨mE hv0.tkm hzt hx,ho,u1.size,hl⟩,hv0,hx,hp,hz⟩;have up:=mF w1 (.slice A l.length c) k;have cA:=(zYx Q m).2.2.1 top k hk (by omega) _ (u1.trans up) (wH w1 _ k);rw[qG] at cA;have hin:=xW (nk:=B.nck) (lg:=B.long) (l:=l) (n:=m) (top:=top) hk;have gu:∀w',Gs (On w1.heap.size) (parW w1 (.slice A l.length c) k) w'->Up w1 w':=fun w' g=>g.up up fun q hq=>by rw[hq];exact Nat.le_refl _
   have c2:(parW w1 (.slice A l.length c) k).cell? ⟨w.heap.size,0,none⟩=some (.bool top):=cell_of_row _ _ 0 _ _ _ (up.row b1)
   cases hT:declF B.nck B.long l m top k with
   | inr e=>
    obtain⟨p,r⟩:=e;rw[hT] at cA hin;have hr:¬r=0:=by have:=hin.2.2;omega
    refine(zZ6 A l.length c k p r 27 #[.pointer (some ⟨w.heap.size,0,none⟩)] rM w1 hk hr ?_).mono fun e w' ⟨h1,h2⟩=>⟨_,_,_,h1,u1.trans h2,none,0,0,rfl,rfl,rfl,rfl,rfl⟩
    refine(dcLit w1.heap.size w.heap.size top (fun _ w'=>Up w1 w'/\Psr w' w1.heap.size (.slice A l.length c) p r) _ c2 (cA.mono fun e w' ⟨A',n',c',h1,g,h2,_⟩=>⟨_,h1,gu w' g,h2⟩)).mono fun e w' ⟨B,h1,h2,h3⟩=>⟨⟨_,h1⟩,h2,h3⟩
   | inl e=>
    obtain⟨f,j⟩:=e;rw[hT] at cA;refine(zYy A l.length c k j 27 #[.pointer (some ⟨w.heap.size,0,none⟩)] rM (fun u w'=>∃A' n' c',u = .slice A' n' c'/\KidsP w w' (.slice A' n' c') f) w1 hk ?_ (fun u w' q h=>by obtain⟨A',n',c',hu,h2⟩:=h;exact⟨A',n',c',hu,h2.gs (Gs.of (S:=fun _=>False) ((Up.refl w').drewN q)) (fun _ h=>h.elim)⟩)).mono fun e w' ⟨u,h1,⟨A',n',c',hu,h2⟩,h3⟩=>⟨_,_,_,h1,u1.trans h3,A',n',c',hu,h2,rfl,rfl⟩
    refine(dcLit w1.heap.size w.heap.size top (fun u w'=>(∃A' n' c',u = .slice A' n' c'/\KidsP w w' (.slice A' n' c') f)/\Up w1 w'/\Psr w' w1.heap.size (.slice A l.length c) j 0) _ c2 (cA.mono fun e w' ⟨A',n',c',h1,g,h2,h3⟩=>⟨_,h1,⟨A',n',c',rfl,(h3 f j rfl).base (u1.trans up).size⟩,gu w' g,h2⟩)).mono fun e w' ⟨B,h1,h2,h3,h4⟩=>⟨⟨_,h1,h2⟩,h3,h4⟩
 exact key.mono fun e w' ⟨u,j,r,h1,h2,A',n',c',hu,h3⟩=>⟨A',n',c',j,r,by rw[h1,hu],h2,h3⟩
end Go.Proofs.YtgeghilbikljcaaGreatDoor
namespace Go.Proofs.YtgeghilbikljcaaGreatDoor
def jT:List Tk->List UInt8
 | []=>[]
 | [a]=>a.s.data.toList
 | a::b::r=>a.s.data.toList++32::jT (b::r)
def tB (ts:List Tk):ByteArray:=⟨(jT ts).toArray⟩
section
variable {nk lg:ByteArray->Bool}
end
end Go.Proofs.YtgeghilbikljcaaGreatDoor
namespace Go.Proofs.YtgeghilbikljcaaGreatDoor
open Go.RowKit
theorem nck7:∀s,B.nck s=true->s.size<=128:=fun s h=>by have:=(B.oO h).2;omega
theorem zMf:∀s,B.long s=true->s.size<=128:=fun _ h=>(B.pR.1 h).1
def txt (l:List Tk):List ByteArray:=l.map (·.s)
theorem uSize (o:Option Tr) {W w:World} {v:Value} (h:HasT W v o) (hz:szO o<=65536) (u:Up W w):Calls Tryz.prog 33 #[v] w (NuP (szO o) W):=
 (zLn o w _ v HasT.bel (h.up u) hz).mono fun _ _ k=>⟨k.1,u.of k.2⟩
theorem uDeep (o:Option Tr) {W w:World} {v:Value} (h:HasT W v o) (hz:szO o<=65536) (u:Up W w):Calls Tryz.prog 34 #[v] w (NuP (dpO o) W):=
 (zLo o w _ v HasT.bel (h.up u) hz).mono fun _ _ k=>⟨k.1,u.of k.2⟩
end Go.Proofs.YtgeghilbikljcaaGreatDoor
namespace Go.Proofs.YtgeghilbikljcaaGreatDoor
open Go.ChangeShapes Go.WideShapes Go.Deep Go.RowKit
def w5 (w:World) (a:Addr) (c:Cel) (kv:Value):Prop:=w.cell? (a.add 0)=some (.int .i64 c.x.k)/\w.cell? (a.add 1)=some (.int .i64 c.x.n)/\w.cell? (a.add 2)=some (.string c.x.a)/\w.cell? (a.add 3)=some (.string c.x.m)/\w.cell? (a.add 4)=some kv
end Go.Proofs.YtgeghilbikljcaaGreatDoor
namespace Go.Proofs.YtgeghilbikljcaaGreatDoor
open Go.RowKit
def opn:Tr:=(⟨76,0,⟨#[97]⟩,emp5⟩,.nil)
end Go.Proofs.YtgeghilbikljcaaGreatDoor
namespace Go.Proofs.YtgeghilbikljcaaGreatDoor
def Px7 (w:World):Prop:=Op7 w/\Pl w
theorem Px7.up {W w:World} (h:Px7 W) (u:Up W w):Px7 w:=⟨h.1.up u,h.2.up u⟩
end Go.Proofs.YtgeghilbikljcaaGreatDoor
namespace Go.Proofs.YtgeghilbikljcaaGreatDoor
open Go.RowKit
structure Vx7 (w:World):Prop where
 lx:B.Lx w
 px:Px7 w
theorem Vx7.up {W w:World} (h:Vx7 W) (u:Up W w):Vx7 w:=⟨B.Lx.below h.lx u,h.px.up u⟩
theorem Vx7.nx {w:World} (h:Vx7 w):B.Nx w:=⟨h.lx.2.1,h.lx.2.2.1⟩
def teq (t:B.Tok×Nat):Te:=⟨⟨t.1.k,B.T t.1.x⟩,t.1.n⟩
theorem zJ6 {w:World} {v:Value} {l:List (B.Tok×Nat)} (h:B.Tks w w.heap.size v l):Tke w v (l.map teq):=by
 obtain⟨A,c,hv,hc⟩:=h;refine⟨A,c,by rw[hv,List.length_map],fun j t ht=>?_⟩;rw[List.getElem?_map] at ht;obtain⟨x,hx,rfl⟩:=Option.map_eq_some_iff.1 ht;obtain⟨ad,hA,hlt,hcell⟩:=hc j x hx;have hj:j<l.length:=(List.getElem?_eq_some_iff.1 hx).1;obtain⟨x0,hx0⟩:∃x0,l[0]? = some x0:=⟨_,List.getElem?_eq_getElem (by omega)⟩;obtain⟨ad0,hA0,_,hcell0⟩:=hc 0 x0 hx0;have e0:ad0=ad:=by rw[hA] at hA0;exact(Option.some.inj hA0).symm
 subst e0;have h0:=hcell0 0 _ rfl;have hsp:ad0.spot=none:=by
  have e:ad0.add (0*4+0)=ad0:=by simp[Addr.add]
  rw[e] at h0;unfold World.cell? at h0
  cases hs:ad0.spot with
  | none=>rfl
  | some z=>
   rw[hs] at h0
   cases hh:w.heap[ad0.block]? with
   | none=>rw[hh] at h0;cases h0
   | some ob=>rw[hh] at h0;cases ob<;>simp at h0
 have ha:∀i,ad0.add i=⟨ad0.block,ad0.off+i,none⟩:=fun i=>by
  unfold Addr.add
  split
  ·rename_i hi
   subst hi;rw[<- hsp]
   rfl
  ·rfl
 have c0:=hcell 0 _ rfl;have c1:=hcell 1 _ rfl;have c2:=hcell 2 _ rfl;have c3:=hcell 3 _ rfl;rw[ha] at c0 c1 c2 c3;refine⟨ad0.block,ad0.off,?_,hlt,?_,?_,?_,(x.2:Int),?_⟩
 ·rw[hA,<- hsp]
 ·rw[Nat.add_zero] at c0;exact c0
 ·rw[<- Nat.add_assoc] at c1;exact c1
 ·rw[<- Nat.add_assoc] at c2;exact c2
 ·rw[<- Nat.add_assoc] at c3;exact c3
def tkq (t:B.Tok×Nat):Tk:=⟨t.1.k,B.T t.1.x⟩
theorem zQt {s:ByteArray} (hs:s.size<=16384) {l:List (B.Tok×Nat)} {a b:Int} (h:B.lexR s=(l,a,b)):l.length<=16384/\∀t∈l.map tkq,t.s.size<=1000000000:=by
 rcases B.jU h with ⟨_,_,L,hL,hl⟩ | ⟨_,rfl⟩
 ·have h1:=B.tN hL hl
  have h2:=(B.zXv _ L 0 l (Nat.le_refl _) hL.ok hL.rd hl).1;have hsz:B.sz L<=16384:=by rw[<- B.qO,hL.txt];exact hs
  refine⟨by omega,fun t ht=>?_⟩;obtain⟨x,hx,rfl⟩:=List.mem_map.1 ht;have h3:∀(xs:List (List Nat)) y,y∈xs->B.sz y<=B.tot xs:=by
   intro xs
   induction xs with
   | nil=>intro y hy;cases hy
   | cons z xs ih=>
    intro y hy
    rcases List.mem_cons.1 hy with rfl | hy
    ·show _<=B.sz y+1+B.tot xs;omega
    ·have:=ih y hy;show _<=B.sz z+1+B.tot xs;omega
  have h4:=h3 (l.map (·.1.x)) x.1.x (List.mem_map.2 ⟨x,hx,rfl⟩)
  show(B.T x.1.x).size<=_
  rw[B.qO];omega
 ·exact⟨Nat.zero_le _,fun t ht=>by cases ht⟩
end Go.Proofs.YtgeghilbikljcaaGreatDoor
namespace Go.Proofs.YtgeghilbikljcaaGreatDoor
section
variable {nk lg:ByteArray->Bool}
theorem zJ7:(116:UInt8)=116\/(116:UInt8)=101\/(116:UInt8)=109\/(116:UInt8)=115:=.inl rfl
theorem e101:(101:UInt8)=116\/(101:UInt8)=101\/(101:UInt8)=109\/(101:UInt8)=115:=.inr (.inl rfl)
theorem zNx:(109:UInt8)=116\/(109:UInt8)=101\/(109:UInt8)=109\/(109:UInt8)=115:=.inr (.inr (.inl rfl))
theorem zQu:(115:UInt8)=116\/(115:UInt8)=101\/(115:UInt8)=109\/(115:UInt8)=115:=.inr (.inr (.inr rfl))
theorem szP (k n:Int) (a m:ByteArray) (f:Fr):szT ((⟨k,n,a,m⟩,f):Tr)=1+f.sz:=rfl
theorem fO (a:Tr):(fr1 a).sz=szT a:=by unfold szT;simp only[fr1,Fr.sz];omega
theorem iK (a b:Tr):(fr2 a b).sz=szT a+szT b:=by unfold szT;simp only[fr2,fr1,Fr.sz];omega
theorem xA (f:Fr):Fr.app .nil f=f:=rfl
theorem zWt (a b:Tr):(fr1 a).app (fr1 b)=fr2 a b:=rfl
def TreeR (r:Rw8) (p:Pa):Tr:=(⟨r.k,0,p.nm,p.mrk⟩,p.ks)
def RowOk (nk lg:ByteArray->Bool) (c:Int) (r:Rw8):Prop:=∀i p j,dC nk lg r.sh ⟨nob,nob,.nil⟩ (i+1) p j->Ok8 nk lg c i (TreeR r p) j
theorem zX0 {c k:Int} {w:ByteArray} {f:Option ByteArray} (hr:(⟨c,k,[110],[],0,0,[116]⟩:Rw)∈RWS) (sh:List UInt8) (hs:sh=[110,58,116]\/sh=[110,61,116]):RowOk nk lg c ⟨w,k,sh,f⟩:=by
 intro i p j h
 rcases hs with rfl | rfl <;>
 ·obtain⟨s,hs,t,m,⟨h1,h2⟩,rfl,rfl⟩:=h
  exact⟨wI _ hr rfl rfl hs rfl (Int.le_refl 0) (Int.le_refl 0) (zYf zJ7 h1),by unfold TreeR;rw[szP,xA,fO];omega⟩
theorem row_n {c k:Int} {w:ByteArray} {f:Option ByteArray} (hr:(⟨c,k,[110],[],0,0,[]⟩:Rw)∈RWS):RowOk nk lg c ⟨w,k,[110],f⟩:=by
 rintro i p j ⟨s,hs,rfl,rfl⟩;exact⟨wI _ hr rfl rfl hs rfl (Int.le_refl 0) (Int.le_refl 0) rfl,by unfold TreeR;rw[szP];show 1+0+1+2*i<=_;omega⟩
theorem zMg {c k:Int} {w:ByteArray} {f:Option ByteArray} (hr:(⟨c,k,[108],[],0,0,[]⟩:Rw)∈RWS):RowOk nk lg c ⟨w,k,[108],f⟩:=by
 rintro i p j ⟨s,hs,rfl,rfl⟩;exact⟨wI _ hr rfl rfl hs rfl (Int.le_refl 0) (Int.le_refl 0) rfl,by unfold TreeR;rw[szP];show 1+0+1+2*i<=_;omega⟩
theorem zQv {c k:Int} {w:ByteArray} {f:Option ByteArray} (hr:(⟨c,k,[110],[],0,0,[67]⟩:Rw)∈RWS):RowOk nk lg c ⟨w,k,[110,61,99],f⟩:=by
 rintro i p j ⟨s,hs,t,m,⟨h1,h2,h3⟩,rfl,rfl⟩;exact⟨wI _ hr rfl rfl hs rfl (Int.le_refl 0) (Int.le_refl 0) (seqC h1 h3),by show 1+t.sz+1+2*i<=2*m;omega⟩
theorem zQw {c k:Int} {w:ByteArray} {f:Option ByteArray} (hr:(⟨c,k,[110],[],0,0,[115]⟩:Rw)∈RWS) (sh:List UInt8) (hs:sh=[110,58,115]\/sh=[110,61,115]):RowOk nk lg c ⟨w,k,sh,f⟩:=by
 intro i p j h
 rcases hs with rfl | rfl <;>
 ·obtain⟨s,hs,t,m,⟨h1,h2⟩,rfl,rfl⟩:=h
  exact⟨wI _ hr rfl rfl hs rfl (Int.le_refl 0) (Int.le_refl 0) (zYf zQu h1),by unfold TreeR;rw[szP,xA,fO];omega⟩
theorem zJ8 {c k:Int} {w:ByteArray} {f:Option ByteArray} (hr:(⟨c,k,[110],[],0,0,[109]⟩:Rw)∈RWS):RowOk nk lg c ⟨w,k,[110,61,109],f⟩:=by
 rintro i p j ⟨s,hs,t,m,⟨h1,h2⟩,rfl,rfl⟩;exact⟨wI _ hr rfl rfl hs rfl (Int.le_refl 0) (Int.le_refl 0) (zYf zNx h1),by unfold TreeR;rw[szP,xA,fO];omega⟩
theorem zJ9 {c k:Int} {w:ByteArray} {f:Option ByteArray} (hr:(⟨c,k,[110],[],0,0,[101]⟩:Rw)∈RWS):RowOk nk lg c ⟨w,k,[110,61,101],f⟩:=by
 rintro i p j ⟨s,hs,t,m,⟨h1,h2⟩,rfl,rfl⟩;exact⟨wI _ hr rfl rfl hs rfl (Int.le_refl 0) (Int.le_refl 0) (zYf e101 h1),by unfold TreeR;rw[szP,xA,fO];omega⟩
theorem row_s {c k:Int} {w:ByteArray} {f:Option ByteArray} (hr:(⟨c,k,[],[],0,0,[115]⟩:Rw)∈RWS):RowOk nk lg c ⟨w,k,[115],f⟩:=by
 rintro i p j ⟨t,m,⟨h1,h2⟩,rfl,rfl⟩;exact⟨wI _ hr rfl rfl rfl rfl (Int.le_refl 0) (Int.le_refl 0) (zYf zQu h1),by unfold TreeR;rw[szP,xA,fO];omega⟩
theorem zNy {c k:Int} {w:ByteArray} {f:Option ByteArray} (hr:(⟨c,k,[108],[108],0,0,[]⟩:Rw)∈RWS):RowOk nk lg c ⟨w,k,[84,108,61,76],f⟩:=by
 rintro i p j ⟨s,hs,u,hu,rfl,rfl⟩;exact⟨wI _ hr rfl rfl hs hu (Int.le_refl 0) (Int.le_refl 0) rfl,by unfold TreeR;rw[szP];show 1+0+1+2*i<=_;omega⟩
theorem zNz {c k:Int} {w:ByteArray} {f:Option ByteArray} (hr:(⟨c,k,[110],[],0,0,[116,101]⟩:Rw)∈RWS):RowOk nk lg c ⟨w,k,[110,58,116,61,101],f⟩:=by
 rintro i p j ⟨s,hs,t,m,⟨h1,h2⟩,e,q,⟨h3,h4⟩,rfl,rfl⟩;exact⟨wI _ hr rfl rfl hs rfl (Int.le_refl 0) (Int.le_refl 0) (zN4 zJ7 h1 e101 h3),by unfold TreeR;rw[szP,xA,zWt,iK];omega⟩
theorem zM0 {c k:Int} {w:ByteArray} {f:Option ByteArray} (hr:(⟨c,k,[110],[110],0,0,[115,109]⟩:Rw)∈RWS):RowOk nk lg c ⟨w,k,[110,40,78,58,115,41,61,109],f⟩:=by
 rintro i p j ⟨s,hs,u,hu,t,m,⟨h1,h2⟩,e,q,⟨h3,h4⟩,rfl,rfl⟩;exact⟨wI _ hr rfl rfl hs hu (Int.le_refl 0) (Int.le_refl 0) (zN4 zQu h1 zNx h3),by unfold TreeR;rw[szP,xA,zWt,iK];omega⟩
theorem zUi:∀r∈specR,RowOk nk lg 5 r:=by
 intro r hr;simp only[specR,List.mem_cons,List.not_mem_nil,or_false] at hr
 rcases hr with rfl | rfl | rfl | rfl | rfl | rfl | rfl
 ·exact zX0 (by simp[RWS]) _ (.inl rfl)
 ·exact zX0 (by simp[RWS]) _ (.inr rfl)
 ·exact row_n (by simp[RWS])
 ·exact zQv (by simp[RWS])
 ·exact zQw (by simp[RWS]) _ (.inl rfl)
 ·exact row_s (by simp[RWS])
 ·exact zNy (by simp[RWS])
theorem zUj:∀r∈declR,RowOk nk lg 6 r:=by
 intro r hr;simp only[declR,List.mem_cons,List.not_mem_nil,or_false] at hr
 rcases hr with rfl | rfl | rfl | rfl | rfl | rfl | rfl | rfl | rfl
 ·exact zNz (by simp[RWS])
 ·exact zJ9 (by simp[RWS])
 ·exact zX0 (by simp[RWS]) _ (.inr rfl)
 ·exact zQv (by simp[RWS])
 ·exact zJ8 (by simp[RWS])
 ·exact zMg (by simp[RWS])
 ·exact zMg (by simp[RWS])
 ·exact zQw (by simp[RWS]) _ (.inr rfl)
 ·exact zM0 (by simp[RWS])
variable {l:List Te}
theorem bZ {O:UInt8->Nat->Rs Tr} (hO:gY nk lg O) {c:Int} {top:Bool}:∀(t:List Rw8),(∀r∈t,RowOk nk lg c r)->∀(i:Nat) (x:Tr) (j:Nat),rowsS nk lg l O top t i = .inl (some x,j)->Ok8 nk lg c i x j/\(top=false->¬(x.1.k=74\/x.1.k=75))
 | [],_,i,x,j,h=>by unfold rowsS at h;cases h
 | r::t,hr,i,x,j,h=>by
  unfold rowsS at h
  split at h
  ·rename_i hb
   obtain⟨p,q,h1,h2⟩:=qD h;injection h2 with h2;injection h2 with h3 h4;subst h4;injection h3 with h3;subst h3;refine⟨hr r (List.mem_cons_self ..) i p q (lW hO r.sh (i+1) _ p q h1),fun ht hk=>?_⟩;unfold begS at hb;subst ht;rw[Bool.and_eq_true,Bool.and_eq_true] at hb;have hk:r.k=74\/r.k=75:=hk;have h5:(decide (74<=r.k)&&decide (r.k<=75) && !false)=true:=by
    simp only[Bool.and_eq_true,decide_eq_true_eq,Bool.not_false,and_true];omega
   rw[h5] at hb;exact absurd hb.1.1 (by decide)
  ·exact bZ hO t (fun r h=>hr r (List.mem_cons_of_mem _ h)) i x j h
def AllOk (nk lg:ByteArray->Bool) (b:Bool) (c:Int) (f:Fr):Prop:=((infF nk lg f).all fun i=>i.is c && !(b&&(decide (i.k=74)||decide (i.k=75))))=true
theorem AllOk.nil {b:Bool} {c:Int}:AllOk nk lg b c .nil:=rfl
theorem AllOk.more {b:Bool} {c:Int} {f:Fr} (h:AllOk nk lg b c f) {t:Tr} (ht:isT nk lg t c=true) (hk:b=true->¬(t.1.k=74\/t.1.k=75)):AllOk nk lg b c (f.app (fr1 t)):=by
 unfold AllOk;rw[tP,List.all_append,h]
 show(true&&((isT nk lg t c && !(b&&(decide (t.1.k=74)||decide (t.1.k=75))))&&true))=true
 rw[ht]
 cases b with
 | false=>rfl
 | true=>
  have h2:=hk rfl;rw[decide_eq_false (fun h=>h2 (.inl h)),decide_eq_false (fun h=>h2 (.inr h))]
  rfl
structure OkM (nk lg:ByteArray->Bool) (b:Bool) (c:Int) (i:Nat) (f:Fr) (j:Nat):Prop where
 ok:AllOk nk lg b c f
 sz:f.sz+2*i<=2*j
theorem nO {O:UInt8->Nat->Rs Tr} (hO:gY nk lg O) {c:Int} {top:Bool} {t:List Rw8} (ht:∀r∈t,RowOk nk lg c r) (h:Nat):∀(n i:Nat) (acc:Fr) (f:Fr) (j:Nat),OkM nk lg (!top) c h acc i->manyS nk lg l O t top n i acc = .inl (f,j)->OkM nk lg (!top) c h f j
 | 0,i,acc,f,j,_,hm=>by unfold manyS at hm;cases hm
 | n+1,i,acc,f,j,ha,hm=>by
  unfold manyS at hm;obtain⟨o,q,h1,h2⟩:=qD hm
  cases o with
  | none=>injection h2 with h2;injection h2 with h3 h4;subst h3;subst h4;exact ha
  | some x=>
   obtain⟨⟨k1,k2⟩,k3⟩:=bZ hO t ht i x q h1;refine nO hO ht h n q _ f j ⟨ha.ok.more k1 fun hb=>k3 (by cases top<;>first | rfl | cases hb),?_⟩ h2
   rw[Fr.sz_app,fO];have:=ha.sz;omega
theorem nP {S:Nat->Rs Tr} (hS:∀j,vP nk lg 4 j (S j)) (h:Nat):∀(n:Nat) (m:Tr) (i:Nat),Ok8 nk lg 3 h m i->vP nk lg 3 h (sealS l S n m i)
 | 0,m,i,_=>fun t j hm=>by unfold sealS at hm;cases hm
 | n+1,m,i,ha=>fun t j hm=>by
  unfold sealS at hm;have key:∀d,0<=d->d<=1->∀s q,Ok8 nk lg 4 (i+1) s q->Ok8 nk lg 3 h (⟨43,d,nob,nob⟩,fr2 m s) q:=fun d h0 h1 s q hs=>
   ⟨wI ⟨3,43,[],[],0,1,[109,115]⟩ (by simp[RWS]) rfl rfl rfl rfl h0 h1 (zN4 zNx ha.is zQu hs.is),by rw[szP,iK];have:=ha.sz;have:=hs.sz;omega⟩
  split at hm
  ·obtain⟨s,q,h1,h2⟩:=qD hm
   exact nP hS h n _ q (key 1 (by decide) (by decide) s q (hS _ s q h1)) t j h2
  ·split at hm
   ·obtain⟨s,q,h1,h2⟩:=qD hm
    exact nP hS h n _ q (key 0 (by decide) (by decide) s q (hS _ s q h1)) t j h2
   ·injection hm with hm;injection hm with h3 h4;subst h3;subst h4;exact ha
theorem pH {O:UInt8->Nat->Rs Tr} (hO:gY nk lg O) (h:Nat):∀(n:Nat) (m:Tr) (i:Nat),Ok8 nk lg 4 h m i->vP nk lg 4 h (zV nk lg l O n m i)
 | 0,m,i,_=>fun t j hm=>by unfold zV at hm;cases hm
 | n+1,m,i,ha=>fun t j hm=>by
  unfold zV at hm
  split at hm
  ·obtain⟨p,q,h1,h2⟩:=qD hm
   obtain⟨s,hs,y,k,⟨h3,h4⟩,rfl,rfl⟩:=lW hO _ _ _ _ _ h1;refine pH hO h n (⟨52,0,s,nob⟩,fr2 m y) k ⟨wI ⟨4,52,[108],[],0,0,[115,116]⟩ (by simp[RWS]) rfl rfl hs rfl (Int.le_refl 0) (Int.le_refl 0) (zN4 zQu ha.is zJ7 h3),?_⟩ t j h2;rw[szP,iK];have:=ha.sz;omega
  ·injection hm with hm;injection hm with h3 h4;subst h3;subst h4;exact ha
theorem pI {D:Nat->Rs Fr} {c k:Int} (b:Bool) (sg:UInt8) (cat:Int) (hr:(⟨cat,k,[],[],0,0,[42,sg]⟩:Rw)∈RWS) (hc:catOf sg=c) (hb:decide (sg=105)=b) (hD:∀i f j,D i = .inl (f,j)->OkM nk lg b c i f j) {i:Nat} {t:Tr} {j:Nat} (h:kU l D k (i+1) = .inl (t,j)):Ok8 nk lg cat i t j:=by
 obtain⟨f,q,h1,h2⟩:=qD h;obtain⟨u,q',h3,h4⟩:=qD h2;injection h4 with h4;injection h4 with h5 h6;subst h5;subst h6;have e:q'=q+1:=jE _ _ _ h3;obtain⟨k1,k2⟩:=hD _ f q h1;refine⟨wI _ hr rfl rfl rfl rfl (Int.le_refl 0) (Int.le_refl 0) ?_,by show szT ((⟨k,0,nob,nob⟩,f):Tr)+1+2*i<=_;rw[szP];omega⟩;have k1:((infF nk lg f).all fun i=>i.is c && !(b&&(decide (i.k=74)||decide (i.k=75))))=true:=k1;rw[<- hc,<- hb] at k1
 cases hq:infF nk lg f with
 | nil=>rfl
 | cons x y=>rw[hq] at k1;exact k1
theorem zUk {M:Nat->Rs Tr} {D:Nat->Rs Fr} (hM:∀j,vP nk lg 3 j (M j)) (hD:∀i f j,D i = .inl (f,j)->OkM nk lg true 6 i f j) (i:Nat):vP nk lg 3 i (primS nk lg l M D i):=fun t j h=>by
 unfold primS at h
 split at h
 ·exact pI true 105 3 (by simp[RWS]) rfl rfl hD h
 ·split at h
  ·rename_i s hs _
   obtain⟨m,q,h1,h2⟩:=qD h;injection h2 with h4;injection h4 with h5 h6;subst h5;subst h6;obtain⟨q',h7,_,e⟩:=yC h1;have e:q=q'+1:=e;obtain⟨k1,k2⟩:=hM _ m q' h7;exact⟨wI ⟨3,42,[110],[],0,0,[109]⟩ (by simp[RWS]) rfl rfl (tU hs) rfl (Int.le_refl 0) (Int.le_refl 0) (zYf zNx k1),by show szT ((⟨42,0,s,nob⟩,fr1 m):Tr)+1+2*i<=_;rw[szP,fO];omega⟩
  ·split at h
   ·obtain⟨q',h7,_,e⟩:=yC h
    have e:j=q'+1:=e;obtain⟨k1,k2⟩:=hM _ t q' h7;exact⟨k1,by omega⟩
   ·obtain⟨s,q,h1,h2⟩:=qD h
    injection h2 with h4;injection h4 with h5 h6;subst h5;subst h6;obtain⟨hs,rfl⟩:=nG h1;exact⟨wI ⟨3,41,[108],[],0,0,[]⟩ (by simp[RWS]) rfl rfl hs rfl (Int.le_refl 0) (Int.le_refl 0) rfl,by show 1+1+2*i<=_;omega⟩
theorem zUl {D:Nat->Rs Fr} (hD:∀i f j,D i = .inl (f,j)->OkM nk lg true 5 i f j) (i:Nat):vP nk lg 4 i (bodyS nk l D i):=fun t j h=>by
 unfold bodyS at h
 split at h
 ·refine pI false 112 4 (by simp[RWS]) rfl rfl (fun i f j h=>?_) h
  obtain⟨h1,h2⟩:=hD i f j h;refine⟨?_,h2⟩;unfold AllOk at h1 ⊢;rw[List.all_eq_true] at h1 ⊢;intro x hx;have h3:=h1 x hx;rw[Bool.and_eq_true] at h3;have h4:x.is (catOf 112)=true:=h3.1;rw[h4]
  rfl
 ·obtain⟨s,q,h1,h2⟩:=qD h
  injection h2 with h4;injection h4 with h5 h6;subst h5;subst h6;obtain⟨hs,rfl⟩:=nG h1;exact⟨wI ⟨4,51,[110],[],0,0,[]⟩ (by simp[RWS]) rfl rfl hs rfl (Int.le_refl 0) (Int.le_refl 0) rfl,by show 1+1+2*i<=_;omega⟩
theorem zUm (i:Nat):vP nk lg 1 i (typL nk lg (tks l) i):=fun t j h=>by
 have h1:=mT h;have h2:=fG (nk:=nk) (lg:=lg) (tks l) i;rw[h] at h2;have h2:i<j:=h2;exact⟨h1.1,by omega⟩
variable (hn:∀s,nk s=true->s.size<=128) (hg:∀s,lg s=true->s.size<=128)
include hn hg in
theorem zQx {n:Nat} {M S:Nat->Rs Tr} (hM:∀j,vP nk lg 3 j (M j)) (hS:∀j,vP nk lg 4 j (S j)):gY nk lg (oneS (typL nk lg (tks l)) (exprF nk lg l n) M S):=by
 rintro c i (rfl | rfl | rfl | rfl) t j h
 ·exact zUm i t j h
 ·have h1:=(bO hn hg n).1 i t j h
  exact⟨h1.is,h1.sz⟩
 ·exact hM i t j h
 ·exact hS i t j h
include hn hg in
theorem wW:∀(n:Nat),(∀i,vP nk lg 3 i (modF nk lg l n i))/\(∀i,vP nk lg 4 i (sigF nk lg l n i))/\(∀top i f j,declF nk lg l n top i = .inl (f,j)->OkM nk lg (!top) 6 i f j)/\(∀i f j,specF nk lg l n i = .inl (f,j)->OkM nk lg true 5 i f j)
 | 0=>⟨(fun i t j h=>by rw[modF] at h;cases h),(fun i t j h=>by rw[sigF] at h;cases h),(fun _ i t j h=>by rw[declF] at h;cases h),(fun i t j h=>by rw[specF] at h;cases h)⟩
 | n+1=>by
  obtain⟨hM,hS,hD,hP⟩:=wW n;have hO:=zQx (l:=l) hn hg (n:=n) hM hS;refine⟨fun i t j h=>?_,fun i t j h=>?_,fun top i f j h=>?_,fun i f j h=>?_⟩
  ·rw[modF] at h
   obtain⟨m,q,h1,h2⟩:=qD h;exact nP hS i _ m q (zUk hM (fun i f j h=>hD false i f j h) i m q h1) t j h2
  ·rw[sigF] at h
   obtain⟨m,q,h1,h2⟩:=qD h;exact pH hO i _ m q (zUl hP i m q h1) t j h2
  ·rw[declF] at h
   exact nO hO zUj i _ i .nil f j ⟨AllOk.nil,by show 0+2*i<=2*i;omega⟩ h
  ·rw[specF] at h
   exact nO (top:=false) hO zUi i _ i .nil f j ⟨AllOk.nil,by show 0+2*i<=2*i;omega⟩ h
end
end Go.Proofs.YtgeghilbikljcaaGreatDoor
