/-
  Layer 8, the program: mod, sig (written by gml.py).
-/
import Derived.Test.YtgeghilbikljcaaGreatDoorGj26
set_option maxHeartbeats 40000000
set_option maxRecDepth 100000
namespace Go.Proofs.YtgeghilbikljcaaGreatDoor
open Go.RowKit
section
variable {l:List Te} {b:Nat} {v:Value} {i:Nat} {L:Nat->Tr->Nat->Rs Tr} {R:Rs Tr} {W w w':World} {A:Option Addr}
inductive LoopL (l:List Te) (b:Nat) (v:Value) (i:Nat) (e:Int) (L:Nat->Tr->Nat->Rs Tr) (R:Rs Tr) (W w:World) (A:Option Addr):Prop
 | good (j m:Nat) (t:Tr) (h0:e=0) (hij:i<=j) (hj:j<=l.length) (hn:l.length<m+j) (hR:R=L m t j) (ht:NewT W w (.pointer A) t) (hp:Psr w b v j 0):LoopL l b v i e L R W w A
 | bad (p:Nat) (r:Int) (hr:¬r=0) (hpl:p<=l.length) (hR:R = .inr (p,r)) (hp:Psr w b v p r):LoopL l b v i e L R W w A
def mesL (b N:Nat) (w:World):Nat:=if errW b w=0 then N-posW b w+1 else 0
theorem nM {j N:Nat} (h:Psr w b v j 0):mesL b N w=N-j+1:=by
 unfold mesL;rw[if_pos h.err,h.pos]
theorem zQl {j N:Nat} {r:Int} (hr:¬r=0) (h:Psr w b v j r):mesL b N w=0:=by
 unfold mesL;rw[if_neg (by rw[h.err];exact hr)]
theorem nN {j m:Nat} {e:Int} {Y:Rs Tr} (h0:e=0) (hij:i<=j) (hj:j+1<=l.length) (hn:l.length<m+j+1) (hY:In0 l.length (j+1) Y) (hR:R=thn Y fun u q=>L m u q) (p:Psr w' b v (rI Y) (rE Y)) (n:∀u q,Y = .inl (u,q)->NewT W w' (.pointer A) u):LoopL l b v i e L R W w' A/\mesL b l.length w'<l.length-j+1:=by
 cases Y with
 | inr x=>
  obtain⟨q,r⟩:=x;have hr:¬r=0:=by have:=hY.2.2;omega
  exact⟨.bad q r hr hY.2.1 hR p,by rw[zQl hr p];omega⟩
 | inl x=>
  obtain⟨u,q⟩:=x;have h1:j+1<=q/\q<=l.length:=hY;exact⟨.good q m u h0 (by omega) h1.2 (by omega) hR (n u q rfl) p,by rw[nM (N:=l.length) (j:=q) p];omega⟩
theorem rL {m:Nat} {X:Rs Tr} {e:Int} (hX:e=0->In0 l.length i X) (hX1:¬e=0->X = .inr (i,e)) (hi:i<=l.length) (hn:e=0->l.length<m+i) (hR:R=at0 (fun j=>L m (valD (nd 0 nob .nil) X) j) (stO X)) (p:Psr w' b v (rI X) (rE X)) (n:∀u q,X = .inl (u,q)->NewT W w' (.pointer A) u):LoopL l b v i e L R W w' A:=by
 by_cases he:e=0
 ·have hY:=hX he
  cases X with
  | inr x=>
   obtain⟨q,r⟩:=x;have hr:¬r=0:=by have:=hY.2.2;omega
   refine .bad q r hr hY.2.1 ?_ p;rw[hR];exact qM _ (show ¬(q,r).2=0 from hr)
  | inl x=>
   obtain⟨u,q⟩:=x;have h1:i<=q/\q<=l.length:=hY;have:=hn he;exact .good q m u he h1.1 h1.2 (by omega) (by rw[hR];exact qG _ _) (n u q rfl) p
 ·rw[hX1 he] at p hR
  exact .bad i e he hi (by rw[hR];exact qM _ (show ¬(i,e).2=0 from he)) p
theorem zZ5 {α:Type} {PR:Nat->Rs α} (hP:kB l PR) {s:SS} (hs:s.1<=l.length) (h0:s.2=0):In0 l.length s.1 (at0 PR s):=by
 unfold at0;rw[if_pos h0];exact hP s.1 hs
theorem zYt {S:Nat->Rs Tr} {m j:Nat} {t:Tr} (h:key (tks l) j qH=true):sealS l S (m+1) t j=thn (thn (S (j+1)) fun s q=>.inl ((⟨43,0,nob,nob⟩,fr2 t s),q)) fun u q=>sealS l S m u q:=by
 have h2:=zRk (y:=kSeal) h (by decide);rw[kZ]
 show(if key (tks l) j kSeal=true then _ else _)=_
 rw[h2,h]
 rfl
theorem zUe {S:Nat->Rs Tr} {m j:Nat} {t:Tr} (h:key (tks l) j kSeal=true):sealS l S (m+1) t j=thn (thn (S (j+1)) fun s q=>.inl ((⟨43,1,nob,nob⟩,fr2 t s),q)) fun u q=>sealS l S m u q:=by
 rw[kZ]
 show(if key (tks l) j kSeal=true then _ else _)=_
 rw[h]
 rfl
theorem zUf {S:Nat->Rs Tr} {m j:Nat} {t:Tr} (h:key (tks l) j qH=false) (h2:key (tks l) j kSeal=false):sealS l S (m+1) t j = .inl (t,j):=by
 show(if key (tks l) j kSeal=true then _ else if key (tks l) j qH=true then _ else _)=_
 rw[h2,h]
 rfl
theorem bW {S:Nat->Rs Tr} (hS:kB l S) (n:Int) (t:Tr):kB l (fun j=>thn (S j) fun s q=>(.inl (((⟨43,n,nob,nob⟩,fr2 t s):Tr),q):Rs Tr)):=fun j hj=>(hS j hj).bnd fun _ _ _ _ hq=>qR (Nat.le_refl _) hq
theorem bY {S:Nat->Rs Tr} (n:Int) (t:Tr) (j:Nat):rI (thn (S j) fun s q=>.inl (((⟨43,n,nob,nob⟩,fr2 t s):Tr),q))=rI (S j)/\rE (thn (S j) fun s q=>.inl (((⟨43,n,nob,nob⟩,fr2 t s):Tr),q))=rE (S j)/\∀u q,thn (S j) (fun s q=>.inl (((⟨43,n,nob,nob⟩,fr2 t s):Tr),q)) = .inl (u,q)->∃a,S j = .inl (a,q)/\u=(⟨43,n,nob,nob⟩,fr2 t a):=by
 cases h:S j with
 | inr x=>exact⟨rfl,rfl,fun u q hq=>by cases hq⟩
 | inl x=>exact⟨rfl,rfl,fun u q hq=>by obtain⟨rfl,rfl⟩:=Prod.mk.inj (Sum.inl.inj hq);exact⟨x.1,rfl,rfl⟩⟩
def xI (l:List Te) (T:Nat->Rs Tr) (s:Tr) (i:Nat):Rs Tr:=thn (keysL (tks l) i [kType]) fun _ j=>thn (nameQ B.long (tks l) j []) fun x j=>thn (behR l kEq T j) fun t q=>.inl ((⟨52,0,x,nob⟩,fr2 s t),q)
theorem zQm {O:UInt8->Nat->Rs Tr} (m j:Nat) (t:Tr):zV B.nck B.long l O (m+1) t j=if key (tks l) j vJ=true then thn (xI l (O 116) t (j+1)) fun u q=>zV B.nck B.long l O m u q else .inl (t,j):=by
 show(if key (tks l) j vJ=true then thn (partS B.nck B.long l O iB (j+1) ⟨nob,nob,fr1 t⟩) (fun p q=>zV B.nck B.long l O m (⟨52,0,p.nm,p.mrk⟩,p.ks) q) else _)=_
 unfold xI iB behR;simp only[nJ,rD,zRf,zYg,iE,zYh,kZ,lY,zRg]
theorem zQn {T:Nat->Rs Tr} (hT:kB l T) (t:Tr):kB l (xI l T t):=fun j hj=>(yB [kType] j hj).bnd fun _ _ _ _ hm=>(qS hm).weak.bnd fun _ _ _ _ hk=>(vM hT kEq _ hk).bnd fun _ _ _ _ hq=>qR (Nat.le_refl _) hq
theorem zQo {T:Nat->Rs Tr} (hT:kB l T) (t d:Tr) {s:SS} (hs:s.1<=l.length):at0 (xI l T t) s=at0 (fun q=>.inl ((⟨52,0,nmS (nam B.long (tks l) (kS (tks l) kType s).1) (kS (tks l) kType s).2,nob⟩,fr2 t (valD d (at0 T (kS (tks l) kEq (nS B.long (tks l) (kS (tks l) kType s)))))),q)) (stO (at0 T (kS (tks l) kEq (nS B.long (tks l) (kS (tks l) kType s))))):=by
 unfold xI;rw[jB,yJ,yA (R:=behR l kEq T) (d:=d) fun _=>(vM hT kEq).ne (kJ l _ (zI l _ hs)),wL]
end
section
variable {V0:World} {v:Value} {l:List Te} {b:Nat}
theorem zQp (P:Px9 V0 v l b) (PR S:Nat->Rs Tr) (hPR:kB l PR) (hS:kB l S) (n i:Nat) (e:Int) (hi:i<=l.length) (hn:e=0->l.length<n+i)
  (cP:FnAt V0 v b 37 #[.agg #[.pointer (some ⟨b,0,none⟩)]] PR (i,e))
  (cS:∀s:SS,s.1<=l.length->(s.2=0->e=0/\i<s.1)->e=0->FnAt V0 v b 24 #[.agg #[.pointer (some ⟨b,0,none⟩)]] S s) :
  FnAt V0 v b 21 #[.agg #[.pointer (some ⟨b,0,none⟩)]] (fun i=>thn (PR i) fun m j=>sealS l S n m j) (i,e):=fun w hu h=>by
 obtain⟨L,hL⟩:∃L,sealS l S=L:=⟨_,rfl⟩;rw[hL];have hb:b<w.heap.size:=qC h;have hbV:=P.Q.hb;have hll:=P.Q.hl;obtain⟨W0,hW0⟩:∃W0,w.alloc (.cells #[.pointer (some ⟨b,0,none⟩)] 51)=W0:=⟨_,rfl⟩;have u0:Up w W0:=by rw[<- hW0];exact(Up.refl w).alloc _
 have b1:W0.heap[w.heap.size]? = some (.cells #[.pointer (some ⟨b,0,none⟩)] 51 (0,0)):=by rw[<- hW0];exact heap_alloc_new w _
 have hgU:∀w',Gs (On b) W0 w'->Up V0 w':=fun w' g=>g.up (hu.trans u0) fun q hq=>by rw[hq];exact hbV
 have hgB:∀w',Gs (On b) W0 w'->w'.cell? ⟨w.heap.size,0,none⟩=some (.pointer (some ⟨b,0,none⟩)):=fun w' g=>cell_of_row w' w.heap.size 0 _ _ _ (g.row b1 (by unfold On;omega))
 have hzW0:W0.heap.size=w.heap.size+1:=by rw[<- hW0];simp
 have k0:=hgB W0 (Gs.refl _ _);have p0:=h.up u0;have c1:=cP W0 (hgU W0 (Gs.refl _ _)) p0;obtain⟨G,hG⟩:∃G,at0 (fun i=>thn (PR i) fun m j=>L n m j) (i,e)=G:=⟨_,rfl⟩;have hG1:=hG.symm;rw[yA (R:=PR) (d:=nd 0 nob .nil) fun _=>hPR.ne hi] at hG1;have hx0:e=0->In0 l.length i (at0 PR (i,e)):=fun h0=>zZ5 hPR (s:=(i,e)) hi h0
 have hx1:¬e=0->at0 PR (i,e) = .inr (i,e):=fun h0=>qM _ (show ¬(i,e).2=0 from h0)
 obtain⟨X,hX⟩:∃X,at0 PR (i,e)=X:=⟨_,rfl⟩;rw[hX] at hG1 hx0 hx1 c1;rw[hG];have FIRST:Hid (∀(w':World) (A:Option Addr),Psr w' b v (rI X) (rE X)->(∀u q,X = .inl (u,q)->NewT W0 w' (.pointer A) u)->LoopL l b v i e L G W0 w' A):=Lib.hid fun w' A p n=>rL hx0 hx1 hi hn hG1 p n
 have HCS:=Lib.hid cS;have HL:=Lib.hid hL;have HSS:=Lib.hid hS;have HPX:=Lib.hid P;have HGU:=Lib.hid hgU;have HGB:=Lib.hid hgB;have HW0:=Lib.hid hW0;have U0:=Lib.hid u0;have B1:=Lib.hid b1;have P0:=Lib.hid p0;clear hW0 u0 b1 h hu P hgU hgB p0;clear hG hG1 hX hx0 hx1 cP cS hL hS hPR hn
 go_enter Tryz.func21,Tryz.ntmps21
 go_wp2_with fail;rw[HW0.out];refine c1.mono ?_;rintro en w1 hP;obtain⟨A1,rfl,g1,p1,n1⟩:=hP.psr;have st1:=FIRST.out w1 A1 p1 n1;have G1:=Lib.hid g1;have ST1:=Lib.hid st1;clear g1 p1 n1 st1 hP c1 FIRST;go_wp2_with fail
 go_loopw [3] (fun vn wr=>∃A,vn = .pointer A/\Gs (On b) W0 wr/\LoopL l b v i e L G W0 wr A) (fun _ wr=>mesL b l.length wr)
 case atStart=>exact⟨A1,rfl,G1.out,ST1.out⟩
 case round=>
  obtain⟨A,rfl,hg,hst⟩:=hrel;have kr:=HGB.out wr hg;have ur:=HGU.out wr hg;have HG:=Lib.hid hg;have UR:=Lib.hid ur;have z0:=U0.out.size;have zr:=hg.size
  cases hst with
  | bad p r hr hpl hR hp=>
   have cT1:=qI HPX.out.Q (e:=r) hpl qH (zE hr) wr ur hp;have HRR:=Lib.hid hR;have HRE:=Lib.hid hr;clear hg ur hR hp hr;go_wp2_with fail;refine cT1.mono ?_;rintro en w2 ⟨rfl,g2,p2⟩;have g2:=HG.out.trans g2;have k2:=HGB.out w2 g2;have cT2:=qI HPX.out.Q (e:=r) hpl kSeal (zE HRE.out) w2 (HGU.out w2 g2) p2;have G2:=Lib.hid g2;clear g2 p2 cT1;go_wp2_with fail;refine cT2.mono ?_;rintro en w3 ⟨rfl,g3,p3⟩;have G3:=Lib.hid (G2.out.trans g3);have P3:=Lib.hid p3;clear g3 p3 cT2;go_wp2_with fail
   go_ret
   exact PaT.mk ((Gs.of U0.out).trans G3.out) (by rw[HRR.out];exact P3.out) fun t j ht=>by rw[HRR.out] at ht;cases ht
  | good j m t h0 hij hj hm hR ht hp=>
   obtain⟨m,rfl⟩:∃k,m=k+1:=⟨m-1,by omega⟩;have hmes:=nM (N:=l.length) hp;have HM:=Lib.hid hmes;have HT:=Lib.hid ht;obtain⟨dK,hdK⟩:∃d,key (tks l) j qH=d:=⟨_,rfl⟩;have cT1:Calls Tryz.prog 38 #[.pointer (some ⟨b,0,none⟩),.string qH] wr (fun en w'=>en = .returned (.bool dK)/\Gs (On b) wr w'/\Psr w' b v (if dK then j+1 else j) 0):=by
    cases dK with
    | true=>exact qN HPX.out.Q hj qH (qQ.trans hdK) wr ur hp
    | false=>exact qI HPX.out.Q hj qH (qQ.trans hdK) wr ur hp
   have HK:=Lib.hid hdK;have HRR:=Lib.hid hR;clear hg ur hR hp ht hmes hdK;go_wp2_with fail;refine cT1.mono ?_;rintro en w2 ⟨rfl,g2,p2⟩;have hrs:=g2.size;have HT2:=Lib.hid (HT.out.gsb g2 (by omega));have g2:=HG.out.trans g2;have k2:=HGB.out w2 g2;have G2:=Lib.hid g2;have P2:=Lib.hid p2;clear g2 p2 cT1 HT
   cases dK with
   | true=>
    have hR:=HRR.out;rw[<- HL.out,zYt HK.out,HL.out] at hR;have P2:Hid (Psr w2 b v (j+1) 0):=P2;have hj1:j+1<=l.length:=by have:=zY HK.out;rw[qK] at this;omega
    have he:e=0:=h0;have cX:=HCS.out (j+1,0) hj1 (fun _=>⟨he,by show i<j+1;omega⟩) he w2 (HGU.out w2 G2.out) P2.out;rw[qG] at cX;obtain⟨y1,y2,y3⟩:=bY (S:=S) 0 t (j+1);have hin:=bW HSS.out 0 t (j+1) hj1;have NX:=Lib.hid hR;have Y1:=Lib.hid y1;have Y2:=Lib.hid y2;have Y3:=Lib.hid y3;have HIN:=Lib.hid hin;clear hR y1 y2 y3 hin HRR;go_wp2_with fail;refine cX.mono ?_;rintro en wX hP;obtain⟨AX,rfl,gX,pX,nX⟩:=hP.psr;have hzX:=gX.size;have zW:=G2.out.size;have HTX:=Lib.hid (HT2.out.gsb gX (by omega));have GX:=Lib.hid (G2.out.trans gX);have PX:=Lib.hid pX;have NNX:=Lib.hid nX;clear gX pX nX hP cX;go_wp2_with fail;refine(zWi 0 A AX wX).mono ?_;rintro en wY ⟨rfl,hwY⟩;have uY:Up wX wY:=by rw[hwY];exact((Up.refl wX).alloc _).alloc _
    have hlp:=nN (w':=wY) (b:=b) (v:=v) (A:=some ⟨wX.heap.size+1,0,none⟩) (L:=L) (W:=W0) h0 hij hj1 (by omega) HIN.out NX.out (by rw[Y1.out,Y2.out];exact PX.out.up uY) fun u q hq=>(by
     obtain⟨a,ha,rfl⟩:=Y3.out u q hq;rw[hwY];exact rJ ⟨43,0,nob,nob⟩ (by omega) HTX.out ((NNX.out a q ha).base (by omega)))
    have LP:=Lib.hid hlp;have UY:=Lib.hid uY;clear hlp uY hwY;go_wp2_with fail
    go_roundw
    case rel=>exact⟨_,rfl,GX.out.trans (Gs.of UY.out),LP.out.1⟩
    case measure=>rw[HM.out];exact LP.out.2
   | false=>
    have P2:Hid (Psr w2 b v j 0):=P2;obtain⟨dS,hdS⟩:∃d,key (tks l) j kSeal=d:=⟨_,rfl⟩;have cT2:Calls Tryz.prog 38 #[.pointer (some ⟨b,0,none⟩),.string kSeal] w2 (fun en w'=>en = .returned (.bool dS)/\Gs (On b) w2 w'/\Psr w' b v (if dS then j+1 else j) 0):=by
     cases dS with
     | true=>exact qN HPX.out.Q hj kSeal (qQ.trans hdS) w2 (HGU.out w2 G2.out) P2.out
     | false=>exact qI HPX.out.Q hj kSeal (qQ.trans hdS) w2 (HGU.out w2 G2.out) P2.out
    have HKS:=Lib.hid hdS;clear hdS;go_wp2_with fail;refine cT2.mono ?_;rintro en w3 ⟨rfl,g3,p3⟩;have hrs3:=g3.size;have HT3:=Lib.hid (HT2.out.gsb g3 (by omega));have g3:=G2.out.trans g3;have k3:=HGB.out w3 g3;have G3:=Lib.hid g3;have P3:=Lib.hid p3;clear g3 p3 cT2 HT2 G2 P2 k2
    cases dS with
    | true=>
     have hR:=HRR.out;rw[<- HL.out,zUe HKS.out,HL.out] at hR;have P3:Hid (Psr w3 b v (j+1) 0):=P3;have hj1:j+1<=l.length:=by have:=zY HKS.out;rw[qK] at this;omega
     have he:e=0:=h0;have cX:=HCS.out (j+1,0) hj1 (fun _=>⟨he,by show i<j+1;omega⟩) he w3 (HGU.out w3 G3.out) P3.out;rw[qG] at cX;obtain⟨y1,y2,y3⟩:=bY (S:=S) 1 t (j+1);have hin:=bW HSS.out 1 t (j+1) hj1;have NX:=Lib.hid hR;have Y1:=Lib.hid y1;have Y2:=Lib.hid y2;have Y3:=Lib.hid y3;have HIN:=Lib.hid hin;clear hR y1 y2 y3 hin HRR;go_wp2_with fail;refine cX.mono ?_;rintro en wX hP;obtain⟨AX,rfl,gX,pX,nX⟩:=hP.psr;have hzX:=gX.size;have zW:=G3.out.size;have HTX:=Lib.hid (HT3.out.gsb gX (by omega));have GX:=Lib.hid (G3.out.trans gX);have PX:=Lib.hid pX;have NNX:=Lib.hid nX;clear gX pX nX hP cX;go_wp2_with fail;refine(zWi 1 A AX wX).mono ?_;rintro en wY ⟨rfl,hwY⟩;have uY:Up wX wY:=by rw[hwY];exact((Up.refl wX).alloc _).alloc _
     have hlp:=nN (w':=wY) (b:=b) (v:=v) (A:=some ⟨wX.heap.size+1,0,none⟩) (L:=L) (W:=W0) h0 hij hj1 (by omega) HIN.out NX.out (by rw[Y1.out,Y2.out];exact PX.out.up uY) fun u q hq=>(by
      obtain⟨a,ha,rfl⟩:=Y3.out u q hq;rw[hwY];exact rJ ⟨43,1,nob,nob⟩ (by omega) HTX.out ((NNX.out a q ha).base (by omega)))
     have LP:=Lib.hid hlp;have UY:=Lib.hid uY;clear hlp uY hwY;go_wp2_with fail
     go_roundw
     case rel=>exact⟨_,rfl,GX.out.trans (Gs.of UY.out),LP.out.1⟩
     case measure=>rw[HM.out];exact LP.out.2
    | false=>
     have hR:=HRR.out;rw[<- HL.out,zUf HK.out HKS.out] at hR;have HRX:=Lib.hid hR;have P3:Hid (Psr w3 b v j 0):=P3;clear hR HRR HL;go_wp2_with fail
     go_ret
     exact PaT.mk ((Gs.of U0.out).trans G3.out) (by rw[HRX.out];exact P3.out) fun t' q ht=>by
      rw[HRX.out] at ht;obtain⟨rfl,rfl⟩:=Prod.mk.inj (Sum.inl.inj ht);exact HT3.out.base z0
theorem zQq (P:Px9 V0 v l b) (PR:Nat->Rs Tr) (O:UInt8->Nat->Rs Tr) (hO:O 116=typL B.nck B.long (tks l)) (hPR:kB l PR) (n i:Nat) (e:Int) (hi:i<=l.length) (hn:e=0->l.length<n+i)
  (cP:FnAt V0 v b 42 #[.agg #[.pointer (some ⟨b,0,none⟩)]] PR (i,e)) :
  FnAt V0 v b 24 #[.agg #[.pointer (some ⟨b,0,none⟩)]] (fun i=>thn (PR i) fun m j=>zV B.nck B.long l O n m j) (i,e):=fun w hu h=>by
 obtain⟨L,hL⟩:∃L,zV B.nck B.long l O=L:=⟨_,rfl⟩;rw[hL];have hb:b<w.heap.size:=qC h;have hbV:=P.Q.hb;have hll:=P.Q.hl;obtain⟨W0,hW0⟩:∃W0,w.alloc (.cells #[.pointer (some ⟨b,0,none⟩)] 51)=W0:=⟨_,rfl⟩;have u0:Up w W0:=by rw[<- hW0];exact(Up.refl w).alloc _
 have b1:W0.heap[w.heap.size]? = some (.cells #[.pointer (some ⟨b,0,none⟩)] 51 (0,0)):=by rw[<- hW0];exact heap_alloc_new w _
 have hgU:∀w',Gs (On b) W0 w'->Up V0 w':=fun w' g=>g.up (hu.trans u0) fun q hq=>by rw[hq];exact hbV
 have hgB:∀w',Gs (On b) W0 w'->w'.cell? ⟨w.heap.size,0,none⟩=some (.pointer (some ⟨b,0,none⟩)):=fun w' g=>cell_of_row w' w.heap.size 0 _ _ _ (g.row b1 (by unfold On;omega))
 have hzW0:W0.heap.size=w.heap.size+1:=by rw[<- hW0];simp
 have k0:=hgB W0 (Gs.refl _ _);have p0:=h.up u0;have c1:=cP W0 (hgU W0 (Gs.refl _ _)) p0;obtain⟨G,hG⟩:∃G,at0 (fun i=>thn (PR i) fun m j=>L n m j) (i,e)=G:=⟨_,rfl⟩;have hG1:=hG.symm;rw[yA (R:=PR) (d:=nd 0 nob .nil) fun _=>hPR.ne hi] at hG1;have hx0:e=0->In0 l.length i (at0 PR (i,e)):=fun h0=>zZ5 hPR (s:=(i,e)) hi h0
 have hx1:¬e=0->at0 PR (i,e) = .inr (i,e):=fun h0=>qM _ (show ¬(i,e).2=0 from h0)
 obtain⟨X,hX⟩:∃X,at0 PR (i,e)=X:=⟨_,rfl⟩;rw[hX] at hG1 hx0 hx1 c1;rw[hG];have FIRST:Hid (∀(w':World) (A:Option Addr),Psr w' b v (rI X) (rE X)->(∀u q,X = .inl (u,q)->NewT W0 w' (.pointer A) u)->LoopL l b v i e L G W0 w' A):=Lib.hid fun w' A p n=>rL hx0 hx1 hi hn hG1 p n
 have HLL:Hid (∀m t j,L (m+1) t j=if key (tks l) j vJ=true then thn (xI l (typL B.nck B.long (tks l)) t (j+1)) fun u q=>L m u q else .inl (t,j)):=Lib.hid fun m t j=>by rw[<- hL,zQm,hO]
 have HPX:=Lib.hid P;have HGU:=Lib.hid hgU;have HGB:=Lib.hid hgB;have HW0:=Lib.hid hW0;have U0:=Lib.hid u0;have B1:=Lib.hid b1;have P0:=Lib.hid p0;clear hW0 u0 b1 h hu P hgU hgB p0;clear hG hG1 hX hx0 hx1 cP hL hO hPR hn
 go_enter Tryz.func24,Tryz.ntmps24
 go_wp2_with fail;rw[HW0.out];refine c1.mono ?_;rintro en w1 hP;obtain⟨A1,rfl,g1,p1,n1⟩:=hP.psr;have st1:=FIRST.out w1 A1 p1 n1;have G1:=Lib.hid g1;have ST1:=Lib.hid st1;clear g1 p1 n1 st1 hP c1 FIRST;go_wp2_with fail
 go_loopw [3,4] (fun vn _ wr=>∃A,vn = .pointer A/\Gs (On b) W0 wr/\LoopL l b v i e L G W0 wr A) (fun _ _ wr=>mesL b l.length wr)
 case atStart=>exact⟨A1,rfl,G1.out,ST1.out⟩
 case round=>
  obtain⟨A,rfl,hg,hst⟩:=hrel;have kr:=HGB.out wr hg;have ur:=HGU.out wr hg;have HG:=Lib.hid hg;have UR:=Lib.hid ur;have z0:=U0.out.size;have zr:=hg.size
  cases hst with
  | bad p r hr hpl hR hp=>
   have cT1:=qI HPX.out.Q (e:=r) hpl vJ (zE hr) wr ur hp;have HRR:=Lib.hid hR;clear hg ur hR hp hr;go_wp2_with fail;refine cT1.mono ?_;rintro en w3 ⟨rfl,g3,p3⟩;have G3:=Lib.hid (HG.out.trans g3);have P3:=Lib.hid p3;clear g3 p3 cT1;go_wp2_with fail
   go_ret
   exact PaT.mk ((Gs.of U0.out).trans G3.out) (by rw[HRR.out];exact P3.out) fun t j ht=>by rw[HRR.out] at ht;cases ht
  | good j m t h0 hij hj hm hR ht hp=>
   obtain⟨m,rfl⟩:∃k,m=k+1:=⟨m-1,by omega⟩;have hmes:=nM (N:=l.length) hp;have HM:=Lib.hid hmes;have HT:=Lib.hid ht;obtain⟨dK,hdK⟩:∃d,key (tks l) j vJ=d:=⟨_,rfl⟩;have cT1:Calls Tryz.prog 38 #[.pointer (some ⟨b,0,none⟩),.string vJ] wr (fun en w'=>en = .returned (.bool dK)/\Gs (On b) wr w'/\Psr w' b v (if dK then j+1 else j) 0):=by
    cases dK with
    | true=>exact qN HPX.out.Q hj vJ (qQ.trans hdK) wr ur hp
    | false=>exact qI HPX.out.Q hj vJ (qQ.trans hdK) wr ur hp
   rw[HLL.out] at hR;have HK:=Lib.hid hdK;have HRR:=Lib.hid hR;clear hg ur hR hp ht hmes hdK;go_wp2_with fail;refine cT1.mono ?_;rintro en w2 ⟨rfl,g2,p2⟩;have hrs:=g2.size;have HT2:=Lib.hid (HT.out.gsb g2 (by omega));have g2:=HG.out.trans g2;have k2:=HGB.out w2 g2;have G2:=Lib.hid g2;have P2:=Lib.hid p2;clear g2 p2 cT1 HT
   cases dK with
   | false=>
    have hR:=HRR.out;rw[HK.out,if_neg Bool.false_ne_true] at hR;have HRX:=Lib.hid hR;have P2:Hid (Psr w2 b v j 0):=P2;clear hR HRR;go_wp2_with fail
    go_ret
    exact PaT.mk ((Gs.of U0.out).trans G2.out) (by rw[HRX.out];exact P2.out) fun t' q ht=>by
     rw[HRX.out] at ht;obtain⟨rfl,rfl⟩:=Prod.mk.inj (Sum.inl.inj ht);exact HT2.out.base z0
   | true=>
    have hR:=HRR.out;rw[HK.out,if_pos rfl,<- qG (xI l (typL B.nck B.long (tks l)) t)] at hR;have P2:Hid (Psr w2 b v (j+1) 0):=P2;have hj1:j+1<=l.length:=by have:=zY HK.out;rw[qK] at this;omega
    have hin:=zQn (l:=l) jC t (j+1) hj1;rw[<- qG (xI l (typL B.nck B.long (tks l)) t)] at hin;have hat:=zQo (l:=l) jC t (nd 0 nob .nil) (s:=(j+1,0)) hj1;have l1:=zI l kType (s:=(j+1,0)) hj1;have c1:Calls Tryz.prog 43 #[.pointer (some ⟨b,0,none⟩),.string kType] w2 (PsP (On b) b v (kS (tks l) kType (j+1,0)).1 (kS (tks l) kType (j+1,0)).2 w2):=zN b v (j+1) 0 kType w2 HPX.out.Q.T P2.out (HGU.out w2 G2.out) (by omega);obtain⟨s1,hs1⟩:∃s,kS (tks l) kType (j+1,0)=s:=⟨_,rfl⟩;rw[hs1] at l1 c1 hat;have l2:=kJ l B.long l1;have c2:=fun w' (u:Up V0 w') (p:Psr w' b v s1.1 s1.2)=>wV HPX.out s1 l1 w' u p
    obtain⟨s2,hs2⟩:∃s,nS B.long (tks l) s1=s:=⟨_,rfl⟩;obtain⟨nm,hnm⟩:∃k,nmS (nam B.long (tks l) s1.1) s1.2=k:=⟨_,rfl⟩;rw[hs2] at l2 hat c2;rw[hnm] at hat c2;have c3:=fun w' (u:Up V0 w') (p:Psr w' b v s2.1 s2.2)=>behT HPX.out kEq s2 l2 w' u p
    have h00:=xX (l:=l) jC (zI l kEq l2);obtain⟨X3,hX3⟩:∃X,at0 (typL B.nck B.long (tks l)) (kS (tks l) kEq s2)=X:=⟨_,rfl⟩;rw[hX3] at hat c3 h00;rw[hat] at hR hin;have NX:=Lib.hid hR;have HIN:=Lib.hid hin;have C2:=Lib.hid c2;have C3:=Lib.hid c3;have H00:=Lib.hid h00;clear hR hin hat hs1 hs2 hnm c2 c3 h00 HRR hX3;go_wp2_with fail;refine c1.mono ?_;rintro en w3 ⟨⟨u,rfl⟩,g3,p3⟩;have zz2:=G2.out.size;have hrs3:=g3.size;have HT3:=Lib.hid (HT2.out.gsb g3 (by omega));have g3:=G2.out.trans g3;have k3:=HGB.out w3 g3;have c2:=C2.out w3 (HGU.out w3 g3) p3;have G3:=Lib.hid g3;clear g3 p3 c1 HT2;go_wp2_with fail;refine c2.mono ?_;rintro en w4 ⟨rfl,g4,p4⟩;have hrs4:=g4.size;have HT4:=Lib.hid (HT3.out.gsb g4 (by omega));have g4:=G3.out.trans g4;have k4:=HGB.out w4 g4;have c3:=C3.out w4 (HGU.out w4 g4) p4;have G4:=Lib.hid g4;clear g4 p4 c2 HT3;go_wp2_with fail;refine c3.mono ?_;rintro en w5 hP;obtain⟨A5,rfl,g5,p5,n5⟩:=hP.psr;have hrs5:=g5.size;have HT5:=Lib.hid (HT4.out.gsb g5 (by omega));have G5:=Lib.hid (G4.out.trans g5);have P5:=Lib.hid p5;have N5:=Lib.hid n5;clear g5 p5 n5 hP c3 HT4;go_wp2_with fail;refine(jH 52 nm _ 2 2 _).mono ?_;rintro en w6 ⟨rfl,hw6⟩;have u6:Up w5 w6:=by rw[hw6];exact((Up.refl w5).alloc _).alloc _
    have est:=qY ((⟨52,0,nm,nob⟩,fr2 t (valD (nd 0 nob .nil) X3)):Tr) (stO X3);have hlp:=nN (w':=w6) (b:=b) (v:=v) (A:=some ⟨w5.heap.size+1,0,none⟩) (L:=L) (W:=W0) h0 hij hj1 (by omega) HIN.out NX.out (by rw[show rI _=_ from congrArg Prod.fst est,show rE _=_ from congrArg Prod.snd est];exact P5.out.up u6) fun u q hq=>(by
     obtain⟨h9,rfl⟩:=yY _ _ hq;obtain⟨-,-,a,ha⟩:=H00.out h9;rw[yD _ ha,hw6];exact rJ ⟨52,0,nm,nob⟩ (by omega) HT5.out ((N5.out a _ ha).base (by omega)))
    have LP:=Lib.hid hlp;have U6:=Lib.hid u6;clear hlp u6 hw6 est;go_wp2_with fail
    go_roundw
    case rel=>exact⟨_,rfl,G5.out.trans (Gs.of U6.out),LP.out.1⟩
    case measure=>rw[HM.out];exact LP.out.2
end
section
variable {V0:World} {v:Value} {l:List Te} {b:Nat}
theorem zNq (P:Px9 V0 v l b) (M S:Nat->Rs Tr) (hM:kB l M) (hS:kB l S) (m:Nat) (hm:2*l.length+2<=m) (top:Bool) (i:Nat) (e:Int) (hi:i<=l.length)
  (HM:Hid (∀s:SS,s.1<=l.length->(s.2=0->e=0/\i<s.1)->FnAt V0 v b 21 #[.agg #[.pointer (some ⟨b,0,none⟩)]] M s)) (HS:Hid (∀s:SS,s.1<=l.length->(s.2=0->e=0/\i<s.1)->FnAt V0 v b 24 #[.agg #[.pointer (some ⟨b,0,none⟩)]] S s)):RoAt V0 v b 53 #[.agg #[.pointer (some ⟨b,0,none⟩)],.bool top] (declP B.nck B.long l (typL B.nck B.long (tks l)) (exprF B.nck B.long l m) M S (fun j=>consL B.nck B.long (tks l) j .nil) top) (i,e):=fun w hu h=>by
 have hb:b<w.heap.size:=qC h;have hbV:=P.Q.hb;have hll:=P.Q.hl;obtain⟨W0,hW0⟩:∃W0,w.alloc (.cells #[.pointer (some ⟨b,0,none⟩)] 51)=W0:=⟨_,rfl⟩;have u0:Up w W0:=by rw[<- hW0];exact(Up.refl w).alloc _
 have b1:W0.heap[w.heap.size]? = some (.cells #[.pointer (some ⟨b,0,none⟩)] 51 (0,0)):=by rw[<- hW0];exact heap_alloc_new w _
 have hgU:∀w',Gs (On b) W0 w'->Up V0 w':=fun w' g=>g.up (hu.trans u0) fun q hq=>by rw[hq];exact hbV
 have hgB:∀w',Gs (On b) W0 w'->w'.cell? ⟨w.heap.size,0,none⟩=some (.pointer (some ⟨b,0,none⟩)):=fun w' g=>cell_of_row w' w.heap.size 0 _ _ _ (g.row b1 (by unfold On;omega))
 have hzW0:W0.heap.size=w.heap.size+1:=by rw[<- hW0];simp
 have k0:=hgB W0 (Gs.refl _ _);have p0:=h.up u0;obtain⟨G,hG⟩:∃G,at0 (declP B.nck B.long l (typL B.nck B.long (tks l)) (exprF B.nck B.long l m) M S (fun j=>consL B.nck B.long (tks l) j .nil) top) (i,e)=G:=⟨_,rfl⟩;have hG1:=hG.symm;rw[zQc] at hG1;rw[hG];have HG:=Lib.hid hG1;have HPX:=Lib.hid P;have HGU:=Lib.hid hgU;have HGB:=Lib.hid hgB;have HW0:=Lib.hid hW0;have U0:=Lib.hid u0;have B1:=Lib.hid b1;have P0:=Lib.hid p0;clear hW0 u0 b1 h hu P hgU hgB p0;clear hG hG1
 go_enter Tryz.func53,Tryz.ntmps53
 obtain⟨dK,hdK⟩:∃d,tkB (tks l) i e kVal=d:=⟨_,rfl⟩;have cT:Calls Tryz.prog 38 #[.pointer (some ⟨b,0,none⟩),.string kVal] W0 (fun en w'=>en = .returned (.bool dK)/\Gs (On b) W0 w'/\Psr w' b v (if dK then i+1 else i) e):=by
  cases dK with
  | true=>exact qN HPX.out.Q hi kVal hdK W0 (HGU.out _ (Gs.refl _ _)) (P0.out)
  | false=>exact qI HPX.out.Q hi kVal hdK W0 (HGU.out _ (Gs.refl _ _)) (P0.out)
 have HK:=Lib.hid hdK;clear hdK;go_wp2_with fail;rw[HW0.out];refine cT.mono ?_;rintro en wT ⟨rfl,gT,pT⟩;have gT:Gs (On b) W0 wT:=(Gs.refl _ _).trans gT;have kT:=HGB.out wT gT;have GT:=Lib.hid gT;have PT:=Lib.hid pT;clear gT pT cT
 cases dK with
 | true=>
  have PT:Hid (Psr wT b v (i+1) e):=PT;have hG:=HG.out;rw[HK.out,if_pos rfl,zX] at hG;have HG:=Lib.hid hG;clear hG;have cX:=zQ6 HPX.out m hm (i+1) e (yK hi HK.out) wT (HGU.out wT GT.out) PT.out;go_wp2_with fail;refine cX.mono ?_;rintro en wX hP;obtain⟨A,rfl,gX,pX,nX⟩:=hP.psr;have GX:=Lib.hid gX;have PX:=Lib.hid pX;have NX:=Lib.hid nX;clear gX pX nX hP;go_wp2_with fail
  go_ret
  rw[HG.out];exact⟨PoT.got ((Gs.of U0.out).trans (GT.out.trans GX.out)) PX.out fun t j ht=>(NX.out t j ht).base (by have:=U0.out.size;have:=GT.out.size;omega),fun h0=>absurd (vN HK.out) h0⟩
 | false=>
  have PT:Hid (Psr wT b v i e):=PT;have hG:=HG.out;rw[HK.out,if_neg Bool.false_ne_true] at hG;have HG:=Lib.hid hG;clear hG HK;obtain⟨wN1,hwN⟩:∃x,wT=x:=⟨_,rfl⟩;rw[hwN] at GT PT kT ⊢;clear hwN;have GN:=GT;have PN:=PT;have kN1:=kT;clear GT PT kT;obtain⟨dK,hdK⟩:∃d,tkB (tks l) i e kType=d:=⟨_,rfl⟩;have cT:Calls Tryz.prog 38 #[.pointer (some ⟨b,0,none⟩),.string kType] wN1 (fun en w'=>en = .returned (.bool dK)/\Gs (On b) wN1 w'/\Psr w' b v (if dK then i+1 else i) e):=by
   cases dK with
   | true=>exact qN HPX.out.Q hi kType hdK wN1 (HGU.out _ (GN.out)) (PN.out)
   | false=>exact qI HPX.out.Q hi kType hdK wN1 (HGU.out _ (GN.out)) (PN.out)
  have HK:=Lib.hid hdK;clear hdK;go_wp2_with fail;refine cT.mono ?_;rintro en wT ⟨rfl,gT,pT⟩;have gT:Gs (On b) W0 wT:=(GN.out).trans gT;have kT:=HGB.out wT gT;have GT:=Lib.hid gT;have PT:=Lib.hid pT;clear gT pT cT
  cases dK with
  | true=>
   have PT:Hid (Psr wT b v (i+1) e):=PT;have hG:=HG.out;rw[HK.out,if_pos rfl,zX] at hG;have HG:=Lib.hid hG;clear hG;have cX:=mI HPX.out 71 48 #[.agg #[.pointer (some ⟨b,0,none⟩)]] #[] _ (by simp) fN (typL B.nck B.long (tks l)) jC kEq (i+1) e (yK hi HK.out) (nL HPX.out (kS (tks l) kEq (nS B.nck (tks l) (i+1,e))).1 (kS (tks l) kEq (nS B.nck (tks l) (i+1,e))).2 (zI l kEq (kJ l B.nck (s:=(i+1,e)) (yK hi HK.out)))) wT (HGU.out wT GT.out) PT.out;go_wp2_with fail;refine cX.mono ?_;rintro en wX hP;obtain⟨A,rfl,gX,pX,nX⟩:=hP.psr;have GX:=Lib.hid gX;have PX:=Lib.hid pX;have NX:=Lib.hid nX;clear gX pX nX hP;go_wp2_with fail
   go_ret
   rw[HG.out];exact⟨PoT.got ((Gs.of U0.out).trans (GT.out.trans GX.out)) PX.out fun t j ht=>(NX.out t j ht).base (by have:=U0.out.size;have:=GT.out.size;omega),fun h0=>absurd (vN HK.out) h0⟩
  | false=>
   have PT:Hid (Psr wT b v i e):=PT;have hG:=HG.out;rw[HK.out,if_neg Bool.false_ne_true] at hG;have HG:=Lib.hid hG;clear hG HK;obtain⟨wN2,hwN⟩:∃x,wT=x:=⟨_,rfl⟩;rw[hwN] at GT PT kT ⊢;clear hwN;have GN:=GT;have PN:=PT;have kN2:=kT;clear GT PT kT;obtain⟨dK,hdK⟩:∃d,tkB (tks l) i e kData=d:=⟨_,rfl⟩;have cT:Calls Tryz.prog 38 #[.pointer (some ⟨b,0,none⟩),.string kData] wN2 (fun en w'=>en = .returned (.bool dK)/\Gs (On b) wN2 w'/\Psr w' b v (if dK then i+1 else i) e):=by
    cases dK with
    | true=>exact qN HPX.out.Q hi kData hdK wN2 (HGU.out _ (GN.out)) (PN.out)
    | false=>exact qI HPX.out.Q hi kData hdK wN2 (HGU.out _ (GN.out)) (PN.out)
   have HK:=Lib.hid hdK;clear hdK;go_wp2_with fail;refine cT.mono ?_;rintro en wT ⟨rfl,gT,pT⟩;have gT:Gs (On b) W0 wT:=(GN.out).trans gT;have kT:=HGB.out wT gT;have GT:=Lib.hid gT;have PT:=Lib.hid pT;clear gT pT cT
   cases dK with
   | true=>
    have PT:Hid (Psr wT b v (i+1) e):=PT;have hG:=HG.out;rw[HK.out,if_pos rfl,zX] at hG;have HG:=Lib.hid hG;clear hG;have cX:=pD HPX.out 72 (i+1) e (yK hi HK.out) wT (HGU.out wT GT.out) PT.out;go_wp2_with fail;refine cX.mono ?_;rintro en wX hP;obtain⟨A,rfl,gX,pX,nX⟩:=hP.psr;have GX:=Lib.hid gX;have PX:=Lib.hid pX;have NX:=Lib.hid nX;clear gX pX nX hP;go_wp2_with fail
    go_ret
    rw[HG.out];exact⟨PoT.got ((Gs.of U0.out).trans (GT.out.trans GX.out)) PX.out fun t j ht=>(NX.out t j ht).base (by have:=U0.out.size;have:=GT.out.size;omega),fun h0=>absurd (vN HK.out) h0⟩
   | false=>
    have PT:Hid (Psr wT b v i e):=PT;have hG:=HG.out;rw[HK.out,if_neg Bool.false_ne_true] at hG;have HG:=Lib.hid hG;clear hG HK;obtain⟨wN3,hwN⟩:∃x,wT=x:=⟨_,rfl⟩;rw[hwN] at GT PT kT ⊢;clear hwN;have GN:=GT;have PN:=PT;have kN3:=kT;clear GT PT kT;obtain⟨dK,hdK⟩:∃d,tkB (tks l) i e qW=d:=⟨_,rfl⟩;have cT:Calls Tryz.prog 38 #[.pointer (some ⟨b,0,none⟩),.string qW] wN3 (fun en w'=>en = .returned (.bool dK)/\Gs (On b) wN3 w'/\Psr w' b v (if dK then i+1 else i) e):=by
     cases dK with
     | true=>exact qN HPX.out.Q hi qW hdK wN3 (HGU.out _ (GN.out)) (PN.out)
     | false=>exact qI HPX.out.Q hi qW hdK wN3 (HGU.out _ (GN.out)) (PN.out)
    have HK:=Lib.hid hdK;clear hdK;go_wp2_with fail;refine cT.mono ?_;rintro en wT ⟨rfl,gT,pT⟩;have gT:Gs (On b) W0 wT:=(GN.out).trans gT;have kT:=HGB.out wT gT;have GT:=Lib.hid gT;have PT:=Lib.hid pT;clear gT pT cT
    cases dK with
    | true=>
     have PT:Hid (Psr wT b v (i+1) e):=PT;have hG:=HG.out;rw[HK.out,if_pos rfl,zX] at hG;have HG:=Lib.hid hG;clear hG;have cX:=mI HPX.out 73 21 #[.agg #[.pointer (some ⟨b,0,none⟩)]] #[] _ (by simp) zWl M hM kEq (i+1) e (yK hi HK.out) (HM.out (kS (tks l) kEq (nS B.nck (tks l) (i+1,e))) (zI l kEq (kJ l B.nck (s:=(i+1,e)) (yK hi HK.out))) fun h0=>(by obtain⟨a1,b1⟩:=yP h0;obtain⟨a2,b2⟩:=mG a1;have b2:i+1<_:=b2;exact⟨a2,by omega⟩)) wT (HGU.out wT GT.out) PT.out;go_wp2_with fail;refine cX.mono ?_;rintro en wX hP;obtain⟨A,rfl,gX,pX,nX⟩:=hP.psr;have GX:=Lib.hid gX;have PX:=Lib.hid pX;have NX:=Lib.hid nX;clear gX pX nX hP;go_wp2_with fail
     go_ret
     rw[HG.out];exact⟨PoT.got ((Gs.of U0.out).trans (GT.out.trans GX.out)) PX.out fun t j ht=>(NX.out t j ht).base (by have:=U0.out.size;have:=GT.out.size;omega),fun h0=>absurd (vN HK.out) h0⟩
    | false=>
     have PT:Hid (Psr wT b v i e):=PT;have hG:=HG.out;rw[HK.out,if_neg Bool.false_ne_true] at hG;have HG:=Lib.hid hG;clear hG HK;obtain⟨wN4,hwN⟩:∃x,wT=x:=⟨_,rfl⟩;rw[hwN] at GT PT kT ⊢;clear hwN;have GN:=GT;have PN:=PT;have kN4:=kT;clear GT PT kT;obtain⟨dK,hdK⟩:∃d,tkB (tks l) i e wD=d:=⟨_,rfl⟩;have cT:Calls Tryz.prog 38 #[.pointer (some ⟨b,0,none⟩),.string wD] wN4 (fun en w'=>en = .returned (.bool dK)/\Gs (On b) wN4 w'/\Psr w' b v (if dK then i+1 else i) e):=by
      cases dK with
      | true=>exact qN HPX.out.Q hi wD hdK wN4 (HGU.out _ (GN.out)) (PN.out)
      | false=>exact qI HPX.out.Q hi wD hdK wN4 (HGU.out _ (GN.out)) (PN.out)
     have HK:=Lib.hid hdK;clear hdK;go_wp2_with fail;refine cT.mono ?_;rintro en wT ⟨rfl,gT,pT⟩;have gT:Gs (On b) W0 wT:=(GN.out).trans gT;have kT:=HGB.out wT gT;have GT:=Lib.hid gT;have PT:=Lib.hid pT;clear gT pT cT
     cases dK with
     | true=>
      have PT:Hid (Psr wT b v (i+1) e):=PT;have hG:=HG.out;rw[HK.out,if_pos rfl,zX] at hG;have HG:=Lib.hid hG;clear hG;have est:=zWn (l:=l) 76 (i+1,e);have cX:=wV HPX.out (i+1,e) (yK hi HK.out) wT (HGU.out wT GT.out) PT.out;obtain⟨sX,hsX⟩:∃s,nS B.long (tks l) (i+1,e)=s:=⟨_,rfl⟩;obtain⟨nm,hnm⟩:∃n,nmS (nam B.long (tks l) (i+1,e).1) (i+1,e).2=n:=⟨_,rfl⟩;rw[hsX,hnm] at cX est;have hG:=HG.out;rw[est] at hG;have HG:=Lib.hid hG;clear hsX hnm est hG;go_wp2_with fail;refine cX.mono ?_;rintro en wX ⟨rfl,gX,pX⟩;have kX:=HGB.out wX (GT.out.trans gX);have GX:=Lib.hid gX;have PX:=Lib.hid pX;clear gX pX cX;go_wp2_with fail;refine(jH 76 nm none 0 0 wX).mono ?_;rintro en wY ⟨rfl,hwY⟩;have uY:Up wX wY:=by rw[hwY];exact(Up.refl _).alloc _
      have nbY:Nb wY wX.heap.size ⟨76,0,nm,nob⟩ (.slice none 0 0):=by rw[hwY];exact heap_alloc_new wX _
      have UY:=Lib.hid uY;have NY:=Lib.hid nbY;clear uY nbY hwY;go_wp2_with fail
      go_ret
      rw[HG.out];have ez:=qY (nd 76 nm .nil) sX;have z1:=GT.out.size;have z2:=GX.out.size;have z0:=U0.out.size;exact⟨PoT.got (((Gs.of U0.out).trans (GT.out.trans GX.out)).trans (Gs.of UY.out)) (by rw[show rI _=_ from congrArg Prod.fst ez,show rE _=_ from congrArg Prod.snd ez];exact PX.out.up UY.out) fun t j ht=>(by obtain⟨h0,rfl⟩:=yY _ _ ht;exact kR (x:=⟨76,0,nm,nob⟩) NY.out ⟨by omega,qC NY.out⟩),fun h0=>absurd (vN HK.out) h0⟩
     | false=>
      have PT:Hid (Psr wT b v i e):=PT;have hG:=HG.out;rw[HK.out,if_neg Bool.false_ne_true] at hG;have HG:=Lib.hid hG;clear hG HK;obtain⟨wN5,hwN⟩:∃x,wT=x:=⟨_,rfl⟩;rw[hwN] at GT PT kT ⊢;clear hwN;have GN:=GT;have PN:=PT;have kN5:=kT;clear GT PT kT;obtain⟨dK,hdK⟩:∃d,tkB (tks l) i e zP=d:=⟨_,rfl⟩;have cT:Calls Tryz.prog 38 #[.pointer (some ⟨b,0,none⟩),.string zP] wN5 (fun en w'=>en = .returned (.bool dK)/\Gs (On b) wN5 w'/\Psr w' b v (if dK then i+1 else i) e):=by
       cases dK with
       | true=>exact qN HPX.out.Q hi zP hdK wN5 (HGU.out _ (GN.out)) (PN.out)
       | false=>exact qI HPX.out.Q hi zP hdK wN5 (HGU.out _ (GN.out)) (PN.out)
      have HK:=Lib.hid hdK;clear hdK;go_wp2_with fail;refine cT.mono ?_;rintro en wT ⟨rfl,gT,pT⟩;have gT:Gs (On b) W0 wT:=(GN.out).trans gT;have kT:=HGB.out wT gT;have GT:=Lib.hid gT;have PT:=Lib.hid pT;clear gT pT cT
      cases dK with
      | true=>
       have PT:Hid (Psr wT b v (i+1) e):=PT;have hG:=HG.out;rw[HK.out,if_pos rfl,zX] at hG;have HG:=Lib.hid hG;clear hG;have est:=zWn (l:=l) 77 (i+1,e);have cX:=wV HPX.out (i+1,e) (yK hi HK.out) wT (HGU.out wT GT.out) PT.out;obtain⟨sX,hsX⟩:∃s,nS B.long (tks l) (i+1,e)=s:=⟨_,rfl⟩;obtain⟨nm,hnm⟩:∃n,nmS (nam B.long (tks l) (i+1,e).1) (i+1,e).2=n:=⟨_,rfl⟩;rw[hsX,hnm] at cX est;have hG:=HG.out;rw[est] at hG;have HG:=Lib.hid hG;clear hsX hnm est hG;go_wp2_with fail;refine cX.mono ?_;rintro en wX ⟨rfl,gX,pX⟩;have kX:=HGB.out wX (GT.out.trans gX);have GX:=Lib.hid gX;have PX:=Lib.hid pX;clear gX pX cX;go_wp2_with fail;refine(jH 77 nm none 0 0 wX).mono ?_;rintro en wY ⟨rfl,hwY⟩;have uY:Up wX wY:=by rw[hwY];exact(Up.refl _).alloc _
       have nbY:Nb wY wX.heap.size ⟨77,0,nm,nob⟩ (.slice none 0 0):=by rw[hwY];exact heap_alloc_new wX _
       have UY:=Lib.hid uY;have NY:=Lib.hid nbY;clear uY nbY hwY;go_wp2_with fail
       go_ret
       rw[HG.out];have ez:=qY (nd 77 nm .nil) sX;have z1:=GT.out.size;have z2:=GX.out.size;have z0:=U0.out.size;exact⟨PoT.got (((Gs.of U0.out).trans (GT.out.trans GX.out)).trans (Gs.of UY.out)) (by rw[show rI _=_ from congrArg Prod.fst ez,show rE _=_ from congrArg Prod.snd ez];exact PX.out.up UY.out) fun t j ht=>(by obtain⟨h0,rfl⟩:=yY _ _ ht;exact kR (x:=⟨77,0,nm,nob⟩) NY.out ⟨by omega,qC NY.out⟩),fun h0=>absurd (vN HK.out) h0⟩
      | false=>
       have PT:Hid (Psr wT b v i e):=PT;have hG:=HG.out;rw[HK.out,if_neg Bool.false_ne_true] at hG;have HG:=Lib.hid hG;clear hG HK;obtain⟨wN6,hwN⟩:∃x,wT=x:=⟨_,rfl⟩;rw[hwN] at GT PT kT ⊢;clear hwN;have GN:=GT;have PN:=PT;have kN6:=kT;clear GT PT kT
       cases top with
       | false=>
        have hG:=HG.out;simp only[Bool.false_and,Bool.false_eq_true,if_false] at hG;have HG:=Lib.hid hG;clear hG;go_wp2_with fail
        go_ret
        rw[HG.out];exact⟨PoT.gone (s:=(i,e)) ((Gs.of U0.out).trans GN.out) PN.out,fun _=>rfl⟩
       | true=>
        have hG:=HG.out;simp only[Bool.true_and] at hG;have HG:=Lib.hid hG;clear hG;obtain⟨dK,hdK⟩:∃d,tkB (tks l) i e yX=d:=⟨_,rfl⟩;have cT:Calls Tryz.prog 38 #[.pointer (some ⟨b,0,none⟩),.string yX] wN6 (fun en w'=>en = .returned (.bool dK)/\Gs (On b) wN6 w'/\Psr w' b v (if dK then i+1 else i) e):=by
         cases dK with
         | true=>exact qN HPX.out.Q hi yX hdK wN6 (HGU.out _ (GN.out)) (PN.out)
         | false=>exact qI HPX.out.Q hi yX hdK wN6 (HGU.out _ (GN.out)) (PN.out)
        have HK:=Lib.hid hdK;clear hdK;go_wp2_with fail;refine cT.mono ?_;rintro en wT ⟨rfl,gT,pT⟩;have gT:Gs (On b) W0 wT:=(GN.out).trans gT;have kT:=HGB.out wT gT;have GT:=Lib.hid gT;have PT:=Lib.hid pT;clear gT pT cT
        cases dK with
        | true=>
         have PT:Hid (Psr wT b v (i+1) e):=PT;have hG:=HG.out;rw[HK.out,if_pos rfl,zX] at hG;have HG:=Lib.hid hG;clear hG;have cX:=mI HPX.out 74 24 #[.agg #[.pointer (some ⟨b,0,none⟩)]] #[] _ (by simp) iI S hS kEq (i+1) e (yK hi HK.out) (HS.out (kS (tks l) kEq (nS B.nck (tks l) (i+1,e))) (zI l kEq (kJ l B.nck (s:=(i+1,e)) (yK hi HK.out))) fun h0=>(by obtain⟨a1,b1⟩:=yP h0;obtain⟨a2,b2⟩:=mG a1;have b2:i+1<_:=b2;exact⟨a2,by omega⟩)) wT (HGU.out wT GT.out) PT.out;go_wp2_with fail;refine cX.mono ?_;rintro en wX hP;obtain⟨A,rfl,gX,pX,nX⟩:=hP.psr;have GX:=Lib.hid gX;have PX:=Lib.hid pX;have NX:=Lib.hid nX;clear gX pX nX hP;go_wp2_with fail
         go_ret
         rw[HG.out];exact⟨PoT.got ((Gs.of U0.out).trans (GT.out.trans GX.out)) PX.out fun t j ht=>(NX.out t j ht).base (by have:=U0.out.size;have:=GT.out.size;omega),fun h0=>absurd (vN HK.out) h0⟩
        | false=>
         have PT:Hid (Psr wT b v i e):=PT;have hG:=HG.out;rw[HK.out,if_neg Bool.false_ne_true] at hG;have HG:=Lib.hid hG;clear hG HK;obtain⟨wN7,hwN⟩:∃x,wT=x:=⟨_,rfl⟩;rw[hwN] at GT PT kT ⊢;clear hwN;have GN:=GT;have PN:=PT;have kN7:=kT;clear GT PT kT;obtain⟨dK,hdK⟩:∃d,tkB (tks l) i e jF=d:=⟨_,rfl⟩;have cT:Calls Tryz.prog 38 #[.pointer (some ⟨b,0,none⟩),.string jF] wN7 (fun en w'=>en = .returned (.bool dK)/\Gs (On b) wN7 w'/\Psr w' b v (if dK then i+1 else i) e):=by
          cases dK with
          | true=>exact qN HPX.out.Q hi jF hdK wN7 (HGU.out _ (GN.out)) (PN.out)
          | false=>exact qI HPX.out.Q hi jF hdK wN7 (HGU.out _ (GN.out)) (PN.out)
         have HK:=Lib.hid hdK;clear hdK;go_wp2_with fail;refine cT.mono ?_;rintro en wT ⟨rfl,gT,pT⟩;have gT:Gs (On b) W0 wT:=(GN.out).trans gT;have kT:=HGB.out wT gT;have GT:=Lib.hid gT;have PT:=Lib.hid pT;clear gT pT cT
         cases dK with
         | true=>
          have PT:Hid (Psr wT b v (i+1) e):=PT;have hG:=HG.out;rw[HK.out,if_pos rfl,zX] at hG;have HG:=Lib.hid hG;clear hG;have cX:=zYs HPX.out S M hS hM (i+1) e (yK hi HK.out) (fun s hs h=>HS.out s hs fun h0=>(by obtain⟨a,b⟩:=h h0;exact⟨a,by omega⟩)) (fun s hs h=>HM.out s hs fun h0=>(by obtain⟨a,b⟩:=h h0;exact⟨a,by omega⟩)) wT (HGU.out wT GT.out) PT.out;go_wp2_with fail;refine cX.mono ?_;rintro en wX hP;obtain⟨A,rfl,gX,pX,nX⟩:=hP.psr;have GX:=Lib.hid gX;have PX:=Lib.hid pX;have NX:=Lib.hid nX;clear gX pX nX hP;go_wp2_with fail
          go_ret
          rw[HG.out];exact⟨PoT.got ((Gs.of U0.out).trans (GT.out.trans GX.out)) PX.out fun t j ht=>(NX.out t j ht).base (by have:=U0.out.size;have:=GT.out.size;omega),fun h0=>absurd (vN HK.out) h0⟩
         | false=>
          have PT:Hid (Psr wT b v i e):=PT;have hG:=HG.out;rw[HK.out,if_neg Bool.false_ne_true] at hG;have HG:=Lib.hid hG;clear hG HK;go_wp2_with fail
          go_ret
          rw[HG.out];exact⟨PoT.gone (s:=(i,e)) ((Gs.of U0.out).trans GT.out) PT.out,fun _=>rfl⟩
end
end Go.Proofs.YtgeghilbikljcaaGreatDoor
