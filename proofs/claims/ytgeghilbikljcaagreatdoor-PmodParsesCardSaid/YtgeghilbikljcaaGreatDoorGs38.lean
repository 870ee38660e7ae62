/-
  Layer 8, the document's side: sig: its wheres.
-/
import Derived.Test.YtgeghilbikljcaaGreatDoorGs37
set_option maxHeartbeats 40000000
set_option maxRecDepth 100000
namespace Go.Proofs.YtgeghilbikljcaaGreatDoor
open Go.RowKit
theorem NdM.lit {W w:World} {A:Option Addr} {x:Nod} (hW:W.heap.size<=w.heap.size):NdM W ((w.alloc (.cells #[.pointer A] 24)).alloc (.cells #[.int .i64 x.k,.int .i64 x.n,.string x.a,.string x.m,.slice (some ⟨w.heap.size,0,none⟩) 1 1] 44)) (w.heap.size+1) x (.slice (some ⟨w.heap.size,0,none⟩) 1 1) [.pointer A]:=by
 have e1:(w.alloc (.cells #[.pointer A] 24)).heap.size=w.heap.size+1:=by simp
 refine⟨?_,?_,fun u hu=>⟨_,List.mem_singleton.1 hu⟩,?_,by omega⟩
 ·rw[<- e1]
  exact heap_alloc_new _ _
 ·exact zQh ((((Up.refl _).alloc _:Up (w.alloc (.cells #[.pointer A] 24)) _)).row (heap_alloc_new w _)) hW
 ·intro e
  have e:w.heap.size=w.heap.size+1:=Option.some.inj e;omega
theorem KdM.lit {W w:World} {A:Option Addr} {x:Nod} {t:Tr} (ht:NewT W w (.pointer A) t):KdM W ((w.alloc (.cells #[.pointer A] 24)).alloc (.cells #[.int .i64 x.k,.int .i64 x.n,.string x.a,.string x.m,.slice (some ⟨w.heap.size,0,none⟩) 1 1] 44)) (w.heap.size+1) (.slice (some ⟨w.heap.size,0,none⟩) 1 1) [.pointer A] (fr1 t):=by
 have u:Up w ((w.alloc (.cells #[.pointer A] 24)).alloc (.cells #[.int .i64 x.k,.int .i64 x.n,.string x.a,.string x.m,.slice (some ⟨w.heap.size,0,none⟩) 1 1] 44)):=((Up.refl w).alloc _).alloc _;refine PtF.one1 (InT.keep ht (fun q hq=>⟨⟨hq.1,Nat.lt_of_lt_of_le hq.2 u.size⟩,by have:=hq.2;omega,fun e=>?_⟩) fun q hq=>Below.block u q hq.2);have e:w.heap.size=q:=Option.some.inj e;have:=hq.2;omega
inductive WhQ (l:List Te) (O:UInt8->Nat->Rs Tr) (R:Rs Tr) (i:Nat) (w wr:World) (iv va ev:Value):Prop
 | good (a:Tr) (j f:Nat) (hij:i<j) (hj:j<=l.length) (hf:l.length+1<=f+j) (hR:R=yD B.nck B.long l O f a j) (hn:NewT w wr va a) (h1:iv = .int .i64 (j:Int)) (h2:ev = .int .i64 0):WhQ l O R i w wr iv va ev
 | bad (p:Nat) (r:Int) (A:Option Addr) (hr:¬r=0) (hR:R = .inr (p,r)) (hn:va = .pointer A) (h1:iv = .int .i64 (p:Int)) (h2:ev = .int .i64 r):WhQ l O R i w wr iv va ev
theorem zB7 {l:List Te} {O:UInt8->Nat->Rs Tr} {v:Value} {i:Nat} (w:World) (H:Rn8 l O w v i) (Bd:Nat->Rs Tr) (hBd:In l.length i (Bd i)) (n:Nat) (hn:l.length<=n+i)
  (cB:Calls Tryz.prog 49 #[v,.int .i64 (i:Int)] w (qJ (Bd i) w)) :
  Calls Tryz.prog 25 #[v,.int .i64 (i:Int)] w (yO (thn (Bd i) fun s j=>yD B.nck B.long l O n s j) w):=by
 have HH:=Lib.hid H;have hl:=H.hl;obtain⟨X,hX⟩:∃X,Bd i=X:=⟨_,rfl⟩;rw[hX] at cB hBd ⊢;obtain⟨R,hR⟩:∃R,thn X (fun s j=>yD B.nck B.long l O n s j)=R:=⟨_,rfl⟩;have HR:=Lib.hid hR;have HIN:=Lib.hid hBd;rw[hR];clear hX hR hBd H
 go_enter Tryz.func25,Tryz.ntmps25
 go_wp2_with fail;refine cB.mono ?_;rintro en w1 ⟨va,ja,ea,rfl,hV,u1⟩;have hst:WhQ l O R i w w1 (.int .i64 ja) va (.int .i64 ea):=by
  have hin:=HIN.out;have hr:=HR.out
  cases X with
  | inl r=>
   obtain⟨s,m⟩:=r;obtain⟨h1,rfl,rfl⟩:=hV;have hX:i<m/\m<=l.length:=hin;exact .good s m n (by omega) hX.2 (by omega) hr.symm h1 rfl rfl
  | inr r=>
   obtain⟨p,r⟩:=r;obtain⟨rfl,rfl,A,rfl⟩:=hV;exact .bad p ea A (hin.ne rfl) hr.symm rfl rfl rfl
 have HST:=Lib.hid hst;clear hst hV cB;go_wp2_with fail
 go_loopw [1,7,8,9] (fun iv va ev _ wr=>WhQ l O R i w wr iv va ev/\Up w wr) (fun iv _ ev _ _=>(if intOf ev=0 then 1 else 0)+(l.length-(intOf iv).toNat))
 case atStart=>exact⟨HST.out,u1⟩
 case round=>
  obtain⟨hst,hu⟩:=hrel
  cases hst with
  | bad p r A hr hR hn h1 h2=>
   subst h1 h2 hn;have HRR:=Lib.hid hR;clear hR;go_wp2_with fail
   go_ret3
   exact⟨_,_,_,rfl,by rw[HRR.out];exact⟨rfl,rfl,rfl⟩,hu⟩
  | good a j f hij hj hf hR hn h1 h2=>
   subst h1 h2;obtain⟨o1,p1,rfl⟩:=InT.ptr hn;obtain⟨f,rfl⟩:∃g,f=g+1:=⟨f-1,by omega⟩;have hwj:IntKind.i64.wrap ((j:Int)+1)=((j+1:Nat):Int):=by rw[IntKind.wrap_i64]<;>omega
   have c1:=HH.out.key j xP wr hu;have hR:R=if key (tks l) j xP then thn (partS B.nck B.long l O fA (j+1) ⟨nob,nob,fr1 a⟩) fun p m=>yD B.nck B.long l O f (⟨52,0,p.nm,p.mrk⟩,p.ks) m else .inl (a,j):=hR
   have HN:=Lib.hid hn;have HU:=Lib.hid hu;have hWz:=hu.size
   cases hk:key (tks l) j xP with
   | false=>
    rw[hk] at hR c1;have HR:=Lib.hid (show R = .inl (a,j) from hR);clear hk hR hn hu;go_wp2_with fail;refine c1.mono ?_;rintro en w2 ⟨rfl,u2⟩;go_wp2_with fail
    go_ret3
    exact⟨_,_,_,rfl,by rw[HR.out];exact⟨HN.out.up u2,rfl,rfl⟩,HU.out.trans u2⟩
   | true=>
    have hlt:j+1<=l.length:=qG hk;rw[hk] at hR c1;have hin:=fT (nk:=B.nck) (lg:=B.long) (l:=l) (O:=O) HH.out.inO fA (j+1) ⟨nob,nob,fr1 a⟩ hlt;have cP:Hid (∀W1,Up wr W1->Calls Tryz.prog 50 #[v,.int .i64 ((j+1:Nat):Int),.pointer (some ⟨W1.heap.size+1,0,none⟩),.string ⟨fA.toArray⟩] ((W1.alloc (.cells #[.pointer (some ⟨o1,p1,none⟩)] 24)).alloc (.cells #[.int .i64 52,.int .i64 0,.string ⟨#[]⟩,.string ⟨#[]⟩,.slice (some ⟨W1.heap.size,0,none⟩) 1 1] 44)) (PrP w (W1.heap.size+1) ⟨52,0,nob,nob⟩ (partS B.nck B.long l O fA (j+1) ⟨nob,nob,fr1 a⟩) ((W1.alloc (.cells #[.pointer (some ⟨o1,p1,none⟩)] 24)).alloc (.cells #[.int .i64 52,.int .i64 0,.string ⟨#[]⟩,.string ⟨#[]⟩,.slice (some ⟨W1.heap.size,0,none⟩) 1 1] 44)))):=Lib.hid fun W1 u=>by
     have uu:Up w ((W1.alloc (.cells #[.pointer (some ⟨o1,p1,none⟩)] 24)).alloc (.cells #[.int .i64 52,.int .i64 0,.string ⟨#[]⟩,.string ⟨#[]⟩,.slice (some ⟨W1.heap.size,0,none⟩) 1 1] 44)):=((HU.out.trans u).alloc _).alloc _;exact HH.out.part (j+1) (by omega) hlt fA (by decide) (by decide) w _ (Nat.le_refl _) uu uu.size (W1.heap.size+1) ⟨52,0,nob,nob⟩ _ _ (fr1 a) (by show 1<=10;omega) (NdM.lit (x:=⟨52,0,nob,nob⟩) (HU.out.trans u).size) (KdM.lit (x:=⟨52,0,nob,nob⟩) (HN.out.up u))
    obtain⟨X2,hX2⟩:∃X,partS B.nck B.long l O fA (j+1) ⟨nob,nob,fr1 a⟩=X:=⟨_,rfl⟩;rw[hX2] at hin cP hR;have HR:=Lib.hid (show R=thn X2 fun p m=>yD B.nck B.long l O f (⟨52,0,p.nm,p.mrk⟩,p.ks) m from hR);clear hk hR hn hu hX2;go_wp2_with fail;refine c1.mono ?_;rintro en w2 ⟨rfl,u2⟩;have cP:=cP.out w2 u2;have hz2:wr.heap.size<=w2.heap.size:=(show Up wr w2 from u2).size;have U2:=Lib.hid (((HU.out.trans u2).alloc (.cells #[.pointer (some ⟨o1,p1,none⟩)] 24)).alloc (.cells #[.int .i64 52,.int .i64 0,.string ⟨#[]⟩,.string ⟨#[]⟩,.slice (some ⟨w2.heap.size,0,none⟩) 1 1] 44));clear u2 c1;go_wp2_with fail;refine cP.mono ?_;rintro en w3 ⟨j3,e3,rfl,hP,g3⟩;have hu3:Up w w3:=g3.up U2.out fun q hq=>hq
    clear g3 cP
    cases X2 with
    | inr er=>
     obtain⟨q,er⟩:=er;obtain⟨rfl,rfl⟩:=hP;have hne:¬e3=0:=by have h:j+1<=q/\q<=l.length/\(e3=6\/e3=9):=hin;omega
     go_wp2_with fail;refine⟨⟨.bad q e3 _ hne HR.out rfl rfl rfl,hu3⟩,?_⟩;have h:j+1<=q/\q<=l.length/\_:=hin
     simp[intOf,hne]
     omega
    | inl pr=>
     obtain⟨p,q⟩:=pr;obtain⟨rfl,rfl,vo,ps,hnd,hkd⟩:=hP;have hq:j+1<=q/\q<=l.length:=hin;have HNT:=Lib.hid (hnd.tree hkd);clear hnd hkd hin;go_wp2_with fail;refine⟨⟨.good (⟨52,0,p.nm,p.mrk⟩,p.ks) q f (by omega) hq.2 (by omega) HR.out HNT.out rfl rfl,hu3⟩,?_⟩
     simp[intOf]
     omega
theorem KidsN.up8 {W w w':World} {v:Value} {f:Fr} (h:KidsN W w v f) (u:Up w w'):KidsN W w' v f:=by
 obtain⟨A,c,h1,h2,h3,h4⟩:=h;refine⟨A,c,h1,h2,h3,fun h0=>?_⟩;obtain⟨g,hA,hg,hf⟩:=h4 h0;exact⟨g,hA,⟨hg.1,Nat.lt_of_lt_of_le hg.2 u.size⟩,InF.keep (fun q hq=>⟨hq.1,Nat.lt_of_lt_of_le hq.2 u.size⟩) (fun q hq=>Below.block u q hq.2) hg hf⟩
theorem KidsN.node8 {W0 W w:World} {v:Value} {f:Fr} (h:KidsN W w v f) (k:Int) (s:ByteArray) (hW:W0.heap.size<=W.heap.size) (hw:W0.heap.size<=w.heap.size) :
  ∃A c,v = .slice A f.len c/\NewT W0 (w.alloc (.cells #[.int .i64 k,.int .i64 0,.string s,.string ⟨#[]⟩,.slice A f.len c] 44)) (.pointer (some ⟨w.heap.size,0,none⟩)) (nd k s f):=by
 obtain⟨A,c,rfl,hc,h2,h4⟩:=h;refine⟨A,c,rfl,?_⟩;obtain⟨W2,hW2⟩:∃W2,w.alloc (.cells #[.int .i64 k,.int .i64 0,.string s,.string ⟨#[]⟩,.slice A f.len c] 44)=W2:=⟨_,rfl⟩;have u2:Up w W2:=by rw[<- hW2];exact(Up.refl w).alloc _
 have z2:W2.heap.size=w.heap.size+1:=by rw[<- hW2];simp
 have s2:W2.heap[w.heap.size]? = some (.cells #[.int .i64 k,.int .i64 0,.string s,.string ⟨#[]⟩,.slice A f.len c] 44 (0,0)):=by rw[<- hW2];exact heap_alloc_new w _
 rw[hW2];refine⟨w.heap.size,0,A,c,rfl,⟨hw,by omega⟩,⟨_,_,s2⟩,cell_of_row W2 _ 0 _ _ _ s2,cell_of_row W2 _ 1 _ _ _ s2,cell_of_row W2 _ 2 _ _ _ s2,cell_of_row W2 _ 3 _ _ _ s2,cell_of_row W2 _ 4 _ _ _ s2,hc,fun h0=>?_⟩;obtain⟨g,rfl,hg,hf⟩:=h4 h0;exact⟨g,0,rfl,⟨by have:=hg.1;omega,by have:=hg.2;omega⟩,InF.keep (fun q hq=>⟨by have:=hq.1;omega,by have:=hq.2;omega⟩) (fun q hq=>Below.block u2 q hq.2) hg hf⟩
theorem zFk {l:List Te} {O:UInt8->Nat->Rs Tr} {v:Value} {i:Nat} (w:World) (H:Rn8 l O w v (i+1)) (hi:i<=l.length) (nf:Nat) (hnf:l.length<=nf+i) :
  Calls Tryz.prog 49 #[v,.int .i64 (i:Int)] w (qJ (bodyS B.nck l (fun j=>manyS B.nck B.long l O specR false nf j .nil) i) w):=by
 have hl:=H.hl;have CKS:Hid (∀(j:Nat) (W:World) (vk:Value) (ks:List ByteArray),j<=l.length->Up w W->TxS W vk ks->Calls Tryz.prog 69 #[v,.int .i64 (j:Int),vk] W (KeP (keysL (tks l) j ks) W)):=Lib.hid fun j W vk ks hj u h=>fH l j hj H.hl ks W v vk (H.tok.up u) h
 have CN:Hid (∀(W:World),Up w W->Calls Tryz.prog 71 #[v,.int .i64 (i:Int)] W (NaP (nam B.nck (tks l) i) W)):=Lib.hid fun W u=>by
  have c:=vF (tks l) (i:Int) W v (H.tok.up u).tkm (fun t ht=>by
   obtain⟨u,hu,rfl⟩:=List.mem_map.1 ht;exact H.hz u hu)
  rw[show namZ B.nck (tks l) (i:Int)=nam B.nck (tks l) i by unfold namZ;rw[if_pos (by omega),Int.toNat_natCast]] at c;exact c
 have c1:=H.key i kSigW w (Up.refl _);have HH:=Lib.hid H;clear H
 cases hk:key (tks l) i kSigW with
 | true=>
  have hi1:i+1<=l.length:=qG hk;rw[hk] at c1;have hmi:=fU (nk:=B.nck) (lg:=B.long) (l:=l) (O:=O) HH.out.inO specR false nf (i+1) .nil hi1;have cM:Hid (∀(vt:Value) (W:World),Up w W->RowsM W vt specR->Calls Tryz.prog 29 #[v,.int .i64 ((i+1:Nat):Int),vt,.bool false] W (fZ (manyS B.nck B.long l O specR false nf (i+1) .nil) W)):=Lib.hid fun vt W u hr=>uU HH.out hi1 specR zFf (by decide) false nf (by omega) vt W u hr
  have hwi:IntKind.i64.wrap ((i:Int)+1)=((i+1:Nat):Int):=by rw[IntKind.wrap_i64]<;>omega
  obtain⟨X,hX⟩:∃X,manyS B.nck B.long l O specR false nf (i+1) .nil=X:=⟨_,rfl⟩;have HR:Hid (bodyS B.nck l (fun j=>manyS B.nck B.long l O specR false nf j .nil) i=thn X fun f j=>thn (keysL (tks l) j [kEnd]) fun _ m=>.inl (nd 50 nob f,m)):=Lib.hid (by unfold bodyS;rw[hk,if_pos rfl,<- hX];rfl);rw[hX] at hmi cM;rw[HR.out];clear hk hX HR
  go_enter Tryz.func49,Tryz.ntmps49
  go_wp2_with fail;refine c1.mono ?_;rintro en w1 ⟨rfl,u1⟩;have U1:=Lib.hid (show Up w w1 from u1);clear u1 c1;go_wp2_with fail;refine(uT w1).mono ?_;rintro en w2 ⟨vt,rfl,hrm,u2⟩;have cM:=cM.out vt w2 (U1.out.trans u2) hrm;have U2:=Lib.hid (U1.out.trans u2);clear hrm u2;go_wp2_with fail;refine cM.mono ?_;rintro en w3 ⟨vk,f,j3,e3,rfl,hkv,hV,u3⟩;have U3:=Lib.hid (U2.out.trans u3);have hkz:w.heap.size<=w2.heap.size:=U2.out.size;clear u3 cM
  cases X with
  | inr er=>
   obtain⟨q,er⟩:=er;obtain⟨rfl,rfl,-⟩:=hV;have hne:¬e3=0:=by have h:i+1<=q/\q<=l.length/\(e3=6\/e3=9):=hmi;omega
   clear hkv;go_wp2_with fail
   go_ret3
   exact⟨_,_,_,rfl,⟨rfl,rfl,none,rfl⟩,U3.out⟩
  | inl pr=>
   obtain⟨f',q⟩:=pr;obtain⟨rfl,rfl,rfl⟩:=hV;have hq:i+1<=q/\q<=l.length:=hmi;obtain⟨w4,hw4⟩:∃w4,w3.alloc (.cells #[.string kEnd] 9)=w4:=⟨_,rfl⟩;have u4:Up w3 w4:=by rw[<- hw4];exact(Up.refl _).alloc _
   have ht:TxS w4 (.slice (some ⟨w3.heap.size,0,none⟩) 1 1) [kEnd]:=by rw[<- hw4];exact TxS.row1 w3 kEnd _
   have cKs:=CKS.out q w4 _ [kEnd] hq.2 (U3.out.trans u4) ht;have HKV:=Lib.hid (hkv.up8 u4);have U4:=Lib.hid (U3.out.trans u4);have HW4:=Lib.hid hw4;clear hkv u4 ht hw4;go_wp2_with fail;rw[show(w3.alloc (.cells #[.string ⟨#[101,110,100]⟩] 9))=w4 from HW4.out];refine cKs.mono ?_;rintro en w5 ⟨j5,e5,rfl,hK,u5⟩;obtain⟨A,c,rfl,hnode⟩:=(HKV.out.up8 u5).node8 (W0:=w) 50 nob hkz (U4.out.trans u5).size;have U5:=Lib.hid (U4.out.trans u5);have HND:=Lib.hid hnode;clear u5 hnode cKs;go_wp2_with fail;refine(zC 50 nob A f.len c w5).mono ?_;rintro en w6 ⟨rfl,rfl⟩;go_wp2_with fail
   go_ret3
   refine⟨_,_,_,rfl,?_,U5.out.alloc _⟩;obtain⟨Y,hY⟩:∃Y,keysL (tks l) q [kEnd]=Y:=⟨_,rfl⟩
   show RsV (thn (keysL (tks l) q [kEnd]) fun _ m=>.inl (nd 50 nob f,m)) _ _ _ _ _
   rw[hY] at hK ⊢
   cases Y with
   | inr y=>exact⟨hK.1,hK.2,_,rfl⟩
   | inl y=>exact⟨HND.out,hK.1,hK.2⟩
 | false=>
  rw[hk] at c1;have HR:Hid (bodyS B.nck l (fun j=>manyS B.nck B.long l O specR false nf j .nil) i=thn (nameQ B.nck (tks l) i []) fun s j=>.inl (nd 51 s .nil,j)):=Lib.hid (by unfold bodyS;rw[hk];rfl);rw[HR.out];have hwi:IntKind.i64.wrap ((i:Int)+1)=((i+1:Nat):Int):=by rw[IntKind.wrap_i64]<;>omega
  obtain⟨o,ho⟩:∃o,nam B.nck (tks l) i=o:=⟨_,rfl⟩;rw[ho] at CN;have HO:=Lib.hid ho;clear hk HR ho
  cases o with
  | none=>
   go_enter Tryz.func49,Tryz.ntmps49
   go_wp2_with fail;refine c1.mono ?_;rintro en w1 ⟨rfl,u1⟩;have cN:=CN.out w1 u1;go_wp2_with fail;refine cN.mono ?_;rintro en w2 ⟨rfl,u2⟩;go_wp2_with fail
   go_ret3
   refine⟨_,_,_,rfl,?_,Up.trans u1 u2⟩;unfold nameQ;rw[HO.out];exact⟨rfl,rfl,none,rfl⟩
  | some s=>
   go_enter Tryz.func49,Tryz.ntmps49
   go_wp2_with fail;refine c1.mono ?_;rintro en w1 ⟨rfl,u1⟩;have cN:=CN.out w1 u1;go_wp2_with fail;refine cN.mono ?_;rintro en w2 ⟨rfl,u2⟩;have U2:=Lib.hid (Up.trans u1 u2);clear u1 u2 cN c1;go_wp2_with fail;refine(zC 51 s none 0 0 w2).mono ?_;rintro en w6 ⟨rfl,rfl⟩;go_wp2_with fail
   go_ret3
   refine⟨_,_,_,rfl,?_,U2.out.alloc _⟩;unfold nameQ;rw[HO.out];exact⟨vD 51 s U2.out.size,by omega,rfl⟩
theorem zKy {W w:World} {vt:Value} {t:Tr} {x:Nod} (hW:W.heap.size<=w.heap.size) (ht:NewT W w vt t) :
  NewT W ((w.alloc (.cells #[vt] 24)).alloc (.cells #[.int .i64 x.k,.int .i64 x.n,.string x.a,.string x.m,.slice (some ⟨w.heap.size,0,none⟩) 1 1] 44)) (.pointer (some ⟨w.heap.size+1,0,none⟩)) (x,fr1 t):=by
 obtain⟨o,p,rfl⟩:=InT.ptr ht;exact(NdM.lit (x:=x) hW).tree (KdM.lit (x:=x) ht)
theorem zFl {l:List Te} {O:UInt8->Nat->Rs Tr} {v:Value} {i:Nat} (w:World) (H:Rn8 l O w v (i+1)) (hi:i<=l.length) (nf:Nat) (hnf:l.length<=nf+i) (M:Nat->Rs Tr) (hM:∀j,j<=l.length->In l.length j (M j))
  (cM:∀(j:Nat) (W:World),i<j->j<=l.length->Up w W->Calls Tryz.prog 22 #[v,.int .i64 (j:Int)] W (qJ (M j) W)) :
  Calls Tryz.prog 40 #[v,.int .i64 (i:Int)] w (qJ (primS B.nck B.long l M (fun j=>manyS B.nck B.long l O declR false nf j .nil) i) w):=by
 have hl:=H.hl;have CKS:Hid (∀(j:Nat) (W:World) (vk:Value) (ks:List ByteArray),j<=l.length->Up w W->TxS W vk ks->Calls Tryz.prog 69 #[v,.int .i64 (j:Int),vk] W (KeP (keysL (tks l) j ks) W)):=Lib.hid fun j W vk ks hj u h=>fH l j hj H.hl ks W v vk (H.tok.up u) h
 have hz':∀t∈tks l,t.s.size<=1000000000:=fun t ht=>by
  obtain⟨u,hu,rfl⟩:=List.mem_map.1 ht;exact H.hz u hu
 have CN:Hid (∀(W:World),Up w W->Calls Tryz.prog 71 #[v,.int .i64 (i:Int)] W (NaP (nam B.nck (tks l) i) W)):=Lib.hid fun W u=>by
  have c:=vF (tks l) (i:Int) W v (H.tok.up u).tkm hz';rw[show namZ B.nck (tks l) (i:Int)=nam B.nck (tks l) i by unfold namZ;rw[if_pos (by omega),Int.toNat_natCast]] at c;exact c
 have CL:Hid (∀(W:World),Up w W->Calls Tryz.prog 72 #[v,.int .i64 (i:Int)] W (NaP (nam B.long (tks l) i) W)):=Lib.hid fun W u=>by
  have c:=pO (tks l) (i:Int) W v (H.tok.up u).tkm hz';rw[show namZ B.long (tks l) (i:Int)=nam B.long (tks l) i by unfold namZ;rw[if_pos (by omega),Int.toNat_natCast]] at c;exact c
 have CK:Hid (∀(j:Nat) (y:ByteArray) (W:World),Up w W->Calls Tryz.prog 41 #[v,.int .i64 (j:Int),.string y] W (BoU (key (tks l) j y) W)):=Lib.hid fun j y W u=>H.key j y W u
 have CM:=Lib.hid cM;have hwi:IntKind.i64.wrap ((i:Int)+1)=((i+1:Nat):Int):=by rw[IntKind.wrap_i64]<;>omega
 have hwi2:IntKind.i64.wrap ((i:Int)+2)=((i+2:Nat):Int):=by rw[IntKind.wrap_i64]<;>omega
 have c1:=CK.out i jY w (Up.refl w);have HH:=Lib.hid H;clear H hz' cM
 cases hk:key (tks l) i jY with
 | true=>
  have hi1:i+1<=l.length:=qG hk;rw[hk] at c1;have hmi:=fU (nk:=B.nck) (lg:=B.long) (l:=l) (O:=O) HH.out.inO declR false nf (i+1) .nil hi1;have cM:Hid (∀(vt:Value) (W:World),Up w W->RowsM W vt declR->Calls Tryz.prog 29 #[v,.int .i64 ((i+1:Nat):Int),vt,.bool false] W (fZ (manyS B.nck B.long l O declR false nf (i+1) .nil) W)):=Lib.hid fun vt W u hr=>uU HH.out hi1 declR zTw (by decide) false nf (by omega) vt W u hr
  clear hM;obtain⟨X,hX⟩:∃X,manyS B.nck B.long l O declR false nf (i+1) .nil=X:=⟨_,rfl⟩;have HR:Hid (primS B.nck B.long l M (fun j=>manyS B.nck B.long l O declR false nf j .nil) i=thn X fun f j=>thn (keysL (tks l) j [kEnd]) fun _ m=>.inl (nd 40 nob f,m)):=Lib.hid (by unfold primS;rw[hk,if_pos rfl,<- hX];rfl);rw[hX] at hmi cM;rw[HR.out];clear hk hX HR
  go_enter Tryz.func40,Tryz.ntmps40
  go_wp2_with fail;refine c1.mono ?_;rintro en w1 ⟨rfl,u1⟩;have U1:=Lib.hid (show Up w w1 from u1);clear u1 c1;go_wp2_with fail;refine(pP w1).mono ?_;rintro en w2 ⟨vt,rfl,hrm,u2⟩;have cM:=cM.out vt w2 (U1.out.trans u2) hrm;have U2:=Lib.hid (U1.out.trans u2);clear hrm u2;go_wp2_with fail;refine cM.mono ?_;rintro en w3 ⟨vk,f,j3,e3,rfl,hkv,hV,u3⟩;have U3:=Lib.hid (U2.out.trans u3);have hkz:w.heap.size<=w2.heap.size:=U2.out.size;clear u3 cM
  cases X with
  | inr er=>
   obtain⟨q,er⟩:=er;obtain⟨rfl,rfl,-⟩:=hV;have hne:¬e3=0:=by have h:i+1<=q/\q<=l.length/\(e3=6\/e3=9):=hmi;omega
   clear hkv;go_wp2_with fail
   go_ret3
   exact⟨_,_,_,rfl,⟨rfl,rfl,none,rfl⟩,U3.out⟩
  | inl pr=>
   obtain⟨f',q⟩:=pr;obtain⟨rfl,rfl,rfl⟩:=hV;have hq:i+1<=q/\q<=l.length:=hmi;obtain⟨w4,hw4⟩:∃w4,w3.alloc (.cells #[.string kEnd] 9)=w4:=⟨_,rfl⟩;have u4:Up w3 w4:=by rw[<- hw4];exact(Up.refl _).alloc _
   have ht:TxS w4 (.slice (some ⟨w3.heap.size,0,none⟩) 1 1) [kEnd]:=by rw[<- hw4];exact TxS.row1 w3 kEnd _
   have cKs:=CKS.out q w4 _ [kEnd] hq.2 (U3.out.trans u4) ht;have HKV:=Lib.hid (hkv.up8 u4);have U4:=Lib.hid (U3.out.trans u4);have HW4:=Lib.hid hw4;clear hkv u4 ht hw4;go_wp2_with fail;rw[show(w3.alloc (.cells #[.string ⟨#[101,110,100]⟩] 9))=w4 from HW4.out];refine cKs.mono ?_;rintro en w5 ⟨j5,e5,rfl,hK,u5⟩;obtain⟨A,c,rfl,hnode⟩:=(HKV.out.up8 u5).node8 (W0:=w) 40 nob hkz (U4.out.trans u5).size;have U5:=Lib.hid (U4.out.trans u5);have HND:=Lib.hid hnode;clear u5 hnode cKs;go_wp2_with fail;refine(zC 40 nob A f.len c w5).mono ?_;rintro en w6 ⟨rfl,rfl⟩;go_wp2_with fail
   go_ret3
   refine⟨_,_,_,rfl,?_,U5.out.alloc _⟩;obtain⟨Y,hY⟩:∃Y,keysL (tks l) q [kEnd]=Y:=⟨_,rfl⟩
   show RsV (thn (keysL (tks l) q [kEnd]) fun _ m=>.inl (nd 40 nob f,m)) _ _ _ _ _
   rw[hY] at hK ⊢
   cases Y with
   | inr y=>exact⟨hK.1,hK.2,_,rfl⟩
   | inl y=>exact⟨HND.out,hK.1,hK.2⟩
 | false=>
  rw[hk] at c1;have HR0:primS B.nck B.long l M (fun j=>manyS B.nck B.long l O declR false nf j .nil) i=match nam B.nck (tks l) i,key (tks l) (i+1) kOpen with
   | some s,true=>thn (thenK (tks l) (M (i+2)) [kShut]) fun m j=>.inl (nd 42 s (fr1 m),j)
   | _,_=>if key (tks l) i kOpen then thenK (tks l) (M (i+1)) [kShut] else thn (nameQ B.long (tks l) i []) fun s j=>.inl (nd 41 s .nil,j):=by unfold primS;rw[hk];rfl
  obtain⟨G,hG⟩:∃G,primS B.nck B.long l M (fun j=>manyS B.nck B.long l O declR false nf j .nil) i=G:=⟨_,rfl⟩;rw[hG] at HR0 ⊢;have CO1:=CK.out (i+1) kOpen;have CO0:=CK.out i kOpen
  by_cases happ:(nam B.nck (tks l) i).isSome=true/\key (tks l) (i+1) kOpen=true
  ·obtain⟨h1,h2⟩:=happ
   obtain⟨s,hs⟩:=Option.isSome_iff_exists.1 h1;have hlt:i+2<=l.length:=qG h2;rw[hs] at CN HR0;rw[h2] at CO1 HR0;have HR:G=thn (thenK (tks l) (M (i+2)) [kShut]) fun m j=>.inl (nd 42 s (fr1 m),j):=HR0
   clear hs h1 h2 HR0 hG hk CL CO0;have hj0:i<i+2/\i+2<=l.length:=⟨by omega,by omega⟩;have hin:=hM (i+2) hj0.2;have cM:=fun W (u:Up w W)=>CM.out (i+2) W hj0.1 hj0.2 u
   obtain⟨X,hX⟩:∃X,M (i+2)=X:=⟨_,rfl⟩;rw[hX] at hin cM HR;have HIN:=Lib.hid hin;have CMM:=Lib.hid cM;clear hX hin cM;have HR:=Lib.hid HR;have CO1:=Lib.hid CO1;clear hM
   go_enter Tryz.func40,Tryz.ntmps40
   go_wp2_with fail;refine c1.mono ?_;rintro en w1 ⟨rfl,u1⟩;have cN:=CN.out w1 u1;go_wp2_with fail;refine cN.mono ?_;rintro en w2 ⟨rfl,u2⟩;have cO:=CO1.out w2 (Up.trans u1 u2);go_wp2_with fail;refine cO.mono ?_;rintro en w3 ⟨rfl,u3⟩;have U3:=Lib.hid ((Up.trans u1 u2).trans u3);have cM:=CMM.out w3 U3.out;clear u1 u2 u3 cO cN c1 CMM CO1;go_wp2_with fail;refine cM.mono ?_;rintro en w4 ⟨va,j4,e4,rfl,hV,u4⟩;have U4:=Lib.hid (U3.out.trans u4);have hz3:w.heap.size<=w3.heap.size:=U3.out.size;obtain⟨pa,rfl⟩:=hV.ptr;have HVV:=Lib.hid hV;clear u4 cM hV
   cases X with
   | inr er=>
    obtain⟨q,er⟩:=er;obtain⟨rfl,rfl,-⟩:=HVV.out;have hne:¬e4=0:=HIN.out.ne rfl;go_wp2_with fail
    go_ret3
    rw[HR.out];exact⟨_,_,_,rfl,⟨rfl,rfl,none,rfl⟩,U4.out⟩
   | inl pr=>
    obtain⟨m,q⟩:=pr;obtain⟨hm,rfl,rfl⟩:=HVV.out;have hq:i+2<q/\q<=l.length:=HIN.out;have HM:=Lib.hid hm;obtain⟨w5,hw5⟩:∃w5,w4.alloc (.cells #[.string kShut] 9)=w5:=⟨_,rfl⟩;have u5:Up w4 w5:=by rw[<- hw5];exact(Up.refl _).alloc _
    have ht:TxS w5 (.slice (some ⟨w4.heap.size,0,none⟩) 1 1) [kShut]:=by rw[<- hw5];exact TxS.row1 w4 kShut _
    have cKs:=CKS.out q w5 _ [kShut] hq.2 (U4.out.trans u5) ht;have U5:=Lib.hid (U4.out.trans u5);have HM5:=Lib.hid (hm.up u5);have HW5:=Lib.hid hw5;clear hm u5 ht hw5;go_wp2_with fail;rw[show(w4.alloc (.cells #[.string ⟨#[41]⟩] 9))=w5 from HW5.out];refine cKs.mono ?_;rintro en w6 ⟨j6,e6,rfl,hK,u6⟩;have U6:=Lib.hid (U5.out.trans u6);have HM6:=Lib.hid (HM5.out.up u6);have HK:=Lib.hid hK;clear u6 cKs hK;go_wp2_with fail;refine(zC 42 s _ 1 1 _).mono ?_;rintro en w7 ⟨rfl,rfl⟩;go_wp2_with fail
    go_ret3
    refine⟨_,_,_,rfl,?_,(U6.out.alloc _).alloc _⟩;rw[HR.out];have hK:=HK.out;obtain⟨Y,hY⟩:∃Y,keysL (tks l) q [kShut]=Y:=⟨_,rfl⟩
    show RsV (thn (thn (keysL (tks l) q [kShut]) fun _ j=>.inl (m,j)) fun m j=>.inl (nd 42 s (fr1 m),j)) _ _ _ _ _
    rw[hY] at hK ⊢
    cases Y with
    | inr y=>exact⟨hK.1,hK.2,_,rfl⟩
    | inl y=>exact⟨zKy (x:=⟨42,0,s,nob⟩) U6.out.size (HM6.out.base hz3),hK.1,hK.2⟩
  ·have HR:G=if key (tks l) i kOpen then thenK (tks l) (M (i+1)) [kShut] else thn (nameQ B.long (tks l) i []) fun s j=>.inl (nd 41 s .nil,j):=by
    rw[HR0]
    cases hs:nam B.nck (tks l) i with
    | none=>rfl
    | some s=>
     cases h2:key (tks l) (i+1) kOpen with
     | false=>rfl
     | true=>exact absurd ⟨by rw[hs];rfl,h2⟩ happ
   have hno:nam B.nck (tks l) i=none\/∃s,nam B.nck (tks l) i=some s/\key (tks l) (i+1) kOpen=false:=by
    cases hs:nam B.nck (tks l) i with
    | none=>exact .inl rfl
    | some s=>
     refine .inr ⟨s,rfl,?_⟩
     cases h2:key (tks l) (i+1) kOpen with
     | false=>rfl
     | true=>exact absurd ⟨by rw[hs];rfl,h2⟩ happ
   clear HR0 happ hG hk
   cases hb:key (tks l) i kOpen with
   | true=>
    have hlt:i+1<=l.length:=qG hb;rw[hb] at CO0 HR;have HR:G=thenK (tks l) (M (i+1)) [kShut]:=HR;have hj0:i<i+1/\i+1<=l.length:=⟨by omega,by omega⟩;have hin:=hM (i+1) hj0.2;have cM:=fun W (u:Up w W)=>CM.out (i+1) W hj0.1 hj0.2 u
    obtain⟨X,hX⟩:∃X,M (i+1)=X:=⟨_,rfl⟩;rw[hX] at hin cM HR;have HIN:=Lib.hid hin;have CMM:=Lib.hid cM;clear hX hin cM;have HR:=Lib.hid HR;have CO1:=Lib.hid CO1;have CO0:=Lib.hid CO0;clear hM hb CL
    rcases hno with hs | ⟨s,hs,h2⟩
    ·rw[hs] at CN
     clear hs
     go_enter Tryz.func40,Tryz.ntmps40
     go_wp2_with fail;refine c1.mono ?_;rintro en w1 ⟨rfl,u1⟩;have cN:=CN.out w1 u1;go_wp2_with fail;refine cN.mono ?_;rintro en w2 ⟨rfl,u2⟩;have cO0:=CO0.out w2 (Up.trans u1 u2);go_wp2_with fail;refine cO0.mono ?_;rintro en w3 ⟨rfl,u3⟩;have U3:=Lib.hid ((Up.trans u1 u2).trans u3);have cM:=CMM.out w3 U3.out;clear u1 u2 u3 cO0 cN c1 CMM CO1;go_wp2_with fail;refine cM.mono ?_;rintro en w4 ⟨va,j4,e4,rfl,hV,u4⟩;have U4:=Lib.hid (U3.out.trans u4);have hz3:w.heap.size<=w3.heap.size:=U3.out.size;obtain⟨pa,rfl⟩:=hV.ptr;have HVV:=Lib.hid hV;clear u4 cM hV
     cases X with
     | inr er=>
      obtain⟨q,er⟩:=er;obtain⟨rfl,rfl,-⟩:=HVV.out;have hne:¬e4=0:=HIN.out.ne rfl;go_wp2_with fail
      go_ret3
      rw[HR.out];exact⟨_,_,_,rfl,⟨rfl,rfl,none,rfl⟩,U4.out⟩
     | inl pr=>
      obtain⟨m,q⟩:=pr;obtain⟨hm,rfl,rfl⟩:=HVV.out;have hq:i+1<q/\q<=l.length:=HIN.out;have HM:=Lib.hid hm;obtain⟨w5,hw5⟩:∃w5,w4.alloc (.cells #[.string kShut] 9)=w5:=⟨_,rfl⟩;have u5:Up w4 w5:=by rw[<- hw5];exact(Up.refl _).alloc _
      have ht:TxS w5 (.slice (some ⟨w4.heap.size,0,none⟩) 1 1) [kShut]:=by rw[<- hw5];exact TxS.row1 w4 kShut _
      have cKs:=CKS.out q w5 _ [kShut] hq.2 (U4.out.trans u5) ht;have U5:=Lib.hid (U4.out.trans u5);have HM5:=Lib.hid (hm.up u5);have HW5:=Lib.hid hw5;clear hm u5 ht hw5;go_wp2_with fail;rw[show(w4.alloc (.cells #[.string ⟨#[41]⟩] 9))=w5 from HW5.out];refine cKs.mono ?_;rintro en w6 ⟨j6,e6,rfl,hK,u6⟩;have U6:=Lib.hid (U5.out.trans u6);have HM6:=Lib.hid (HM5.out.up u6);have HK:=Lib.hid hK;clear u6 cKs hK;go_wp2_with fail
      go_ret3
      refine⟨_,_,_,rfl,?_,U6.out⟩;rw[HR.out];have hK:=HK.out;obtain⟨Y,hY⟩:∃Y,keysL (tks l) q [kShut]=Y:=⟨_,rfl⟩
      show RsV (thn (keysL (tks l) q [kShut]) fun _ j=>.inl (m,j)) _ _ _ _ _
      rw[hY] at hK ⊢
      cases Y with
      | inr y=>exact⟨hK.1,hK.2,_,rfl⟩
      | inl y=>exact⟨HM6.out.base hz3,hK.1,hK.2⟩
    ·rw[hs] at CN
     rw[h2] at CO1;clear hs h2
     go_enter Tryz.func40,Tryz.ntmps40
     go_wp2_with fail;refine c1.mono ?_;rintro en w1 ⟨rfl,u1⟩;have cN:=CN.out w1 u1;go_wp2_with fail;refine cN.mono ?_;rintro en w2 ⟨rfl,u2⟩;have cO:=CO1.out w2 (Up.trans u1 u2);go_wp2_with fail;refine cO.mono ?_;rintro en w8 ⟨rfl,u8⟩;have u2:Up w1 w8:=Up.trans u2 u8;have cO0:=CO0.out w8 (Up.trans u1 u2);go_wp2_with fail;refine cO0.mono ?_;rintro en w3 ⟨rfl,u3⟩;have U3:=Lib.hid ((Up.trans u1 u2).trans u3);have cM:=CMM.out w3 U3.out;clear u1 u2 u3 cO0 cN c1 CMM CO1;go_wp2_with fail;refine cM.mono ?_;rintro en w4 ⟨va,j4,e4,rfl,hV,u4⟩;have U4:=Lib.hid (U3.out.trans u4);have hz3:w.heap.size<=w3.heap.size:=U3.out.size;obtain⟨pa,rfl⟩:=hV.ptr;have HVV:=Lib.hid hV;clear u4 cM hV
     cases X with
     | inr er=>
      obtain⟨q,er⟩:=er;obtain⟨rfl,rfl,-⟩:=HVV.out;have hne:¬e4=0:=HIN.out.ne rfl;go_wp2_with fail
      go_ret3
      rw[HR.out];exact⟨_,_,_,rfl,⟨rfl,rfl,none,rfl⟩,U4.out⟩
     | inl pr=>
      obtain⟨m,q⟩:=pr;obtain⟨hm,rfl,rfl⟩:=HVV.out;have hq:i+1<q/\q<=l.length:=HIN.out;have HM:=Lib.hid hm;obtain⟨w5,hw5⟩:∃w5,w4.alloc (.cells #[.string kShut] 9)=w5:=⟨_,rfl⟩;have u5:Up w4 w5:=by rw[<- hw5];exact(Up.refl _).alloc _
      have ht:TxS w5 (.slice (some ⟨w4.heap.size,0,none⟩) 1 1) [kShut]:=by rw[<- hw5];exact TxS.row1 w4 kShut _
      have cKs:=CKS.out q w5 _ [kShut] hq.2 (U4.out.trans u5) ht;have U5:=Lib.hid (U4.out.trans u5);have HM5:=Lib.hid (hm.up u5);have HW5:=Lib.hid hw5;clear hm u5 ht hw5;go_wp2_with fail;rw[show(w4.alloc (.cells #[.string ⟨#[41]⟩] 9))=w5 from HW5.out];refine cKs.mono ?_;rintro en w6 ⟨j6,e6,rfl,hK,u6⟩;have U6:=Lib.hid (U5.out.trans u6);have HM6:=Lib.hid (HM5.out.up u6);have HK:=Lib.hid hK;clear u6 cKs hK;go_wp2_with fail
      go_ret3
      refine⟨_,_,_,rfl,?_,U6.out⟩;rw[HR.out];have hK:=HK.out;obtain⟨Y,hY⟩:∃Y,keysL (tks l) q [kShut]=Y:=⟨_,rfl⟩
      show RsV (thn (keysL (tks l) q [kShut]) fun _ j=>.inl (m,j)) _ _ _ _ _
      rw[hY] at hK ⊢
      cases Y with
      | inr y=>exact⟨hK.1,hK.2,_,rfl⟩
      | inl y=>exact⟨HM6.out.base hz3,hK.1,hK.2⟩
   | false=>
    rw[hb] at CO0 HR;have HR:G=thn (nameQ B.long (tks l) i []) fun s j=>.inl (nd 41 s .nil,j):=HR
    have HR:=Lib.hid HR;have CO1:=Lib.hid CO1;have CO0:=Lib.hid CO0;obtain⟨o,ho⟩:∃o,nam B.long (tks l) i=o:=⟨_,rfl⟩;rw[ho] at CL;have HO:=Lib.hid ho;clear hM hb CM CKS ho
    rcases hno with hs | ⟨s,hs,h2⟩
    ·rw[hs] at CN
     clear hs
     go_enter Tryz.func40,Tryz.ntmps40
     go_wp2_with fail;refine c1.mono ?_;rintro en w1 ⟨rfl,u1⟩;have cN:=CN.out w1 u1;go_wp2_with fail;refine cN.mono ?_;rintro en w2 ⟨rfl,u2⟩;have cO0:=CO0.out w2 (Up.trans u1 u2);go_wp2_with fail;refine cO0.mono ?_;rintro en w3 ⟨rfl,u3⟩;have U3:=Lib.hid ((Up.trans u1 u2).trans u3);have cL:=CL.out w3 U3.out;clear u1 u2 u3 cO0 cN c1 CO1
     cases o with
     | none=>
      go_wp2_with fail;refine cL.mono ?_;rintro en w4 ⟨rfl,u4⟩;go_wp2_with fail
      go_ret3
      rw[HR.out];refine⟨_,_,_,rfl,?_,U3.out.trans u4⟩;unfold nameQ;rw[HO.out];exact⟨rfl,rfl,none,rfl⟩
     | some x=>
      go_wp2_with fail;refine cL.mono ?_;rintro en w4 ⟨rfl,u4⟩;have U4:=Lib.hid (U3.out.trans u4);clear u4 cL;go_wp2_with fail;refine(zC 41 x none 0 0 w4).mono ?_;rintro en w6 ⟨rfl,rfl⟩;go_wp2_with fail
      go_ret3
      rw[HR.out];refine⟨_,_,_,rfl,?_,U4.out.alloc _⟩;unfold nameQ;rw[HO.out];exact⟨vD 41 x U4.out.size,by omega,rfl⟩
    ·rw[hs] at CN
     rw[h2] at CO1;clear hs h2
     go_enter Tryz.func40,Tryz.ntmps40
     go_wp2_with fail;refine c1.mono ?_;rintro en w1 ⟨rfl,u1⟩;have cN:=CN.out w1 u1;go_wp2_with fail;refine cN.mono ?_;rintro en w2 ⟨rfl,u2⟩;have cO:=CO1.out w2 (Up.trans u1 u2);go_wp2_with fail;refine cO.mono ?_;rintro en w8 ⟨rfl,u8⟩;have u2:Up w1 w8:=Up.trans u2 u8;have cO0:=CO0.out w8 (Up.trans u1 u2);go_wp2_with fail;refine cO0.mono ?_;rintro en w3 ⟨rfl,u3⟩;have U3:=Lib.hid ((Up.trans u1 u2).trans u3);have cL:=CL.out w3 U3.out;clear u1 u2 u3 cO0 cN c1 CO1
     cases o with
     | none=>
      go_wp2_with fail;refine cL.mono ?_;rintro en w4 ⟨rfl,u4⟩;go_wp2_with fail
      go_ret3
      rw[HR.out];refine⟨_,_,_,rfl,?_,U3.out.trans u4⟩;unfold nameQ;rw[HO.out];exact⟨rfl,rfl,none,rfl⟩
     | some x=>
      go_wp2_with fail;refine cL.mono ?_;rintro en w4 ⟨rfl,u4⟩;have U4:=Lib.hid (U3.out.trans u4);clear u4 cL;go_wp2_with fail;refine(zC 41 x none 0 0 w4).mono ?_;rintro en w6 ⟨rfl,rfl⟩;go_wp2_with fail
      go_ret3
      rw[HR.out];refine⟨_,_,_,rfl,?_,U4.out.alloc _⟩;unfold nameQ;rw[HO.out];exact⟨vD 41 x U4.out.size,by omega,rfl⟩
section
variable {nk lg:ByteArray->Bool} {l:List Te}
def on8 (nk lg:ByteArray->Bool) (l:List Te) (n:Nat):UInt8->Nat->Rs Tr:=oneS (typL nk lg (tks l)) (exprF nk lg l n) (modF nk lg l n) (sigF nk lg l n)
theorem zB8 (n i:Nat):modF nk lg l (n+1) i=thn (primS nk lg l (modF nk lg l n) (declF nk lg l n false) i) fun m j=>sealS l (sigF nk lg l n) (n+1) m j:=by rw[modF]
theorem zB9 (n i:Nat):sigF nk lg l (n+1) i=thn (bodyS nk l (specF nk lg l n) i) fun s j=>yD nk lg l (on8 nk lg l n) (n+1) s j:=by rw[sigF];rfl
theorem zTx (n:Nat) (top:Bool) (i:Nat):declF nk lg l (n+1) top i=manyS nk lg l (on8 nk lg l n) declR top (n+1) i .nil:=by rw[declF];rfl
theorem zFm (n i:Nat):specF nk lg l (n+1) i=manyS nk lg l (on8 nk lg l n) specR false (n+1) i .nil:=by rw[specF];rfl
theorem zBa (n:Nat):OneIn l (on8 nk lg l n):=pB (fun _ hj=>fC hj) fun _ hj=>fV hj
end
theorem RtV.rs {R:Rs Tr} {w w':World} {v:Value} {j e:Int} (h:RtV R w w' v j e):RsV R w w' v j e:=by
 cases R with
 | inl r=>exact h
 | inr r=>exact⟨h.1,h.2.1,none,h.2.2⟩
def MoAt (l:List Te) (f:FuncId) (M:Nat->Rs Tr) (i:Nat):Prop:=∀(w:World) (v:Value),Tke w v l->Calls Tryz.prog f #[v,.int .i64 (i:Int)] w (yO (M i) w)
theorem yO.rs {R:Rs Tr} {w w':World} {e:Ending} (h:yO R w e w'):qJ R w e w':=by
 obtain⟨a,b,c,h1,h2,h3⟩:=h;exact⟨a,b,c,h1,h2.rs,h3⟩
theorem zBb (l:List Te) (n:Nat) (c:UInt8) (hc:c=116\/c=101\/c=109\/c=115) (j:Nat) (w:World) (v:Value)
  (cT:Calls Tryz.prog 126 #[v,.int .i64 (j:Int)] w (qJ (typL B.nck B.long (tks l) j) w)) (cE:Calls Tryz.prog 127 #[v,.int .i64 (j:Int)] w (qJ (exprF B.nck B.long l n j) w))
  (cM:Calls Tryz.prog 22 #[v,.int .i64 (j:Int)] w (qJ (modF B.nck B.long l n j) w)) (cS:Calls Tryz.prog 25 #[v,.int .i64 (j:Int)] w (qJ (sigF B.nck B.long l n j) w)) :
  Calls Tryz.prog 82 #[v,.int .i64 (j:Int),.int .u8 (c.toNat:Int)] w (qJ (on8 B.nck B.long l n c j) w):=by
 rcases hc with rfl | rfl | rfl | rfl
 ·go_enter Tryz.func82,Tryz.ntmps82
  go_wp2_with fail;refine cT.mono ?_;rintro en w1 ⟨va,ja,ea,rfl,hV,u1⟩;have H:=Lib.hid hV;clear hV cT cE cM cS;go_wp2_with fail
  go_ret3
  exact⟨_,_,_,rfl,H.out,u1⟩
 ·go_enter Tryz.func82,Tryz.ntmps82
  go_wp2_with fail;refine cE.mono ?_;rintro en w1 ⟨va,ja,ea,rfl,hV,u1⟩;have H:=Lib.hid hV;clear hV cT cE cM cS;go_wp2_with fail
  go_ret3
  exact⟨_,_,_,rfl,H.out,u1⟩
 ·go_enter Tryz.func82,Tryz.ntmps82
  go_wp2_with fail;refine cM.mono ?_;rintro en w1 ⟨va,ja,ea,rfl,hV,u1⟩;have H:=Lib.hid hV;clear hV cT cE cM cS;go_wp2_with fail
  go_ret3
  exact⟨_,_,_,rfl,H.out,u1⟩
 ·go_enter Tryz.func82,Tryz.ntmps82
  go_wp2_with fail;refine cS.mono ?_;rintro en w1 ⟨va,ja,ea,rfl,hV,u1⟩;have H:=Lib.hid hV;clear hV cT cE cM cS;go_wp2_with fail
  go_ret3
  exact⟨_,_,_,rfl,H.out,u1⟩
section
variable {l:List Te} (hl:l.length<=1000000) (hz:∀t∈l,t.t.s.size<=1000000000)
include hl hz
theorem zTy {n i:Nat} (w:World) (v:Value) (hv:Tke w v l) (hn:2*l.length+2<=n) (hM:∀j,i<j->j<=l.length->MoAt l 22 (modF B.nck B.long l n) j) (hS:∀j,i<j->j<=l.length->MoAt l 25 (sigF B.nck B.long l n) j):Rn8 l (on8 B.nck B.long l n) w v i where
 inO:=zBa n
 tok:=hv
 hl:=hl
 hz:=hz
 one:=fun c hc j W hij hj u=>by
  have cT:=(zTs (tks l) (j:Int) (by rw[qY];exact hl) (fun t ht=>by
   obtain⟨u,hu,rfl⟩:=List.mem_map.1 ht;exact hz u hu) W v (hv.up u).tkm)
  rw[show typZ B.nck B.long (tks l) (j:Int)=typL B.nck B.long (tks l) j by unfold typZ;rw[if_neg (by rw[qY];omega),Int.toNat_natCast]] at cT;have cE:=zFb l (j:Int) hl hz n hn W v (hv.up u);rw[show expZ B.nck B.long l n (j:Int)=exprF B.nck B.long l n j by unfold expZ;rw[if_neg (by omega),Int.toNat_natCast]] at cE;exact zBb l n c hc j W v (cT.mono fun _ _ ⟨a,b,c,h1,h2,h3⟩=>⟨a,b,c,h1,h2.rs,h3⟩) (cE.mono fun _ _ ⟨a,b,c,h1,h2,h3⟩=>⟨a,b,c,h1,h2.rs,h3⟩) ((hM j hij hj W v (hv.up u)).mono fun _ _ h=>h.rs) ((hS j hij hj W v (hv.up u)).mono fun _ _ h=>h.rs)
theorem pQ:∀(n m:Nat),m<=n->(∀i,i<=l.length->3*l.length+4<=m+i->MoAt l 22 (modF B.nck B.long l m) i)/\(∀i,i<=l.length->3*l.length+4<=m+i->MoAt l 25 (sigF B.nck B.long l m) i)
 | _,0,_=>⟨fun i h1 h2=>by omega,fun i h1 h2=>by omega⟩
 | _,1,_=>⟨fun i h1 h2=>by omega,fun i h1 h2=>by omega⟩
 | 0,m+2,h=>by omega
 | n+1,m+2,hm=>by
  have ih:=pQ n;obtain⟨hM1,hS1⟩:=ih (m+1) (by omega);obtain⟨hM0,hS0⟩:=ih m (by omega);refine⟨fun i hi hb w v hv=>?_,fun i hi hb w v hv=>?_⟩
  ·rw[zB8]
   have hD:declF B.nck B.long l (m+1) false=fun j=>manyS B.nck B.long l (on8 B.nck B.long l m) declR false (m+1) j .nil:=funext fun j=>zTx m false j
   refine zB6 l _ _ (fun j hj=>lS (fun k hk=>fC hk) (fun k hk=>xM hk) hj) (fun j hj=>fV hj) hl i (m+2) hi (by omega) w v hv ?_ fun j W hij hj u=>(hS1 j hj (by omega) W v (hv.up u)).mono fun _ _ h=>h.rs
   rw[hD];exact zFl w (zTy hl hz w v hv (by omega) (fun j hij hj=>hM0 j hj (by omega)) fun j hij hj=>hS0 j hj (by omega)) hi (m+1) (by omega) _ (fun j hj=>fC hj) fun j W hij hj u=>(hM1 j hj (by omega) W v (hv.up u)).mono fun _ _ h=>h.rs
  ·rw[zB9]
   have hD:specF B.nck B.long l (m+1)=fun j=>manyS B.nck B.long l (on8 B.nck B.long l m) specR false (m+1) j .nil:=funext fun j=>zFm m j
   refine zB7 w (zTy hl hz w v hv (by omega) (fun j hij hj=>hM1 j hj (by omega)) fun j hij hj=>hS1 j hj (by omega)) _ (lT (fun k hk=>(fB _).2.2.2 k hk) hi) (m+2) (by omega) ?_;rw[hD];exact zFk w (zTy hl hz w v hv (by omega) (fun j hij hj=>hM0 j hj (by omega)) fun j hij hj=>hS0 j hj (by omega)) hi (m+1) (by omega)
end
theorem zFn (l:List Te) (i:Int) (hl:l.length<=1000000) (hz:∀t∈l,t.t.s.size<=1000000000) (m:Nat) (hm:3*l.length+4<=m) (w:World) (v:Value) (hv:Tke w v l) :
  Calls Tryz.prog 9 #[v,.int .i64 i] w (yO (modZ B.nck B.long l m i) w):=by
 have HV:=Lib.hid hv;obtain⟨G,c,rfl,-⟩:=hv;obtain⟨n,hn⟩:∃n,l.length=n:=⟨_,rfl⟩
 by_cases h0:i<0
 ·have HR:Hid (modZ B.nck B.long l m i = .inr (0,2)):=Lib.hid (by unfold modZ;rw[if_pos (.inl h0)])
  rw[HR.out]
  go_enter Tryz.func9,Tryz.ntmps9
  go_wp2_with fail
  go_ret3
  exact⟨_,_,_,rfl,⟨rfl,rfl,rfl⟩,Up.refl _⟩
 ·by_cases h1:(n:Int)<i
  ·have HR:Hid (modZ B.nck B.long l m i = .inr (0,2)):=Lib.hid (by unfold modZ;rw[if_pos (.inr (by rw[hn];exact h1))])
   rw[HR.out];rw[hn]
   go_enter Tryz.func9,Tryz.ntmps9
   go_wp2_with fail
   go_ret3
   exact⟨_,_,_,rfl,⟨rfl,rfl,rfl⟩,Up.refl _⟩
  ·obtain⟨k,rfl⟩:=Int.eq_ofNat_of_zero_le (by omega:0<=i)
   have hkn:k<=l.length:=by omega
   have HR:Hid (modZ B.nck B.long l m (k:Int)=modF B.nck B.long l m k):=Lib.hid (by unfold modZ;rw[if_neg (by rw[hn];omega),Int.toNat_natCast]);rw[HR.out];have cT:=(pQ hl hz m m (Nat.le_refl _)).1 k hkn (by omega) w _ HV.out;rw[hn] at cT ⊢;clear hz hn HR
   go_enter Tryz.func9,Tryz.ntmps9
   go_wp2_with fail;refine cT.mono ?_;rintro e w1 ⟨va,ja,ea,rfl,hV,u1⟩;have H:=Lib.hid hV;clear hV cT;go_wp2_with fail
   go_ret3
   exact⟨_,_,_,rfl,H.out,u1⟩
end Go.Proofs.YtgeghilbikljcaaGreatDoor
namespace Go.Proofs.YtgeghilbikljcaaGreatDoor
open Go.ChangeShapes Go.WideShapes Go.Deep Go.RowKit
theorem zBc {w:World} {a:Addr} {v:Value} (h:w.cell? a=some v):a.block<w.heap.size:=by
 rcases Nat.lt_or_ge a.block w.heap.size with h1 | h1
 ·exact h1
 ·have h2:w.heap[a.block]? = none:=Array.getElem?_eq_none h1
  unfold World.cell? at h;rw[h2] at h
  cases h
theorem add_zero (a:Addr):a.add 0=a:=by simp[Addr.add]
theorem zFo {H:Type} {enc:TypeId×Value->H} {w:World} {base fuel:Nat} {spare:Nat->Bool} {held:Bool} {cs:List Value} {x:DataW H×List MemPlace}
  (h:DataW.trod enc Tryz.prog w base spare held fuel 47 cs=some x):∃t:B.RTok,cs=rc4 t/\t.s.size<=maxLen:=by
 obtain⟨ys,n,_,_,hlen,hyl,hf⟩:=DataW.trod_struct Tryz.underlying47 h;have hC:Tryz.prog.cellsOf 47=4:=by kernel_rfl
 rw[hC] at hlen;have hl4:cs.length=4:=hlen;have hy4:ys.length=4:=hyl
 match cs,hl4 with
 | [c0,c1,c2,c3],_=>
  match ys,hy4 with
  | [y0,y1,y2,y3],_=>
   have g0:DataW.trod enc Tryz.prog w base spare held n 3 [c0]=some y0:=hf 0 _ rfl;have g1:DataW.trod enc Tryz.prog w base spare held n 9 [c1]=some y1:=hf 1 _ rfl;have g2:DataW.trod enc Tryz.prog w base spare held n 3 [c2]=some y2:=hf 2 _ rfl;have g3:DataW.trod enc Tryz.prog w base spare held n 3 [c3]=some y3:=hf 3 _ rfl;obtain⟨k,e0,_⟩:=DataW.trod_int Tryz.underlying3 g0;obtain⟨s,e1,_,hs⟩:=DataW.trod_string Tryz.underlying9 g1;obtain⟨m,e2,_⟩:=DataW.trod_int Tryz.underlying3 g2;obtain⟨a,e3,_⟩:=DataW.trod_int Tryz.underlying3 g3;injection e0 with e0;injection e1 with e1;injection e2 with e2;injection e3 with e3;exact⟨⟨k,s,m,a⟩,by rw[e0,e1,e2,e3];rfl,hs⟩
theorem iC {H:Type} {enc:TypeId×Value->H} {W:World} {base:Nat} {v:Value} {d:DataW H} {p:List MemPlace}
  (hv:Value.okWide Tryz.prog W .any base 22 v) (h:DataW.Trod enc Tryz.prog W 0 (fun _=>true) true 22 v d p) :
  ∃l:List B.RTok,B.RTks W W.heap.size v l/\l.length<=maxLen/\∀t∈l,t.s.size<=maxLen:=by
 obtain⟨a0,len0,cap0,rfl⟩:=okWide_slice Tryz.underlying22 hv;obtain⟨fuel,hf⟩:=h;have hcs:(Value.slice a0 len0 cap0).cells.toList=[.slice a0 len0 cap0]:=rfl;rw[hcs] at hf
 rcases open_slice Tryz.underlying22 hf with ⟨h0,_⟩ | ⟨a,len,cap,m,n,D,Pl,hc,_,hlc,hcm,hm,_,hi⟩
 ·injection h0 with h0
  rw[h0];exact⟨[],⟨none,0,rfl,fun j t ht=>by simp at ht⟩,by simp,fun t ht=>by cases ht⟩
 ·injection hc with hc
  rw[hc];have hm2:m=cap:=by simpa using hm
  have hC:Tryz.prog.cellsOf 47=4:=by kernel_rfl
  have key:∀i,i<len->∃t:B.RTok,B.TokAt W (a.add (i*4)) t.k t.s t.n t.a/\t.s.size<=maxLen:=by
   intro i hil;obtain⟨cs',hce,htr⟩:=hi i (by omega);obtain⟨t,rfl,hts⟩:=zFo htr;rw[hC] at hce;obtain⟨_,_,hat⟩:=World.cells?_some hce;have e0:=hat 0 (by omega);rw[add_zero] at e0;exact⟨t,⟨e0,hat 1 (by omega),hat 2 (by omega),hat 3 (by omega)⟩,hts⟩
  let f:Nat->B.RTok:=fun i=>if h:i<len then Classical.choose (key i h) else ⟨0,⟨#[]⟩,0,0⟩
  have hfx:∀i,i<len->B.TokAt W (a.add (i*4)) (f i).k (f i).s (f i).n (f i).a/\(f i).s.size<=maxLen:=by
   intro i h;have:=Classical.choose_spec (key i h)
   show B.TokAt W _ (dite _ _ _:B.RTok).k (dite _ _ _:B.RTok).s (dite _ _ _:B.RTok).n (dite _ _ _:B.RTok).a/\(dite _ _ _:B.RTok).s.size<=_
   rw[dif_pos h];exact this
  refine⟨(List.range len).map f,⟨some a,cap,by rw[List.length_map,List.length_range],fun j t ht=>?_⟩,by rw[List.length_map,List.length_range];omega,fun t ht=>?_⟩
  ·rw[List.getElem?_map] at ht
   obtain⟨i,hi',rfl⟩:=Option.map_eq_some_iff.1 ht;have hij:i=j/\j<len:=by
    obtain⟨h1,h2⟩:=List.getElem?_eq_some_iff.1 hi';rw[List.length_range] at h1;rw[List.getElem_range] at h2;omega
   obtain⟨rfl,hlt⟩:=hij;have:=(hfx i hlt).1;refine⟨a,rfl,?_,this⟩;have hb:=zBc this.1;rw[zZj] at hb;exact hb
  ·obtain⟨i,hi',rfl⟩:=List.mem_map.1 ht
   exact(hfx i (List.mem_range.1 hi')).2
end Go.Proofs.YtgeghilbikljcaaGreatDoor
