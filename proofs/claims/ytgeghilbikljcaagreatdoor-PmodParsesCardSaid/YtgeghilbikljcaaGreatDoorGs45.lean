/-
  Plain definitions, without the program: tokens as modules, signatures and declarations (layer 8), by the grammar of the chapter; a rule is a row of letters; each with as much fuel as any list wants. Places.
-/
import Derived.Test.YtgeghilbikljcaaGreatDoorGs38
set_option maxHeartbeats 40000000
set_option maxRecDepth 100000
namespace Go.Proofs.YtgeghilbikljcaaGreatDoor
section
variable (nk lg:ByteArray->Bool) (l:List Te)
end
def sigZ (nk lg:ByteArray->Bool) (l:List Te) (m:Nat) (i:Int):Rs Tr:=if i<0\/(l.length:Int)<i then .inr (0,2) else sigF nk lg l m i.toNat
section
variable {nk lg:ByteArray->Bool} {l:List Te}
end
end Go.Proofs.YtgeghilbikljcaaGreatDoor
namespace Go.Proofs.YtgeghilbikljcaaGreatDoor
open Go.RowKit
theorem sgLit (b:Nat) (P:Option Addr->World->Prop) (w:World) (cA:Calls Tryz.prog 24 #[.agg #[.pointer (some ⟨b,0,none⟩)]] w fun e w'=>∃A,e = .returned (.pointer A)/\P A w') :
  Calls Tryz.prog 23 #[.pointer (some ⟨b,0,none⟩)] w fun e w'=>∃A,e = .returned (.pointer A)/\P A w':=by
 go_enter Tryz.func23,Tryz.ntmps23
 go_wp2_with fail;refine cA.mono ?_;rintro en w1 ⟨A,rfl,h⟩;have H:=Lib.hid h;clear h;go_wp2_with fail
 go_ret
 exact⟨A,rfl,H.out⟩
theorem zFz (v:Value) (i:Int) (P:Value->Int->Int->World->Prop) (w:World) (cP:Calls Tryz.prog 19 #[v,.int .i64 i,.func (.func 23) #[] #[]] w fun e w'=>∃u j r,e = .returned (.tuple #[u,.int .i64 j,.int .i64 r])/\P u j r w') :
  Calls Tryz.prog 10 #[v,.int .i64 i] w fun e w'=>∃u j r,e = .returned (.tuple #[u,.int .i64 j,.int .i64 r])/\P u j r w':=by
 go_enter Tryz.func10,Tryz.ntmps10
 go_wp2_with fail;refine cP.mono ?_;rintro en w1 ⟨u,j,r,rfl,h⟩;have H:=Lib.hid h;clear h;go_wp2_with fail
 go_ret3
 exact⟨u,j,r,rfl,H.out⟩
theorem pSig (l:List Te) (i:Int) (hl:l.length<=100000) (hz:∀t∈l,t.t.s.size<=1000000000) (m:Nat) (hm:3*l.length+4<=m) (w:World) (v:Value) (hv:Tke w v l) (hx:B.Nx w) (hp:Pl w) (ho:Op7 w) :
  Calls Tryz.prog 10 #[v,.int .i64 i] w (yO (sigZ B.nck B.long l m i) w):=by
 have hv0:=hv;obtain⟨A,c,rfl,-⟩:=hv;have key:Calls Tryz.prog 10 #[.slice A l.length c,.int .i64 i] w fun e w'=>∃u j r,e = .returned (.tuple #[u,.int .i64 j,.int .i64 r])/\RtV (sigZ B.nck B.long l m i) w w' u j r/\Up w w':=by
  refine zFz _ i (fun u j r w'=>RtV (sigZ B.nck B.long l m i) w w' u j r/\Up w w') w ?_
  by_cases h:i<0\/(l.length:Int)<i
  ·unfold sigZ
   rw[if_pos h];exact(vL A l.length c i _ w h).mono fun e w' ⟨h1,h2⟩=>⟨_,_,_,h1,⟨rfl,rfl,rfl⟩,h2⟩
  ·have he:sigZ B.nck B.long l m i=sigF B.nck B.long l m i.toNat:=if_neg h
   rw[he];obtain⟨k,rfl⟩:=Int.eq_ofNat_of_zero_le (by omega:0<=i);have hk:k<=l.length:=by omega
   rw[Int.toNat_natCast];have hzt:∀t∈tks l,t.s.size<=1000000000:=fun t ht=>by
    obtain⟨u,hu,rfl⟩:=List.mem_map.1 ht;exact hz u hu
   have Q:Px9 w (.slice A l.length c) l w.heap.size:=⟨⟨gV hv0.tkm hzt hx,ho,Nat.le_refl _,hl⟩,hv0,hx,hp,hz⟩;have up:=gY w (.slice A l.length c) k;have cA:=(uK Q m).2.1 k hk (by omega) _ up (wE w _ k);rw[qI] at cA;have hin:=fV (nk:=B.nck) (lg:=B.long) (l:=l) (n:=m) hk;have gu:∀w',Gs (On w.heap.size) (parW w (.slice A l.length c) k) w'->Up w w':=fun w' g=>g.up up fun q hq=>by rw[hq];exact Nat.le_refl _
   cases hT:sigF B.nck B.long l m k with
   | inr e=>
    obtain⟨p,r⟩:=e;rw[hT] at cA;have hr:¬r=0:=hin.ne hT;refine(vM A l.length c k p r 23 (fun _ _=>by kernel_rfl) w hk hr ?_).mono fun e w' ⟨h1,h2⟩=>⟨_,_,_,h1,⟨rfl,rfl,rfl⟩,h2⟩
    refine(sgLit w.heap.size (fun _ w'=>Up w w'/\Psr w' w.heap.size (.slice A l.length c) p r) _ (cA.mono fun e w' ⟨B,h1,g,h2⟩=>⟨B,h1,gu w' g,h2⟩)).mono fun e w' ⟨B,h1,h2,h3⟩=>⟨⟨_,h1⟩,h2,h3⟩
   | inl e=>
    obtain⟨t,j⟩:=e;rw[hT] at cA;refine(fE A l.length c k j 23 (fun _ _=>by kernel_rfl) (fun u w'=>NewT w w' u t) w hk ?_ (fun u w' q h=>h.drewN q)).mono fun e w' ⟨u,h1,h2,h3⟩=>⟨_,_,_,h1,⟨h2,rfl,rfl⟩,h3⟩
    refine(sgLit w.heap.size (fun B w'=>NewT w w' (.pointer B) t/\Up w w'/\Psr w' w.heap.size (.slice A l.length c) j 0) _ (cA.mono fun e w' ⟨B,h1,g,h2,h3,_⟩=>⟨B,h1,h2.base up.size,gu w' g,h3⟩)).mono fun e w' ⟨B,h1,h2,h3,h4⟩=>⟨⟨_,h1,h2⟩,h3,h4⟩
 exact key.mono fun e w' ⟨u,j,r,h1,h2,h3⟩=>⟨u,j,r,h1,h2,h3⟩
theorem rSame (o o':Option Tr) {W w:World} {v v':Value} (h:HasT W v o) (h':HasT W v' o') (hz:szO o<=65536) (b:Bool) (hb:b=true↔o=o') (u:Up W w) :
  Calls Tryz.prog 12 #[v,v'] w (BoP b W):=
 (zYp o o' w _ _ v v' (h.up u) (h'.up u) (by omega) b hb).mono fun _ _ k=>by obtain⟨k1,q,rfl⟩:=k;exact⟨k1,u.drewN q⟩
theorem zE0 (l:List Te) (i:Int) (hl:l.length<=1000000) (hz:∀t∈l,t.t.s.size<=1000000000) (m:Nat) (hm:3*l.length+4<=m) (w:World) (v:Value) (hv:Tke w v l) :
  Calls Tryz.prog 11 #[v,.int .i64 i] w (yO (sigZ B.nck B.long l m i) w):=by
 have HV:=Lib.hid hv;obtain⟨G,c,rfl,-⟩:=hv;obtain⟨n,hn⟩:∃n,l.length=n:=⟨_,rfl⟩
 by_cases h0:i<0
 ·have HR:Hid (sigZ B.nck B.long l m i = .inr (0,2)):=Lib.hid (by unfold sigZ;rw[if_pos (.inl h0)])
  rw[HR.out]
  go_enter Tryz.func11,Tryz.ntmps11
  go_wp2_with fail
  go_ret3
  exact⟨_,_,_,rfl,⟨rfl,rfl,rfl⟩,Up.refl _⟩
 ·by_cases h1:(n:Int)<i
  ·have HR:Hid (sigZ B.nck B.long l m i = .inr (0,2)):=Lib.hid (by unfold sigZ;rw[if_pos (.inr (by rw[hn];exact h1))])
   rw[HR.out];rw[hn]
   go_enter Tryz.func11,Tryz.ntmps11
   go_wp2_with fail
   go_ret3
   exact⟨_,_,_,rfl,⟨rfl,rfl,rfl⟩,Up.refl _⟩
  ·obtain⟨k,rfl⟩:=Int.eq_ofNat_of_zero_le (by omega:0<=i)
   have hkn:k<=l.length:=by omega
   have HR:Hid (sigZ B.nck B.long l m (k:Int)=sigF B.nck B.long l m k):=Lib.hid (by unfold sigZ;rw[if_neg (by rw[hn];omega),Int.toNat_natCast]);rw[HR.out];have cT:=(pQ hl hz m m (Nat.le_refl _)).2 k hkn (by omega) w _ HV.out;rw[hn] at cT ⊢;clear hz hn HR
   go_enter Tryz.func11,Tryz.ntmps11
   go_wp2_with fail;refine cT.mono ?_;rintro e w1 ⟨va,ja,ea,rfl,hV,u1⟩;have H:=Lib.hid hV;clear hV cT;go_wp2_with fail
   go_ret3
   exact⟨_,_,_,rfl,H.out,u1⟩
def resO (R:Rs Tr):Option Tr:=match R with
 | .inl (t,_)=>some t
 | .inr _=>none
theorem yO.has {R:Rs Tr} {w w':World} {e:Ending} (h:yO R w e w'):∃v,e = .returned (.tuple #[v,.int .i64 ((rI R:Nat):Int),.int .i64 (rE R)])/\HasT w' v (resO R)/\Up w w':=by
 obtain⟨v,j,er,rfl,hV,u⟩:=h
 cases R with
 | inl x=>
  obtain⟨t,q⟩:=x;obtain⟨h1,rfl,rfl⟩:=hV;exact⟨v,rfl,NewT.has h1,u⟩
 | inr x=>
  obtain⟨p,r⟩:=x;obtain⟨rfl,rfl,rfl⟩:=hV;exact⟨_,rfl,rfl,u⟩
theorem zE1 {l:List Te} {m:Nat} {i:Int} (hl:l.length<=80):szO (resO (modZ B.nck B.long l m i))<=1000:=by
 cases h:modZ B.nck B.long l m i with
 | inr x=>exact Nat.zero_le _
 | inl x=>
  obtain⟨t,j⟩:=x;unfold modZ at h
  split at h
  ·cases h
  ·have h1:=((xV (l:=l) zRz eX m).1 i.toNat t j h).sz
   have h2:=fC (nk:=B.nck) (lg:=B.long) (l:=l) (n:=m) (i:=i.toNat) (by omega);rw[h] at h2;have h3:j<=l.length:=h2.2
   show szT t<=_
   omega
theorem zE2 {l:List Te} {m:Nat} {i:Int} (hl:l.length<=80):szO (resO (sigZ B.nck B.long l m i))<=1000:=by
 cases h:sigZ B.nck B.long l m i with
 | inr x=>exact Nat.zero_le _
 | inl x=>
  obtain⟨t,j⟩:=x;unfold sigZ at h
  split at h
  ·cases h
  ·have h1:=((xV (l:=l) zRz eX m).2.1 i.toNat t j h).sz
   have h2:=fV (nk:=B.nck) (lg:=B.long) (l:=l) (n:=m) (i:=i.toNat) (by omega);rw[h] at h2;have h3:j<=l.length:=h2.2
   show szT t<=_
   omega
theorem zVy (l:List B.RTok) (i:Int) (hl:l.length<=9223372036854775807) (hz:∀t∈l,t.s.size<=9223372036854775807) (w:World) (v:Value) (hx:Vx7 w) (hv:Tkr w v l) :
  Calls Tryz.prog 3 #[v,.int .i64 i] w (BoP true w):=by
 have cF:=zKq l hz w w v hv (Up.refl _) hl;have HX:=Lib.hid hx;clear hx hz hl hv
 go_enter Tryz.func3,Tryz.ntmps3
 go_wp2_with fail;refine cF.mono ?_;rintro e w1 ⟨v1,rfl,h1,u1⟩;have ht:Tke w1 v1 (yY l):=zKr h1;have hlen:=iB l;have hts:∀t∈yY l,t.t.s.size<=1000000000:=fun t h=>by have:=zYw l t h;omega
 obtain⟨M,hM⟩:∃M,3*(yY l).length+4<=M:=⟨_,Nat.le_refl _⟩;have HC:Hid (∀W,Up w1 W->Calls Tryz.prog 8 #[v1,.int .i64 i] W (yO (modZ B.nck B.long (yY l) M i) W)/\Calls Tryz.prog 9 #[v1,.int .i64 i] W (yO (modZ B.nck B.long (yY l) M i) W)
  /\Calls Tryz.prog 10 #[v1,.int .i64 i] W (yO (sigZ B.nck B.long (yY l) M i) W)/\Calls Tryz.prog 11 #[v1,.int .i64 i] W (yO (sigZ B.nck B.long (yY l) M i) W)):=Lib.hid fun W u=>by
  have hx1:=(HX.out.up u1).up u;exact⟨pMod (yY l) i (by omega) hts M hM W v1 (ht.up u) hx1.nx hx1.px.2 hx1.px.1,zFn (yY l) i (by omega) hts M hM W v1 (ht.up u),pSig (yY l) i (by omega) hts M hM W v1 (ht.up u) hx1.nx hx1.px.2 hx1.px.1,zE0 (yY l) i (by omega) hts M hM W v1 (ht.up u)⟩
 have hsm:=zE1 (l:=yY l) (m:=M) (i:=i) hlen;have hss:=zE2 (l:=yY l) (m:=M) (i:=i) hlen;obtain⟨R,hRe⟩:∃R,modZ B.nck B.long (yY l) M i=R:=⟨_,rfl⟩;obtain⟨S,hSe⟩:∃R,sigZ B.nck B.long (yY l) M i=R:=⟨_,rfl⟩;rw[hRe] at hsm HC;rw[hSe] at hss HC;have U1:=Lib.hid u1;have HSM:=Lib.hid hsm;have HSS:=Lib.hid hss;have cT:=(HC.out w1 (Up.refl _)).1;clear u1 h1 hts cF hM ht hlen hRe hSe hsm hss;go_wp2_with fail;refine cT.mono ?_;rintro e w2 hP;obtain⟨v2,rfl,h2,u2⟩:=hP.has;have cR:=(HC.out w2 u2).2.1;have H2:=Lib.hid h2;have U2:=Lib.hid u2;clear u2 h2 hP cT;go_wp2_with fail;refine cR.mono ?_;rintro e w3 hP;obtain⟨v3,rfl,h3,u3⟩:=hP.has;have cT:=(HC.out w3 (U2.out.trans u3)).2.2.1;have H2:=Lib.hid (H2.out.up u3);have H3:=Lib.hid h3;have U3:=Lib.hid (U2.out.trans u3);clear u3 h3 hP cR;go_wp2_with fail;refine cT.mono ?_;rintro e w4 hP;obtain⟨v4,rfl,h4,u4⟩:=hP.has;have cR:=(HC.out w4 (U3.out.trans u4)).2.2.2;have H2:=Lib.hid (H2.out.up u4);have H3:=Lib.hid (H3.out.up u4);have H4:=Lib.hid h4;have U4:=Lib.hid (U3.out.trans u4);clear u4 h4 hP cT HC;go_wp2_with fail;refine cR.mono ?_;rintro e w5 hP;obtain⟨v5,rfl,h5,u5⟩:=hP.has;have cM:=rSame (resO R) (resO R) (H2.out.up u5) (H3.out.up u5) (by have:=HSM.out;omega) true ⟨fun _=>rfl,fun _=>rfl⟩ (Up.refl _)
 have HS:Hid (∀W,Up w5 W->Calls Tryz.prog 12 #[v4,v5] W (BoP true W)):=Lib.hid fun W u=>rSame (resO S) (resO S) ((H4.out.up u5).up u) (h5.up u) (by have:=HSS.out;omega) true ⟨fun _=>rfl,fun _=>rfl⟩ (Up.refl _)
 have U5:=Lib.hid (U1.out.trans (U4.out.trans u5));clear u5 h5 hP cR;obtain⟨j1,hj1⟩:∃j,((rI R:Nat):Int)=j:=⟨_,rfl⟩;obtain⟨e1,he1⟩:∃j,rE R=j:=⟨_,rfl⟩;obtain⟨j2,hj2⟩:∃j,((rI S:Nat):Int)=j:=⟨_,rfl⟩;obtain⟨e2,he2⟩:∃j,rE S=j:=⟨_,rfl⟩;rw[hj1,he1,hj2,he2];go_wp2_with fail;refine cM.mono ?_;rintro e w6 ⟨rfl,u6⟩;have cS:=HS.out w6 u6;have U6:=Lib.hid (U5.out.trans u6);clear u6 cM;go_wp2_with fail;refine cS.mono ?_;rintro e w7 ⟨rfl,u7⟩;have cW:=uN HX.out (U6.out.trans u7);clear u7 cS;go_wp2_with fail;refine cW.mono ?_;rintro e w8 ⟨rfl,u8⟩;go_wp2_with fail
 go_ret
 exact gP rfl u8
end Go.Proofs.YtgeghilbikljcaaGreatDoor
