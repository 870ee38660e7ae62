/-
  The document's Same where there may be no tree, hole and At: what they tell.
-/
import Derived.Test.YtgeghilbikljcaaGreatDoorGs31
import Derived.Test.YtgeghilbikljcaaGreatDoorGs38
set_option maxHeartbeats 40000000
set_option maxRecDepth 100000
namespace Go.Proofs.YtgeghilbikljcaaGreatDoor
open Go.RowKit
theorem InF.at {w:World} {Sq:Nat->Prop}:∀{f:Fr} {b o i:Nat} {t:Tr},InF w Sq f b o->f.get i=some t->∃v,w.cell? ⟨b,o+i,none⟩=some v/\InT w Sq v t
 | .nil,_,_,_,_,_,h=>by cases h
 | .cons x k r,b,o,0,t,⟨⟨v,hv,hn⟩,_⟩,h=>by injection h with h;subst h;exact⟨v,hv,hn⟩
 | .cons x k r,b,o,i+1,t,⟨_,hr⟩,h=>by
  obtain⟨v,hv,hn⟩:=InF.at (f:=r) hr h;refine⟨v,?_,hn⟩;rw[show o+(i+1)=o+1+i by omega];exact hv
def tC (w:World) (v:Value) (f:Fr):Prop:=∃A c,v = .slice A f.len c/\∀(j:Nat) t,f.get j=some t->∃b o u,A=some ⟨b,o,none⟩/\b<w.heap.size/\w.cell? ⟨b,o+j,none⟩=some u/\HasT w u (some t)
theorem tC.kids {W w:World} {v:Value} {f:Fr} (h:KidsP W w v f):tC w v f:=by
 obtain⟨A,c,hv,_,hk⟩:=h;refine⟨A,c,hv,fun j t ht=>?_⟩;obtain⟨g,hA,hg,hf⟩:=hk (by cases f with | nil=>cases ht | cons x k r=>exact Nat.succ_pos _);obtain⟨u,h1,h2⟩:=InF.at hf ht;exact⟨g,0,u,hA,hg.2,h1,NewT.has (W:=W) h2⟩
theorem tC.up {W w:World} {v:Value} {f:Fr} (h:tC W v f) (u:Up W w):tC w v f:=by
 obtain⟨A,c,hv,hc⟩:=h;refine⟨A,c,hv,fun j t ht=>?_⟩;obtain⟨b,o,x,h1,h2,h3,h4⟩:=hc j t ht;exact⟨b,o,x,h1,Nat.lt_of_lt_of_le h2 u.size,u.cell h3,h4.up u⟩
theorem tC.nil (w:World):tC w (.slice none 0 0) .nil:=⟨none,0,rfl,fun j t h=>by cases h⟩
theorem zKz (f:Fr) {W w:World} {v v':Value} (h:tC W v f) (h':tC W v' f) (hz:f.sz<=65536) (u:Up W w) :
  Calls Tryz.prog 16 #[v,v'] w (BoP true W):=by
 obtain⟨A,c,rfl,hA⟩:=h.up u;obtain⟨A',c',rfl,hA'⟩:=h'.up u;have H1:=Lib.hid hA;have H2:=Lib.hid hA';have HU:=Lib.hid u;obtain⟨N,hN⟩:∃N,f.len=N:=⟨_,rfl⟩;have HN:=Lib.hid hN;have hNz:N<=65536:=by have:=Fr.len_le f;omega
 rw[hN];clear hA hA' hN u h h'
 go_enter Tryz.func16,Tryz.ntmps16
 go_wp2_with fail
 go_loopw [13] (fun i wr=>∃k:Nat,i = .int .i64 k/\k<=N/\∃q,wr=w.drewN q) (fun i _=>N-(intOf i).toNat)
 case atStart=>exact⟨0,rfl,Nat.zero_le _,0,rfl⟩
 case round=>
  obtain⟨k,rfl,hk,q,rfl⟩:=hrel
  by_cases hlt:k<N
  ·obtain⟨x,hx⟩:∃x,f.get k=some x:=Fr.get_some (by rw[HN.out];exact hlt)
   obtain⟨b1,o1,pv1,rfl,_,hc1,hp1⟩:=H1.out k x hx;obtain⟨b2,o2,pv2,rfl,_,hc2,hp2⟩:=H2.out k x hx;have hxs:=Fr.get_sz hx;have cI:=fun m=>zYp (some x) (some x) (w.drewN m) _ _ pv1 pv2 (hp1.up (Up.drewN (Up.refl w) m)) (hp2.up (Up.drewN (Up.refl w) m)) (by show szT x<=_;omega) true ⟨fun _=>rfl,fun _=>rfl⟩
   have hlz:(k:Int)<(N:Int):=by omega
   have HCI:=Lib.hid cI;have hw1:wrap64 ((k:Int)+1)=((k+1:Nat):Int):=by unfold wrap64;omega
   obtain⟨⟨q1,p1,A1,d1,rfl,-⟩,-⟩:(∃q p A c,pv1 = .pointer (some ⟨q,p,none⟩)/\True)/\True:=by
    obtain⟨q,p,A,c,h,-⟩:=InT.open hp1;exact⟨⟨q,p,A,c,h,trivial⟩,trivial⟩
   obtain⟨⟨q2,p2,A2,d2,rfl,-⟩,-⟩:(∃q p A c,pv2 = .pointer (some ⟨q,p,none⟩)/\True)/\True:=by
    obtain⟨q,p,A,c,h,-⟩:=InT.open hp2;exact⟨⟨q,p,A,c,h,trivial⟩,trivial⟩
   clear hx hp1 hp2 hxs cI;go_wp2_with fail
   go_quiet ((go_at_call 12;exact sZ (HCI.out _)))
   go_wp2_with fail
   go_roundw
   case rel=>exact⟨k+1,by go_num,by omega,_,rfl⟩
   case measure=>simp[intOf];omega
  ·have hlz:¬(k:Int)<(N:Int):=by omega
   go_wp2_with fail
   go_ret
   exact gP rfl (HU.out.drewN _)
theorem zQl (l:List Te) (top:Bool) (i:Int) (hl:l.length<=1000000) (hz:∀t∈l,t.t.s.size<=1000000000) (m:Nat) (hm:3*l.length+4<=m) (w:World) (v:Value) (hv:Tke w v l) :
  Calls Tryz.prog 15 #[v,.int .i64 i,.bool top] w (fZ (declZ B.nck B.long l m top i) w):=by
 have HV:=Lib.hid hv;obtain⟨G,c,rfl,-⟩:=hv;obtain⟨n,hn⟩:∃n,l.length=n:=⟨_,rfl⟩
 by_cases h0:i<0
 ·have HR:Hid (declZ B.nck B.long l m top i = .inr (0,2)):=Lib.hid (by unfold declZ;rw[if_pos (.inl h0)])
  rw[HR.out]
  go_enter Tryz.func15,Tryz.ntmps15
  go_wp2_with fail
  go_ret3
  exact⟨_,.nil,_,_,rfl,KidsN.nil _ _,⟨rfl,rfl,rfl⟩,Up.refl _⟩
 ·by_cases h1:(n:Int)<i
  ·have HR:Hid (declZ B.nck B.long l m top i = .inr (0,2)):=Lib.hid (by unfold declZ;rw[if_pos (.inr (by rw[hn];exact h1))])
   rw[HR.out];rw[hn]
   go_enter Tryz.func15,Tryz.ntmps15
   go_wp2_with fail
   go_ret3
   exact⟨_,.nil,_,_,rfl,KidsN.nil _ _,⟨rfl,rfl,rfl⟩,Up.refl _⟩
  ·obtain⟨k,rfl⟩:=Int.eq_ofNat_of_zero_le (by omega:0<=i)
   have hkn:k<=l.length:=by omega
   have HR:Hid (declZ B.nck B.long l m top (k:Int)=declF B.nck B.long l m top k):=Lib.hid (by unfold declZ;rw[if_neg (by rw[hn];omega),Int.toNat_natCast]);rw[HR.out];obtain⟨m,rfl⟩:∃q,m=q+1:=⟨m-1,by omega⟩;have hA:=pQ hl hz m m (Nat.le_refl _);have cT:Hid (∀(vt:Value) (W:World),Up w W->RowsM W vt declR->Calls Tryz.prog 29 #[.slice G l.length c,.int .i64 (k:Int),vt,.bool top] W (fZ (declF B.nck B.long l (m+1) top k) W)):=Lib.hid fun vt W u hr=>by
    rw[zTx];exact uU (zTy hl hz w _ HV.out (by omega) (fun j hij hj=>hA.1 j hj (by omega)) fun j hij hj=>hA.2 j hj (by omega)) hkn declR zTw (by decide) top (m+1) (by omega) vt W u hr
   rw[hn] at cT ⊢;clear hz hn HR hA
   go_enter Tryz.func15,Tryz.ntmps15
   go_wp2_with fail;refine(pP w).mono ?_;rintro e w1 ⟨vt,rfl,hr,u1⟩;have cT:=cT.out vt w1 u1 hr;have U1:=Lib.hid (show Up w w1 from u1);clear hr u1;go_wp2_with fail;refine cT.mono ?_;rintro e w2 ⟨va,f,ja,ea,rfl,hk,hV,u2⟩;have H:=Lib.hid hV;have HK:=Lib.hid hk;clear hV hk cT;go_wp2_with fail
   go_ret3
   obtain⟨A,c,rfl,q1,q2,q3⟩:=HK.out;exact⟨_,f,_,_,rfl,⟨A,c,rfl,q1,q2,fun h0=>by
    obtain⟨g,h1,h2,h3⟩:=q3 h0;exact⟨g,h1,⟨Nat.le_trans U1.out.size h2.1,h2.2⟩,InF.keep (fun q hq=>⟨Nat.le_trans U1.out.size hq.1,hq.2⟩) (fun _ _=>rfl) h2 h3⟩⟩,H.out,U1.out.trans u2⟩
def resF (R:Rs Fr):Fr:=match R with
 | .inl (f,_)=>f
 | .inr _=>.nil
theorem zV8.has {R:Rs Fr} {w w':World} {e:Ending} (h:zV8 R w e w'):∃v,e = .returned (.tuple #[v,.int .i64 ((rI R:Nat):Int),.int .i64 (rE R)])/\tC w' v (resF R)/\Up w w':=by
 obtain⟨A,n,c,j,er,rfl,u,hV⟩:=h
 cases R with
 | inl x=>
  obtain⟨t,q⟩:=x;obtain⟨h1,rfl,rfl⟩:=hV;exact⟨_,rfl,tC.kids h1,u⟩
 | inr x=>
  obtain⟨p,r⟩:=x;obtain⟨rfl,rfl,rfl,rfl⟩:=hV;exact⟨_,rfl,⟨none,c,rfl,fun j t h=>by cases h⟩,u⟩
theorem fZ.has {R:Rs Fr} {w w':World} {e:Ending} (h:fZ R w e w'):∃v,e = .returned (.tuple #[v,.int .i64 ((rI R:Nat):Int),.int .i64 (rE R)])/\tC w' v (resF R)/\Up w w':=by
 obtain⟨v,f,j,er,rfl,⟨A,c,hv,hc,_,hk⟩,hV,u⟩:=h
 cases R with
 | inl x=>
  obtain⟨t,q⟩:=x;obtain⟨rfl,rfl,rfl⟩:=hV;exact⟨_,rfl,tC.kids (W:=w) ⟨A,c,hv,hc,hk⟩,u⟩
 | inr x=>
  obtain⟨p,r⟩:=x;obtain⟨rfl,rfl,rfl⟩:=hV;exact⟨_,rfl,⟨A,c,hv,fun j t h=>by cases h⟩,u⟩
theorem zJ0 {l:List Te} {m:Nat} {top:Bool} {i:Int} (hl:l.length<=80):(resF (declZ B.nck B.long l m top i)).sz<=1000:=by
 cases h:declZ B.nck B.long l m top i with
 | inr x=>exact Nat.zero_le _
 | inl x=>
  obtain⟨t,j⟩:=x;unfold declZ at h
  split at h
  ·cases h
  ·have h1:=((xV (l:=l) zRz eX m).2.2.1 top i.toNat t j h).sz
   have h2:=xM (nk:=B.nck) (lg:=B.long) (l:=l) (n:=m) (i:=i.toNat) (top:=top) (by omega);rw[h] at h2;have h3:j<=l.length:=h2.2
   show t.sz<=_
   omega
theorem zQm (l:List B.RTok) (i:Int) (top:Bool) (hl:l.length<=9223372036854775807) (hz:∀t∈l,t.s.size<=9223372036854775807) (w:World) (v:Value) (hx:Vx7 w) (hv:Tkr w v l) :
  Calls Tryz.prog 4 #[v,.int .i64 i,.bool top] w (BoP true w):=by
 have cF:=zKq l hz w w v hv (Up.refl _) hl;have HX:=Lib.hid hx;clear hx hz hl hv
 go_enter Tryz.func4,Tryz.ntmps4
 go_wp2_with fail;refine cF.mono ?_;rintro e w1 ⟨v1,rfl,h1,u1⟩;have ht:Tke w1 v1 (yY l):=zKr h1;have hlen:=iB l;have hts:∀t∈yY l,t.t.s.size<=1000000000:=fun t h=>by have:=zYw l t h;omega
 obtain⟨M,hM⟩:∃M,3*(yY l).length+4<=M:=⟨_,Nat.le_refl _⟩;have hx1:=HX.out.up u1;have cT:=zLu (yY l) top i (by omega) hts M hM w1 v1 ht hx1.nx hx1.px.2 hx1.px.1;have HR:Hid (∀W,Up w1 W->Calls Tryz.prog 15 #[v1,.int .i64 i,.bool top] W (fZ (declZ B.nck B.long (yY l) M top i) W)):=Lib.hid fun W u=>zQl (yY l) top i (by omega) hts M hM W v1 (ht.up u)
 have hsz:=zJ0 (l:=yY l) (m:=M) (top:=top) (i:=i) hlen;obtain⟨R,hRe⟩:∃R,declZ B.nck B.long (yY l) M top i=R:=⟨_,rfl⟩;rw[hRe] at cT HR hsz;have U1:=Lib.hid u1;have HSZ:=Lib.hid hsz;clear u1 h1 hts cF hM ht hlen hRe hx1 hsz;go_wp2_with fail;refine cT.mono ?_;rintro e w2 hP;obtain⟨v2,rfl,h2,u2⟩:=hP.has;have cR:=HR.out w2 u2;have H2:=Lib.hid h2;have U2:=Lib.hid (U1.out.trans u2);clear u2 h2 hP cT;go_wp2_with fail;refine cR.mono ?_;rintro e w3 hP;obtain⟨v3,rfl,h3,u3⟩:=hP.has;have cA:=zKz (resF R) (H2.out.up u3) h3 (by have:=HSZ.out;omega) (Up.refl _);have U3:=Lib.hid (U2.out.trans u3);clear u3 h3 hP cR;obtain⟨jj,hjj⟩:∃j,((rI R:Nat):Int)=j:=⟨_,rfl⟩;obtain⟨ee,hee⟩:∃j,rE R=j:=⟨_,rfl⟩;rw[hjj,hee];go_wp2_with fail;refine cA.mono ?_;rintro e w4 ⟨rfl,u4⟩;have cW:=uN HX.out (U3.out.trans u4);clear u4 cA;go_wp2_with fail;refine cW.mono ?_;rintro e w5 ⟨rfl,u5⟩;go_wp2_with fail
 go_ret
 exact gP rfl u5
end Go.Proofs.YtgeghilbikljcaaGreatDoor
