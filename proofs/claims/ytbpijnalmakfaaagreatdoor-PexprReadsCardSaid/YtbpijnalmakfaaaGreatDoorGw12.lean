/-
  The document's Lex: the walk.
-/
import Derived.Test.YtbpijnalmakfaaaGreatDoorGw11
set_option maxHeartbeats 40000000
set_option maxRecDepth 100000
namespace Go.Proofs.YtbpijnalmakfaaaGreatDoor.B
open Go.RowKit
theorem zHd {d:List Nat} {k p:Nat} (h:btw d=k+btw (d.drop k)):lexL d p=lexL (d.drop k) (p+sz (d.take k)):=by
 have hd:d.drop (btw d)=(d.drop k).drop (btw (d.drop k)):=by rw[h,List.drop_drop]
 have ht:sz (d.take (btw d))=sz (d.take k)+sz ((d.drop k).take (btw (d.drop k))):=by rw[h,List.take_add,sz_app]
 by_cases he:(d.drop k).drop (btw (d.drop k))=[]
 ·rw[vJ he,vJ (by rw[hd];exact he)]
 ·cases e:tokT ((d.drop k).drop (btw (d.drop k))) with
  | none=>rw[wV he e,wV (by rw[hd];exact he) (by rw[hd];exact e),ht,Nat.add_assoc]
  | some tn=>
   obtain⟨t,m⟩:=tn;rw[jQ he e,jQ (by rw[hd];exact he) (by rw[hd];exact e),ht,hd,←Nat.add_assoc p]
theorem zUb {L b:List Nat} {out:List (Tok×Nat)} {a k:Nat} (h:Rel L out b a) (hb:btw b=k+btw (b.drop k)):Rel L out (b.drop k) (a+sz (b.take k)):=by
 unfold Rel at h ⊢;rw[zHd hb] at h;exact h
theorem zBl {r:Nat} {t:List Nat} (h:blk r=true):btw (r::t)=1+btw t:=by
 have h1:cnt blk [r]=1:=by simp[cnt,h]
 have h2:btw [r]=1:=by rw[nY (by rw[h1];rfl),h1]
 exact sK 1 [r] t (Nat.le_refl _) h2
theorem iY {d:List Nat} (h:opens d=true):∃t,d=40::42::t:=by
 obtain⟨t,ht⟩:=List.isPrefixOf_iff_prefix.1 h;exact⟨t,ht.symm⟩
theorem yWi {d:List Nat} {k:Nat} (h:cm 0 32 d=some k) (ho:opens d=true):btw d=k+btw (d.drop k):=by
 have hk:=zXb h;obtain⟨t,ht⟩:=iY ho;have h1:cnt blk d=0:=by rw[ht];rfl
 have h2:cmt d=k:=by unfold cmt;rw[if_pos ho,h];rfl
 have h3:=fW (l:=d) (by rw[h1,List.drop_zero,h2];omega);rw[h1,List.drop_zero,h2,Nat.zero_add] at h3;exact h3
theorem zHe {d:List Nat} (h:cm 0 32 d=none) (ho:opens d=true):btw d=0∧tokT d=none:=by
 obtain⟨t,ht⟩:=iY ho;have h1:cnt blk d=0:=by rw[ht];rfl
 have h2:cmt d=0:=by unfold cmt;rw[if_pos ho,h];rfl
 refine⟨iR h1 h2,?_⟩;rw[ht];rfl
theorem zBm {r:Nat} {t:List Nat} (h:blk r=false) (ho:opens (r::t)=false):btw (r::t)=0:=by
 refine iR (by simp[cnt,h]) ?_;unfold cmt;rw[if_neg (by rw[ho];simp)]
theorem zHf {L:List Nat} {out:List (Tok×Nat)} {a:Nat} (h:Rel L out [] a):lexL L 0 = .inl out:=zPi h rfl
theorem tO {L b:List Nat} {out:List (Tok×Nat)} {a:Nat} (h:Rel L out b a) (e:b≠[]) (h0:btw b=0) (e2:tokT b=none):lexL L 0 = .inr a:=by
 have:=zPj h (by rw[h0];exact e) (by rw[h0];exact e2);rw[h0] at this;exact this
theorem dA {L b:List Nat} {out:List (Tok×Nat)} {a:Nat} {t:Tok} {n:Nat} (h:Rel L out b a) (e:b≠[]) (h0:btw b=0) (e2:tokT b=some (t,n)) :
  Rel L (out++[(t,a)]) (b.drop n) (a+sz (b.take n)):=by
 have:=zVt h (by rw[h0];exact e) (by rw[h0];exact e2);rw[h0] at this;exact this
theorem zPx (r:Nat):blk r=decide (cls (r:Int)=3):=rfl
theorem tP (L:List Nat) (i k:Nat):sz (L.take (i+k))=sz (L.take i)+sz ((L.drop i).take k):=by rw[List.take_add,sz_app]
theorem zPy (s:ByteArray) (hs:s.size≤1000000000) (w:World) :
  Calls Tryz.prog 14 #[.string s] w (aQ (lexR s) w):=by
 have cK:=zH0 s w hs;have hck:mS s w=fun e w'=>e = .returned (.tuple #[.int .i64 (ckr s).1,.int .i64 (ckr s).2])∧Below w.heap.size w w':=rfl
 rw[hck] at cK;clear hck
 by_cases hok:(ckr s).2=0
 ·obtain⟨hc,hv,hrd,hsz⟩:=zIa hok
  rw[hc] at cK;have cD:=fun W=>zZo s W hs
  obtain⟨L,hLd⟩:∃L,rns s 0=L:=⟨_,rfl⟩;have hlen:L.length≤16384:=by have:=yWb s;rw[aU hv,hLd] at this;omega
  have hoL:okl L:=by rw[←hLd];exact aI hv
  have hdec:∀W,pE s W=fun e w'=>∃v,e = .returned (.tuple #[v,.int .i64 0])∧Sl w' w'.heap.size v L∧Below W.heap.size W w':=by
   intro W;unfold pE;rw[aV hv,aU hv,hLd]
  have HOK:=Lib.hid hok;have HLD:=Lib.hid hLd;have HDEC:=Lib.hid hdec;obtain⟨i0,hi,hz0,hz1,hz2⟩:=info_parts zXl;clear hok hc hv hrd hLd hdec;obtain⟨n,hn⟩:∃n,L.length=n:=⟨_,rfl⟩;rw[hn] at hlen;have HN:=Lib.hid hn;clear hn
  go_enter Tryz.func14,Tryz.ntmps14
  go_wp2_with fail;refine cK.mono ?_;rintro e w1 ⟨rfl,hb1⟩;go_wp2_with fail;have cD1:=cD w1;rw[HDEC.out] at cD1;refine cD1.mono ?_;rintro e w2 ⟨v,rfl,hsl,hb2⟩;have hb3:=hb1.trans (hb2.mono hb1.size);obtain⟨A,c,rfl,hlc,_⟩:=id hsl;have HSL:=Lib.hid hsl;rw[HN.out] at HSL hlc ⊢;have HB3:=Lib.hid hb3;have hle2:=hb3.size;clear cD1 hsl hb1 hb2 hb3;go_wp2_with fail
  go_loopw [9,10,11,12,13,14] (fun v x _ _ _ _ wr=>∃(i:Nat) (out:List (Tok×Nat)),x = .int .i64 (i:Int)∧i≤n∧out.length≤i∧wr.ownsRow w2.heap.size 53 4 v out.length (tcel out)∧Below w.heap.size w wr∧Below w2.heap.size w2 wr∧Rel L out (L.drop i) (sz (L.take i))) (fun _ x _ _ _ _ _=>n-(intOf x).toNat)
  case atStart=>exact⟨0,[],rfl,Nat.zero_le _,Nat.zero_le _,⟨rfl,.inl ⟨rfl,rfl⟩⟩,HB3.out,Below.refl _ _,zZn L⟩
  case round=>
   obtain⟨i,out,rfl,hile,hol,hown,hbr,hbr2,hrel⟩:=hrel;have HREL:=Lib.hid hrel;have HBR:=Lib.hid hbr;have HBR2:=Lib.hid hbr2;have HOWN:=Lib.hid hown;have hszr:=hbr.size;clear hrel hbr hbr2 hown
   by_cases hlt:i<n
   ·obtain⟨r,hr⟩:∃r,L[i]? = some r:=⟨_,List.getElem?_eq_getElem (by rw[HN.out];exact hlt)⟩
    obtain⟨ad,hA,hc⟩:=pJ (HSL.out.below HBR2.out) (by exact hr);subst hA;have hzl:(i:Int)<(n:Int):=by omega
    have hd:L.drop i=r::L.drop (i+1):=xE hr;have cC:=fun W=>gC (r:Int) W
    obtain⟨k0,hk0⟩:∃c,cls (r:Int)=c:=⟨_,rfl⟩;rw[hk0] at cC;obtain⟨P,hP⟩:∃P,sz (L.take i)=P:=⟨_,rfl⟩;obtain⟨Q,hQ⟩:∃Q,T (L.take i)=Q:=⟨_,rfl⟩;have hQz:Q.size=P:=by rw[←hQ,qO,hP]
    have hPb:P≤65536:=by have:=zH2 (L.take i);rw[List.length_take,hP] at this;omega
    have hT:∀W,Below w.heap.size w W→Below w2.heap.size w2 W→Calls Tryz.prog 31 #[.slice (some ad) n c,.int .i64 0,.int .i64 (i:Int)] W (vL Q W):=fun W _ hb=>by
     have:=iV (.slice (some ad) n c) L w2.heap.size 0 i W (HSL.out.below hb) hoL (Nat.zero_le _) (by rw[HN.out];exact hile) (by have:=HN.out;omega);rw[List.drop_zero,Nat.sub_zero,hQ] at this;exact this
    have hTw:∀W,W=wr→Calls Tryz.prog 31 #[.slice (some ad) n c,.int .i64 0,.int .i64 (i:Int)] W (vL Q W):=fun W e=>by subst e;exact hT _ HBR.out HBR2.out
    have HT:Hid (∀W,Below w.heap.size w W→W=wr→Calls Tryz.prog 31 #[.slice (some ad) n c,.int .i64 0,.int .i64 (i:Int)] W (vL Q W)):=Lib.hid (fun W _ e=>hTw W e);have HP:=Lib.hid hP;have HR:=Lib.hid hr;have HD:=Lib.hid hd;have HK0:=Lib.hid hk0;clear hr hd hk0 hP hQ hT hTw;subst hQz
    by_cases hb:k0=3
    ·subst hb
     have HB1:Hid (btw (L.drop i)=1+btw ((L.drop i).drop 1)):=Lib.hid (by
      rw[HD.out,zBl (by rw[zPx,HK0.out];rfl)];rfl)
     have HNX:=Lib.hid (zUb HREL.out HB1.out);go_wp2_with fail;refine(HT.out _ HBR.out rfl).mono ?_;rintro e w' ⟨rfl,rfl⟩;go_wp2_with fail;refine(cC _).mono ?_;rintro e w' ⟨rfl,rfl⟩;go_wp2_with fail
     go_roundw
     case rel=>exact⟨i+1,out,by go_num,by omega,by omega,HOWN.out,HBR.out,HBR2.out,by have:=HNX.out;rw[List.drop_drop,←tP] at this;exact this⟩
     case measure=>simp[intOf];omega
    ·have hbz:(k0==3)=false:=by rw[beq_eq_false_iff_ne];exact hb
     have HBLK:Hid (blk r=false):=Lib.hid (by rw[zPx,HK0.out,decide_eq_false_iff_not];exact hb);clear hb;have HNE:Hid (L.drop i≠[]):=Lib.hid (by rw[HD.out];simp)
     cases hop:opens (L.drop i)
     ·have HOP:=Lib.hid hop
      have HB0:Hid (btw (L.drop i)=0):=Lib.hid (by rw[HD.out];exact zBm HBLK.out (by rw[←HD.out];exact hop))
      by_cases h1n:i+1<n
      ·obtain⟨q,hq⟩:∃q,L[i+1]? = some q:=⟨_,List.getElem?_eq_getElem (by rw[HN.out];exact h1n)⟩
       obtain⟨ad2,hA2,hc2⟩:=pJ (HSL.out.below HBR2.out) (by exact hq);injection hA2 with hA2;subst hA2;have hc3:=rZ hc2;have h1z:(i:Int)+1<(n:Int):=by omega
       have hnot:¬(r=40∧q=42):=by
        rintro⟨rfl,rfl⟩;rw[iW HR.out hq] at hop;exact absurd hop (by simp[opens])
       by_cases hr40:r=40
       ·have hq42:((q:Int)==42)=false:=by rw[beq_eq_false_iff_ne];omega
        subst hr40;clear hop hq hnot
        cases htok:tokT (L.drop i) with
        | none=>
         have HBAD:=Lib.hid (tO HREL.out HNE.out HB0.out htok);have CT:=Lib.hid (wG (.slice (some ad) n c) L w2.heap.size i _ wr (HSL.out.below HBR2.out) HBR2.out.size hoL (by have:=HN.out;omega) HR.out HOP.out);have ct:=CT.out;rw[htok] at ct;have CT2:=Lib.hid ct;clear htok ct CT;go_wp2_with fail;refine(HT.out _ HBR.out rfl).mono ?_;rintro e w' ⟨rfl,rfl⟩;go_wp2_with fail;refine(cC _).mono ?_;rintro e w' ⟨rfl,rfl⟩;go_wp2_with fail;refine CT2.out.mono ?_;rintro e w4 ⟨⟨K,S,M,Z,rfl,_⟩,hb4⟩;have hbz:=HBR.out.trans (hb4.mono HBR.out.size);obtain⟨⟨q0,q1,q2,q3⟩,f0,f1,f2,f3⟩:=(Rc.newc w4 #[.int .i64 K,.string S,.int .i64 M,.int .i64 0]).cells;have HRC:=Lib.hid (Rc.newc w4 #[.int .i64 K,.string S,.int .i64 M,.int .i64 0]);have HBZ:=Lib.hid hbz;have hszz:=hbz.size;clear hbz hb4
         go_wp2
         go_ret3
         refine gV ?_ (HBZ.out.alloc hszz _);rw[mX HOK.out (by rw[HLD.out];exact HBAD.out),HP.out]
        | some tn=>
         obtain⟨t,m⟩:=tn;have hm:=jD htok;rw[List.length_drop,HN.out] at hm;have HNEXT:=Lib.hid (dA HREL.out HNE.out HB0.out htok);have ct:=wG (.slice (some ad) n c) L w2.heap.size i _ wr (HSL.out.below HBR2.out) HBR2.out.size hoL (by have:=HN.out;omega) HR.out HOP.out;rw[htok] at ct;have CT2:=Lib.hid ct;clear htok ct;go_wp2_with fail;refine(HT.out _ HBR.out rfl).mono ?_;rintro e w' ⟨rfl,rfl⟩;go_wp2_with fail;refine(cC _).mono ?_;rintro e w' ⟨rfl,rfl⟩;go_wp2_with fail;refine CT2.out.mono ?_;rintro e w4 ⟨⟨K,S,M,Z,rfl,hv⟩,hb4⟩;obtain⟨rfl,rfl,rfl,rfl⟩:=hv t m rfl;clear hv;obtain⟨K,hK⟩:∃K,t.k=K:=⟨_,rfl⟩;obtain⟨X,hX⟩:∃X,T t.x=X:=⟨_,rfl⟩;obtain⟨M,hM⟩:∃M,t.n=M:=⟨_,rfl⟩;rw[hK,hX,hM];have HTC:Hid (tcl (t,sz (L.take i))=[.int .i64 K,.string X,.int .i64 M,.int .i64 (Q.size:Int)]):=Lib.hid (by unfold tcl;rw[hK,hX,hM];rw[HP.out]);have hbz:=HBR.out.trans (hb4.mono HBR.out.size);have hbz2:=HBR2.out.trans (hb4.mono HBR2.out.size);obtain⟨⟨q0,q1,q2,q3⟩,f0,f1,f2,f3⟩:=(Rc.newc w4 #[.int .i64 K,.string X,.int .i64 M,.int .i64 0]).cells;have HRC:=Lib.hid (Rc.newc w4 #[.int .i64 K,.string X,.int .i64 M,.int .i64 0]);have HBZ:=Lib.hid hbz;have HBZ2:=Lib.hid hbz2;have hszz:=hbz.size;have HOWN4:=Lib.hid (yC HOWN.out hb4);clear hbz hbz2 hb4 hK hX hM;have hszz2:=HBZ2.out.size
         go_wp2_with (at_builtin;(refine wpList_append_own _ rfl _ _ 22 rfl w2.heap.size 53 i0 (.agg #[.int .i64 0,.string ⟨#[]⟩,.int .i64 0,.int .i64 0]) 4 40 Tryz.underlying22 hi hz0 hz1 hz2 rfl (by decide) _ _ _ rfl ((HOWN4.out.alloc _).alloc _) ⟨w4.heap.size+1,0,none⟩ 1 1 [.int .i64 K,.string X,.int .i64 M,.int .i64 (Q.size:Int)] rfl rfl (vK _ _ _ _ _ _ _) (tK rfl rfl rfl rfl) (by unfold maxLen;omega) (by omega) (by simp;omega) ?_);intro v' w5 hown5 hgrow5 _)
         have hbel:=((HBZ.out.alloc hszz _).alloc (by simp;omega) _).grown hgrow5 (by simp;omega) (fun g hg=>Nat.le_trans hle2 (HOWN4.out.lt g hg).1);have hbel2:=((HBZ2.out.alloc HBZ2.out.size _).alloc (by have:=HBZ2.out.size;simp;omega) _).grown hgrow5 (by have:=HBZ2.out.size;simp;omega) (fun g hg=>(HOWN4.out.lt g hg).1);have HBEL:=Lib.hid hbel;have HBEL2:=Lib.hid hbel2;have HOWN5:=Lib.hid hown5;clear hbel hbel2 hown5 hgrow5
         go_roundw
         case rel=>
          refine⟨i+m,out++[(t,Q.size)],by go_num,by omega,by rw[List.length_append,List.length_singleton];omega,?_,HBEL.out,HBEL2.out,by have:=HNEXT.out;rw[List.drop_drop,←tP,HP.out] at this;exact this⟩;have e:tcel (out++[(t,Q.size)])=tcel out++[.int .i64 K,.string X,.int .i64 M,.int .i64 (Q.size:Int)]:=by
           rw[tJ]
           show tcel out++(tcl _++[])=_
           have h:=HTC.out;rw[HP.out] at h;rw[List.append_nil,h]
          rw[e,List.length_append,List.length_singleton];exact HOWN5.out
         case measure=>simp[intOf];omega
       ·have hr40z:((r:Int)==40)=false:=by rw[beq_eq_false_iff_ne];omega
        clear hop hq hnot
        cases htok:tokT (L.drop i) with
        | none=>
         have HBAD:=Lib.hid (tO HREL.out HNE.out HB0.out htok);have CT:=Lib.hid (wG (.slice (some ad) n c) L w2.heap.size i _ wr (HSL.out.below HBR2.out) HBR2.out.size hoL (by have:=HN.out;omega) HR.out HOP.out);have ct:=CT.out;rw[htok] at ct;have CT2:=Lib.hid ct;clear htok ct CT;go_wp2_with fail;refine(HT.out _ HBR.out rfl).mono ?_;rintro e w' ⟨rfl,rfl⟩;go_wp2_with fail;refine(cC _).mono ?_;rintro e w' ⟨rfl,rfl⟩;go_wp2_with fail;refine CT2.out.mono ?_;rintro e w4 ⟨⟨K,S,M,Z,rfl,_⟩,hb4⟩;have hbz:=HBR.out.trans (hb4.mono HBR.out.size);obtain⟨⟨q0,q1,q2,q3⟩,f0,f1,f2,f3⟩:=(Rc.newc w4 #[.int .i64 K,.string S,.int .i64 M,.int .i64 0]).cells;have HRC:=Lib.hid (Rc.newc w4 #[.int .i64 K,.string S,.int .i64 M,.int .i64 0]);have HBZ:=Lib.hid hbz;have hszz:=hbz.size;clear hbz hb4
         go_wp2
         go_ret3
         refine gV ?_ (HBZ.out.alloc hszz _);rw[mX HOK.out (by rw[HLD.out];exact HBAD.out),HP.out]
        | some tn=>
         obtain⟨t,m⟩:=tn;have hm:=jD htok;rw[List.length_drop,HN.out] at hm;have HNEXT:=Lib.hid (dA HREL.out HNE.out HB0.out htok);have ct:=wG (.slice (some ad) n c) L w2.heap.size i _ wr (HSL.out.below HBR2.out) HBR2.out.size hoL (by have:=HN.out;omega) HR.out HOP.out;rw[htok] at ct;have CT2:=Lib.hid ct;clear htok ct;go_wp2_with fail;refine(HT.out _ HBR.out rfl).mono ?_;rintro e w' ⟨rfl,rfl⟩;go_wp2_with fail;refine(cC _).mono ?_;rintro e w' ⟨rfl,rfl⟩;go_wp2_with fail;refine CT2.out.mono ?_;rintro e w4 ⟨⟨K,S,M,Z,rfl,hv⟩,hb4⟩;obtain⟨rfl,rfl,rfl,rfl⟩:=hv t m rfl;clear hv;obtain⟨K,hK⟩:∃K,t.k=K:=⟨_,rfl⟩;obtain⟨X,hX⟩:∃X,T t.x=X:=⟨_,rfl⟩;obtain⟨M,hM⟩:∃M,t.n=M:=⟨_,rfl⟩;rw[hK,hX,hM];have HTC:Hid (tcl (t,sz (L.take i))=[.int .i64 K,.string X,.int .i64 M,.int .i64 (Q.size:Int)]):=Lib.hid (by unfold tcl;rw[hK,hX,hM];rw[HP.out]);have hbz:=HBR.out.trans (hb4.mono HBR.out.size);have hbz2:=HBR2.out.trans (hb4.mono HBR2.out.size);obtain⟨⟨q0,q1,q2,q3⟩,f0,f1,f2,f3⟩:=(Rc.newc w4 #[.int .i64 K,.string X,.int .i64 M,.int .i64 0]).cells;have HRC:=Lib.hid (Rc.newc w4 #[.int .i64 K,.string X,.int .i64 M,.int .i64 0]);have HBZ:=Lib.hid hbz;have HBZ2:=Lib.hid hbz2;have hszz:=hbz.size;have HOWN4:=Lib.hid (yC HOWN.out hb4);clear hbz hbz2 hb4 hK hX hM;have hszz2:=HBZ2.out.size
         go_wp2_with (at_builtin;(refine wpList_append_own _ rfl _ _ 22 rfl w2.heap.size 53 i0 (.agg #[.int .i64 0,.string ⟨#[]⟩,.int .i64 0,.int .i64 0]) 4 40 Tryz.underlying22 hi hz0 hz1 hz2 rfl (by decide) _ _ _ rfl ((HOWN4.out.alloc _).alloc _) ⟨w4.heap.size+1,0,none⟩ 1 1 [.int .i64 K,.string X,.int .i64 M,.int .i64 (Q.size:Int)] rfl rfl (vK _ _ _ _ _ _ _) (tK rfl rfl rfl rfl) (by unfold maxLen;omega) (by omega) (by simp;omega) ?_);intro v' w5 hown5 hgrow5 _)
         have hbel:=((HBZ.out.alloc hszz _).alloc (by simp;omega) _).grown hgrow5 (by simp;omega) (fun g hg=>Nat.le_trans hle2 (HOWN4.out.lt g hg).1);have hbel2:=((HBZ2.out.alloc HBZ2.out.size _).alloc (by have:=HBZ2.out.size;simp;omega) _).grown hgrow5 (by have:=HBZ2.out.size;simp;omega) (fun g hg=>(HOWN4.out.lt g hg).1);have HBEL:=Lib.hid hbel;have HBEL2:=Lib.hid hbel2;have HOWN5:=Lib.hid hown5;clear hbel hbel2 hown5 hgrow5
         go_roundw
         case rel=>
          refine⟨i+m,out++[(t,Q.size)],by go_num,by omega,by rw[List.length_append,List.length_singleton];omega,?_,HBEL.out,HBEL2.out,by have:=HNEXT.out;rw[List.drop_drop,←tP,HP.out] at this;exact this⟩;have e:tcel (out++[(t,Q.size)])=tcel out++[.int .i64 K,.string X,.int .i64 M,.int .i64 (Q.size:Int)]:=by
           rw[tJ]
           show tcel out++(tcl _++[])=_
           have h:=HTC.out;rw[HP.out] at h;rw[List.append_nil,h]
          rw[e,List.length_append,List.length_singleton];exact HOWN5.out
         case measure=>simp[intOf];omega
      ·have h1z:¬(i:Int)+1<(n:Int):=by omega
       clear hop
       cases htok:tokT (L.drop i) with
       | none=>
        have HBAD:=Lib.hid (tO HREL.out HNE.out HB0.out htok);have CT:=Lib.hid (wG (.slice (some ad) n c) L w2.heap.size i _ wr (HSL.out.below HBR2.out) HBR2.out.size hoL (by have:=HN.out;omega) HR.out HOP.out);have ct:=CT.out;rw[htok] at ct;have CT2:=Lib.hid ct;clear htok ct CT;go_wp2_with fail;refine(HT.out _ HBR.out rfl).mono ?_;rintro e w' ⟨rfl,rfl⟩;go_wp2_with fail;refine(cC _).mono ?_;rintro e w' ⟨rfl,rfl⟩;go_wp2_with fail;refine CT2.out.mono ?_;rintro e w4 ⟨⟨K,S,M,Z,rfl,_⟩,hb4⟩;have hbz:=HBR.out.trans (hb4.mono HBR.out.size);obtain⟨⟨q0,q1,q2,q3⟩,f0,f1,f2,f3⟩:=(Rc.newc w4 #[.int .i64 K,.string S,.int .i64 M,.int .i64 0]).cells;have HRC:=Lib.hid (Rc.newc w4 #[.int .i64 K,.string S,.int .i64 M,.int .i64 0]);have HBZ:=Lib.hid hbz;have hszz:=hbz.size;clear hbz hb4
        go_wp2
        go_ret3
        refine gV ?_ (HBZ.out.alloc hszz _);rw[mX HOK.out (by rw[HLD.out];exact HBAD.out),HP.out]
       | some tn=>
        obtain⟨t,m⟩:=tn;have hm:=jD htok;rw[List.length_drop,HN.out] at hm;have HNEXT:=Lib.hid (dA HREL.out HNE.out HB0.out htok);have ct:=wG (.slice (some ad) n c) L w2.heap.size i _ wr (HSL.out.below HBR2.out) HBR2.out.size hoL (by have:=HN.out;omega) HR.out HOP.out;rw[htok] at ct;have CT2:=Lib.hid ct;clear htok ct;go_wp2_with fail;refine(HT.out _ HBR.out rfl).mono ?_;rintro e w' ⟨rfl,rfl⟩;go_wp2_with fail;refine(cC _).mono ?_;rintro e w' ⟨rfl,rfl⟩;go_wp2_with fail;refine CT2.out.mono ?_;rintro e w4 ⟨⟨K,S,M,Z,rfl,hv⟩,hb4⟩;obtain⟨rfl,rfl,rfl,rfl⟩:=hv t m rfl;clear hv;obtain⟨K,hK⟩:∃K,t.k=K:=⟨_,rfl⟩;obtain⟨X,hX⟩:∃X,T t.x=X:=⟨_,rfl⟩;obtain⟨M,hM⟩:∃M,t.n=M:=⟨_,rfl⟩;rw[hK,hX,hM];have HTC:Hid (tcl (t,sz (L.take i))=[.int .i64 K,.string X,.int .i64 M,.int .i64 (Q.size:Int)]):=Lib.hid (by unfold tcl;rw[hK,hX,hM];rw[HP.out]);have hbz:=HBR.out.trans (hb4.mono HBR.out.size);have hbz2:=HBR2.out.trans (hb4.mono HBR2.out.size);obtain⟨⟨q0,q1,q2,q3⟩,f0,f1,f2,f3⟩:=(Rc.newc w4 #[.int .i64 K,.string X,.int .i64 M,.int .i64 0]).cells;have HRC:=Lib.hid (Rc.newc w4 #[.int .i64 K,.string X,.int .i64 M,.int .i64 0]);have HBZ:=Lib.hid hbz;have HBZ2:=Lib.hid hbz2;have hszz:=hbz.size;have HOWN4:=Lib.hid (yC HOWN.out hb4);clear hbz hbz2 hb4 hK hX hM;have hszz2:=HBZ2.out.size
        go_wp2_with (at_builtin;(refine wpList_append_own _ rfl _ _ 22 rfl w2.heap.size 53 i0 (.agg #[.int .i64 0,.string ⟨#[]⟩,.int .i64 0,.int .i64 0]) 4 40 Tryz.underlying22 hi hz0 hz1 hz2 rfl (by decide) _ _ _ rfl ((HOWN4.out.alloc _).alloc _) ⟨w4.heap.size+1,0,none⟩ 1 1 [.int .i64 K,.string X,.int .i64 M,.int .i64 (Q.size:Int)] rfl rfl (vK _ _ _ _ _ _ _) (tK rfl rfl rfl rfl) (by unfold maxLen;omega) (by omega) (by simp;omega) ?_);intro v' w5 hown5 hgrow5 _)
        have hbel:=((HBZ.out.alloc hszz _).alloc (by simp;omega) _).grown hgrow5 (by simp;omega) (fun g hg=>Nat.le_trans hle2 (HOWN4.out.lt g hg).1);have hbel2:=((HBZ2.out.alloc HBZ2.out.size _).alloc (by have:=HBZ2.out.size;simp;omega) _).grown hgrow5 (by have:=HBZ2.out.size;simp;omega) (fun g hg=>(HOWN4.out.lt g hg).1);have HBEL:=Lib.hid hbel;have HBEL2:=Lib.hid hbel2;have HOWN5:=Lib.hid hown5;clear hbel hbel2 hown5 hgrow5
        go_roundw
        case rel=>
         refine⟨i+m,out++[(t,Q.size)],by go_num,by omega,by rw[List.length_append,List.length_singleton];omega,?_,HBEL.out,HBEL2.out,by have:=HNEXT.out;rw[List.drop_drop,←tP,HP.out] at this;exact this⟩;have e:tcel (out++[(t,Q.size)])=tcel out++[.int .i64 K,.string X,.int .i64 M,.int .i64 (Q.size:Int)]:=by
          rw[tJ]
          show tcel out++(tcl _++[])=_
          have h:=HTC.out;rw[HP.out] at h;rw[List.append_nil,h]
         rw[e,List.length_append,List.length_singleton];exact HOWN5.out
        case measure=>simp[intOf];omega
     ·have HOP:=Lib.hid hop
      obtain⟨u,hu⟩:=iY hop;have hr40:r=40:=by rw[HD.out] at hu;injection hu
      have hu2:L.drop (i+1)=42::u:=by rw[HD.out] at hu;injection hu
      have hq:L[i+1]? = some 42:=by
       have:(L.drop (i+1))[0]? = some 42:=by rw[hu2];rfl
       rw[List.getElem?_drop] at this
       simpa using this
      have h1n:i+1<n:=by rw[←HN.out];exact(List.getElem?_eq_some_iff.1 hq).1
      obtain⟨ad2,hA2,hc2⟩:=pJ (HSL.out.below HBR2.out) (by exact hq);injection hA2 with hA2;subst hA2;have hc3:=rZ hc2;have h1z:(i:Int)+1<(n:Int):=by omega
      subst hr40;have cM:=zU4 (.slice (some ad) n c) L w2.heap.size i wr (HSL.out.below HBR2.out) (by have:=HN.out;omega) (by rw[HN.out];exact hile) hop;unfold cmAt at cM;clear hu hu2 hq
      cases hcm:cm 0 32 (L.drop i) with
      | none=>
       rw[hcm] at cM;have HBAD:=Lib.hid (tO HREL.out HNE.out (zHe hcm hop).1 (zHe hcm hop).2);have CM:=Lib.hid cM;clear hcm hop cM;go_wp2_with fail;refine(HT.out _ HBR.out rfl).mono ?_;rintro e w' ⟨rfl,rfl⟩;go_wp2_with fail;refine(cC _).mono ?_;rintro e w' ⟨rfl,rfl⟩;go_wp2_with fail;refine CM.out.mono ?_;rintro e w' ⟨rfl,rfl⟩
       go_wp2
       go_ret3
       refine gV ?_ HBR.out;rw[mX HOK.out (by rw[HLD.out];exact HBAD.out),HP.out]
      | some k=>
       rw[hcm] at cM;have hk:=zXb hcm;rw[List.length_drop,HN.out] at hk;have HB1:=Lib.hid (yWi hcm hop);have HNX:=Lib.hid (zUb HREL.out HB1.out);have hik:(((i+k:Nat):Int)==0)=false:=by rw[beq_eq_false_iff_ne];omega
       have cM2:Calls Tryz.prog 33 #[.slice (some ad) n c,.int .i64 (i:Int)] wr (pI (i+k) wr):=cM;obtain⟨j,hj⟩:∃j,i+k=j:=⟨_,rfl⟩;rw[hj] at hik cM2;have CM:=Lib.hid cM2;clear hcm hop cM cM2;go_wp2_with fail;refine(HT.out _ HBR.out rfl).mono ?_;rintro e w' ⟨rfl,rfl⟩;go_wp2_with fail;refine(cC _).mono ?_;rintro e w' ⟨rfl,rfl⟩;go_wp2_with fail;refine CM.out.mono ?_;rintro e w' ⟨rfl,rfl⟩;go_wp2_with fail
       go_roundw
       case rel=>exact⟨j,out,rfl,by omega,by omega,HOWN.out,HBR.out,HBR2.out,by have:=HNX.out;rw[List.drop_drop,←tP,hj] at this;exact this⟩
       case measure=>simp[intOf];omega
   ·have hzl:¬(i:Int)<(n:Int):=by omega
    have HEND:Hid (lexL L 0 = .inl out):=Lib.hid (by
     have:=HREL.out;rw[List.drop_eq_nil_of_le (by rw[HN.out];omega)] at this;exact zHf this)
    go_wp2
    go_ret3
    exact zPh (zPl HOK.out (by rw[HLD.out];exact HEND.out)) HOWN.out HBR.out
 ·obtain⟨x,y,hxy⟩:∃x y,ckr s=(x,y):=⟨_,_,rfl⟩
  rw[hxy] at cK hok;have hy:(y==0)=false:=by rw[beq_eq_false_iff_ne];exact hok
  have hy2:(y != 0)=true:=by rw[bne,hy];rfl
  have HXY:=Lib.hid hxy;have HOK:=Lib.hid hok;clear hxy hok
  go_enter Tryz.func14,Tryz.ntmps14
  go_wp2_with fail;refine cK.mono ?_;rintro e w1 ⟨rfl,hb1⟩
  go_wp2
  go_ret3
  exact gV (zPk HXY.out HOK.out) hb1
end Go.Proofs.YtbpijnalmakfaaaGreatDoor.B
