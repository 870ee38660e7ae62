/-
  The lexer's loops along a text: what goesOn, run, comment and between tell.
-/
import Derived.Test.YtgeghilbikljcaaGreatDoorGj02
import Derived.Laws.Rows
import Derived.Lib.AppendIntMem
import Derived.Lib.AtoiAll
import Derived.Lib.AtoiErrMem
import Derived.Lib.CountLaws
import Derived.Lib.IndexBytes
import Derived.Lib.ItoaLen
import Derived.Lib.LaidTab
import Derived.Lib.Replace
set_option maxHeartbeats 40000000
set_option maxRecDepth 100000
namespace Go.Proofs.YtgeghilbikljcaaGreatDoor.B
open Go.RowKit
theorem aV {s p:ByteArray} {b:Bool} (h:Lib.hasPrefix s.data.toList p.data.toList=b) (w:World) :
  Calls Tryz.prog 97 #[.string s,.string p] w fun e w'=>e = .returned (.bool b)/\w=w':=
 (Tryz.strings_HasPrefix s p w).mono fun _ _ k=>⟨by rw[k.1,h],k.2.symm⟩
def wQ (n:Nat) (W:World) (e:Ending) (w':World):Prop:=e = .returned (.int .i64 (n:Int))/\Below W.heap.size W w'
theorem kQ {n m:Nat} {W w':World} {z:Int} (h:n=m) (hz:z=(m:Int)) (hb:Below W.heap.size W w'):wQ n W (.returned (.int .i64 z)) w':=⟨by rw[h,hz],hb⟩
theorem zZf (r:Int) (n:Nat) (hr:r=(n:Int)) (w:World):Calls Tryz.prog 134 #[.int .i32 r] w fun e w'=>e = .returned (.bool (inr n))/\w=w':=by
 obtain⟨c,hc⟩:∃c,inr n=c:=⟨_,rfl⟩;have cC:∀W,Calls Tryz.prog 92 #[.int .i32 r] W _:=fun W=>jM r W
 obtain⟨k,hk⟩:∃k,cls r=k:=⟨_,rfl⟩;have hin:decide (k=1\/k=2\/r=39)=c:=by
  rw[<- hc,<- hk,hr];unfold inr;rw[decide_eq_decide];omega
 rw[hk] at cC;rw[hc];have HC:=Lib.hid hin;clear hc hk hin hr
 go_enter Tryz.func134,Tryz.ntmps134
 go_wp2_with (go_at_call 92;refine(cC _).mono ?_;rintro e w' ⟨rfl,rfl⟩)
 all_goals go_ret
 all_goals
  refine⟨jS (HC.out.symm.trans ?_),rfl⟩
  first
   | (rw[decide_eq_true_iff];omega)
   | (rw[Bool.eq_iff_iff];simp only[decide_eq_true_iff,Bool.or_eq_true,beq_iff_eq];omega)
theorem iW (r:Int) (n:Nat) (hr:r=(n:Int)) (w:World):Calls Tryz.prog 91 #[.int .i32 r] w fun e w'=>e = .returned (.bool (blk n))/\w=w':=by
 have cC:∀W,Calls Tryz.prog 92 #[.int .i32 r] W _:=fun W=>jM r W
 obtain⟨k,hk⟩:∃k,cls r=k:=⟨_,rfl⟩;have hin:blk n=(k==3):=by
  rw[<- hk,hr]
  rfl
 rw[hk] at cC;have HC:=Lib.hid hin;clear hk hin hr
 go_enter Tryz.func91,Tryz.ntmps91
 go_wp2_with (go_at_call 92;refine(cC _).mono ?_;rintro e w' ⟨rfl,rfl⟩)
 all_goals go_ret
 all_goals exact⟨jS HC.out,rfl⟩
theorem iX (r:Int) (n:Nat) (hr:r=(n:Int)) (w:World):Calls Tryz.prog 138 #[.int .i32 r] w fun e w'=>e = .returned (.bool (dig n))/\w=w':=by
 have cC:∀W,Calls Tryz.prog 92 #[.int .i32 r] W _:=fun W=>jM r W
 obtain⟨k,hk⟩:∃k,cls r=k:=⟨_,rfl⟩;have hin:dig n=(k==2):=by
  rw[<- hk,hr]
  rfl
 rw[hk] at cC;have HC:=Lib.hid hin;clear hk hin hr
 go_enter Tryz.func138,Tryz.ntmps138
 go_wp2_with (go_at_call 92;refine(cC _).mono ?_;rintro e w' ⟨rfl,rfl⟩)
 all_goals go_ret
 all_goals exact⟨jS HC.out,rfl⟩
theorem iY (s:ByteArray) (w:World) :
  Calls Tryz.prog 90 #[.string s,.func (.func 91) #[] #[]] w (wQ (rn blk s 0) w):=by
 obtain⟨ANS,hans⟩:∃b,rn blk s 0=b:=⟨_,rfl⟩;rw[hans];have HA:=Lib.hid hans;clear hans
 go_enter Tryz.func90,Tryz.ntmps90
 go_wp2
 have hit0:(w.iter s 0).heap[w.heap.size]? = some (.stringIter s 0):=World.iter_heap w s 0;have hbi:Below w.heap.size w (w.iter s 0):=(Below.refl _ _).alloc (Nat.le_refl _) _
 generalize w.iter s 0=wq at hit0 hbi ⊢
 go_loopw [] (fun wr=>∃p:Nat,wr.heap[w.heap.size]? = some (.stringIter s p)/\Below w.heap.size w wr/\p<=s.size/\rn blk s p=ANS) (fun wr=>s.size-wr.iterPos w.heap.size)
 case atStart=>exact⟨0,hit0,hbi,Nat.zero_le _,HA.out⟩
 case round=>
  obtain⟨p,hit,hbw,hp,hc⟩:=hrel;have HC:=Lib.hid hc;clear hc hit0 hbi;have hpos0:=iterPos_of hit
  by_cases hlt:p<s.size
  ·have hnx:∀ty,(Instr.next (.pointer (some ⟨w.heap.size,0,none⟩)) true ty).run Tryz.prog wr=_:=fun ty=>Lib.run_next_any_at wr w.heap.size s p ty hit hlt
   have hw1:=kN s p;have hw2:=iP s p hlt;have hit2:=Lib.iterAt_heap wr w.heap.size s p (p+(dc s p).2) hit;have hbw2:=Lib.below_iterAt hbw (k:=w.heap.size) (Nat.le_refl _) s (p+(dc s p).2);have HS:=Lib.hid (pO (f:=blk) (s:=s) hlt);have HN:=Lib.hid (pP (f:=blk) (s:=s) hlt);obtain⟨r,k,hrk⟩:∃r k,dc s p=(r,k):=⟨_,_,rfl⟩;rw[show Utf8.decode s p=(r,k) from hrk] at hnx;rw[hrk] at hw1 hw2 hit2 hbw2 HS HN
   dsimp only at hw1 hw2 hit2 hbw2 HS HN hnx
   clear hrk;obtain⟨W1,hW1⟩:∃W1,W1=wr.iterAt w.heap.size s (p+k):=⟨_,rfl⟩;rw[<- hW1] at hnx hit2 hbw2;have hpos2:=iterPos_of hit2;have HP0:=Lib.hid hpos0;have HP2:=Lib.hid hpos2;have HIT:=Lib.hid hit2;clear hW1 hpos0 hpos2 hit hbw hit2;have cR:∀W,Calls Tryz.prog 91 #[.int .i32 r] W _:=fun W=>iW r r rfl W
   obtain⟨b,hb⟩:∃b,blk r=b:=⟨_,rfl⟩;rw[hb] at cR;have HB:=Lib.hid hb;clear hb
   cases b
   ·go_wp2_with (go_at_call 91;refine(cR _).mono ?_;rintro e w' ⟨rfl,rfl⟩)
    go_ret
    exact kQ (HC.out.symm.trans (HS.out HB.out)) rfl hbw2
   ·go_wp2_with (go_at_call 91;refine(cR _).mono ?_;rintro e w' ⟨rfl,rfl⟩)
    go_roundw
    case rel=>exact⟨p+k,HIT.out,hbw2,hw2,by rw[<- HN.out HB.out];exact HC.out⟩
    case measure=>rw[HP0.out,HP2.out];omega
  ·have hnx:∀ty,(Instr.next (.pointer (some ⟨w.heap.size,0,none⟩)) true ty).run Tryz.prog wr=_:=fun ty=>Lib.run_next_end_at wr w.heap.size s p ty hit hlt
   have HE:=Lib.hid (aU (f:=blk) hlt);clear hpos0
   go_wp2
   go_ret
   exact kQ (HC.out.symm.trans HE.out) rfl hbw
theorem iZ (s:ByteArray) (w:World) :
  Calls Tryz.prog 90 #[.string s,.func (.func 138) #[] #[]] w (wQ (rn dig s 0) w):=by
 obtain⟨ANS,hans⟩:∃b,rn dig s 0=b:=⟨_,rfl⟩;rw[hans];have HA:=Lib.hid hans;clear hans
 go_enter Tryz.func90,Tryz.ntmps90
 go_wp2
 have hit0:(w.iter s 0).heap[w.heap.size]? = some (.stringIter s 0):=World.iter_heap w s 0;have hbi:Below w.heap.size w (w.iter s 0):=(Below.refl _ _).alloc (Nat.le_refl _) _
 generalize w.iter s 0=wq at hit0 hbi ⊢
 go_loopw [] (fun wr=>∃p:Nat,wr.heap[w.heap.size]? = some (.stringIter s p)/\Below w.heap.size w wr/\p<=s.size/\rn dig s p=ANS) (fun wr=>s.size-wr.iterPos w.heap.size)
 case atStart=>exact⟨0,hit0,hbi,Nat.zero_le _,HA.out⟩
 case round=>
  obtain⟨p,hit,hbw,hp,hc⟩:=hrel;have HC:=Lib.hid hc;clear hc hit0 hbi;have hpos0:=iterPos_of hit
  by_cases hlt:p<s.size
  ·have hnx:∀ty,(Instr.next (.pointer (some ⟨w.heap.size,0,none⟩)) true ty).run Tryz.prog wr=_:=fun ty=>Lib.run_next_any_at wr w.heap.size s p ty hit hlt
   have hw1:=kN s p;have hw2:=iP s p hlt;have hit2:=Lib.iterAt_heap wr w.heap.size s p (p+(dc s p).2) hit;have hbw2:=Lib.below_iterAt hbw (k:=w.heap.size) (Nat.le_refl _) s (p+(dc s p).2);have HS:=Lib.hid (pO (f:=dig) (s:=s) hlt);have HN:=Lib.hid (pP (f:=dig) (s:=s) hlt);obtain⟨r,k,hrk⟩:∃r k,dc s p=(r,k):=⟨_,_,rfl⟩;rw[show Utf8.decode s p=(r,k) from hrk] at hnx;rw[hrk] at hw1 hw2 hit2 hbw2 HS HN
   dsimp only at hw1 hw2 hit2 hbw2 HS HN hnx
   clear hrk;obtain⟨W1,hW1⟩:∃W1,W1=wr.iterAt w.heap.size s (p+k):=⟨_,rfl⟩;rw[<- hW1] at hnx hit2 hbw2;have hpos2:=iterPos_of hit2;have HP0:=Lib.hid hpos0;have HP2:=Lib.hid hpos2;have HIT:=Lib.hid hit2;clear hW1 hpos0 hpos2 hit hbw hit2;have cR:∀W,Calls Tryz.prog 138 #[.int .i32 r] W _:=fun W=>iX r r rfl W
   obtain⟨b,hb⟩:∃b,dig r=b:=⟨_,rfl⟩;rw[hb] at cR;have HB:=Lib.hid hb;clear hb
   cases b
   ·go_wp2_with (go_at_call 138;refine(cR _).mono ?_;rintro e w' ⟨rfl,rfl⟩)
    go_ret
    exact kQ (HC.out.symm.trans (HS.out HB.out)) rfl hbw2
   ·go_wp2_with (go_at_call 138;refine(cR _).mono ?_;rintro e w' ⟨rfl,rfl⟩)
    go_roundw
    case rel=>exact⟨p+k,HIT.out,hbw2,hw2,by rw[<- HN.out HB.out];exact HC.out⟩
    case measure=>rw[HP0.out,HP2.out];omega
  ·have hnx:∀ty,(Instr.next (.pointer (some ⟨w.heap.size,0,none⟩)) true ty).run Tryz.prog wr=_:=fun ty=>Lib.run_next_end_at wr w.heap.size s p ty hit hlt
   have HE:=Lib.hid (aU (f:=dig) hlt);clear hpos0
   go_wp2
   go_ret
   exact kQ (HC.out.symm.trans HE.out) rfl hbw
theorem fC (s:ByteArray) (w:World) :
  Calls Tryz.prog 90 #[.string s,.func (.func 134) #[] #[]] w (wQ (rn inr s 0) w):=by
 obtain⟨ANS,hans⟩:∃b,rn inr s 0=b:=⟨_,rfl⟩;rw[hans];have HA:=Lib.hid hans;clear hans
 go_enter Tryz.func90,Tryz.ntmps90
 go_wp2
 have hit0:(w.iter s 0).heap[w.heap.size]? = some (.stringIter s 0):=World.iter_heap w s 0;have hbi:Below w.heap.size w (w.iter s 0):=(Below.refl _ _).alloc (Nat.le_refl _) _
 generalize w.iter s 0=wq at hit0 hbi ⊢
 go_loopw [] (fun wr=>∃p:Nat,wr.heap[w.heap.size]? = some (.stringIter s p)/\Below w.heap.size w wr/\p<=s.size/\rn inr s p=ANS) (fun wr=>s.size-wr.iterPos w.heap.size)
 case atStart=>exact⟨0,hit0,hbi,Nat.zero_le _,HA.out⟩
 case round=>
  obtain⟨p,hit,hbw,hp,hc⟩:=hrel;have HC:=Lib.hid hc;clear hc hit0 hbi;have hpos0:=iterPos_of hit
  by_cases hlt:p<s.size
  ·have hnx:∀ty,(Instr.next (.pointer (some ⟨w.heap.size,0,none⟩)) true ty).run Tryz.prog wr=_:=fun ty=>Lib.run_next_any_at wr w.heap.size s p ty hit hlt
   have hw1:=kN s p;have hw2:=iP s p hlt;have hit2:=Lib.iterAt_heap wr w.heap.size s p (p+(dc s p).2) hit;have hbw2:=Lib.below_iterAt hbw (k:=w.heap.size) (Nat.le_refl _) s (p+(dc s p).2);have HS:=Lib.hid (pO (f:=inr) (s:=s) hlt);have HN:=Lib.hid (pP (f:=inr) (s:=s) hlt);obtain⟨r,k,hrk⟩:∃r k,dc s p=(r,k):=⟨_,_,rfl⟩;rw[show Utf8.decode s p=(r,k) from hrk] at hnx;rw[hrk] at hw1 hw2 hit2 hbw2 HS HN
   dsimp only at hw1 hw2 hit2 hbw2 HS HN hnx
   clear hrk;obtain⟨W1,hW1⟩:∃W1,W1=wr.iterAt w.heap.size s (p+k):=⟨_,rfl⟩;rw[<- hW1] at hnx hit2 hbw2;have hpos2:=iterPos_of hit2;have HP0:=Lib.hid hpos0;have HP2:=Lib.hid hpos2;have HIT:=Lib.hid hit2;clear hW1 hpos0 hpos2 hit hbw hit2;have cR:∀W,Calls Tryz.prog 134 #[.int .i32 r] W _:=fun W=>zZf r r rfl W
   obtain⟨b,hb⟩:∃b,inr r=b:=⟨_,rfl⟩;rw[hb] at cR;have HB:=Lib.hid hb;clear hb
   cases b
   ·go_wp2_with (go_at_call 134;refine(cR _).mono ?_;rintro e w' ⟨rfl,rfl⟩)
    go_ret
    exact kQ (HC.out.symm.trans (HS.out HB.out)) rfl hbw2
   ·go_wp2_with (go_at_call 134;refine(cR _).mono ?_;rintro e w' ⟨rfl,rfl⟩)
    go_roundw
    case rel=>exact⟨p+k,HIT.out,hbw2,hw2,by rw[<- HN.out HB.out];exact HC.out⟩
    case measure=>rw[HP0.out,HP2.out];omega
  ·have hnx:∀ty,(Instr.next (.pointer (some ⟨w.heap.size,0,none⟩)) true ty).run Tryz.prog wr=_:=fun ty=>Lib.run_next_end_at wr w.heap.size s p ty hit hlt
   have HE:=Lib.hid (aU (f:=inr) hlt);clear hpos0
   go_wp2
   go_ret
   exact kQ (HC.out.symm.trans HE.out) rfl hbw
theorem zPi {d:Int} {l r:Nat} (h:l=40/\r=42):cstep (d,l) r=(d+1,32):=by unfold cstep;rw[if_pos h]
theorem zPj {d:Int} {l r:Nat} (h:l=42/\r=41):cstep (d,l) r=(d-1,32):=by unfold cstep;rw[if_neg (by omega),if_pos h]
theorem zPk {d:Int} {l r:Nat} (h1:¬(l=40/\r=42)) (h2:¬(l=42/\r=41)):cstep (d,l) r=(d,r):=by unfold cstep;rw[if_neg h1,if_neg h2]
theorem zXj {d d':Int} {l r:Nat} (h:(l=40/\r=42)\/(l=42/\r=41)) (hs:cstep (d,l) r=(d',32)):chit (d,l) r=decide (d'=0):=by
 unfold chit;rw[hs,decide_eq_decide];exact⟨fun k=>k.2,fun k=>⟨h,k⟩⟩
theorem zMq {d:Int} {l r:Nat} (h1:¬(l=40/\r=42)) (h2:¬(l=42/\r=41)):chit (d,l) r=false:=by
 unfold chit;rw[decide_eq_false_iff_not];rintro⟨h | h,_⟩
 ·exact h1 h
 ·exact h2 h
theorem oA (s:ByteArray) (w:World) (hs:s.size<=1000000000) :
  Calls Tryz.prog 93 #[.string s] w (wQ (cmb s) w):=by
 obtain⟨ANS,hans⟩:∃b,cmb s=b:=⟨_,rfl⟩;rw[hans];obtain⟨hp,hhp⟩:∃b,Lib.hasPrefix s.data.toList [40,42]=b:=⟨_,rfl⟩;have cH:∀W,Calls Tryz.prog 97 #[.string s,.string ⟨#[40,42]⟩] W _:=fun W=>aV (p:=⟨#[40,42]⟩) hhp W
 unfold cmb at hans;rw[hhp] at hans;clear hhp
 cases hp
 ·have HA:=Lib.hid hans
  clear hans
  go_enter Tryz.func93,Tryz.ntmps93
  go_wp2_with (go_at_call 97;refine(cH _).mono ?_;rintro e w' ⟨rfl,rfl⟩)
  go_ret
  exact kQ HA.out.symm rfl (Below.refl _ _)
 ·rw[if_pos rfl] at hans
  have HA:=Lib.hid hans;clear hans
  go_enter Tryz.func93,Tryz.ntmps93
  go_wp2_with (go_at_call 97;refine(cH _).mono ?_;rintro e w' ⟨rfl,rfl⟩)
  have hit0:(w.iter s 0).heap[w.heap.size]? = some (.stringIter s 0):=World.iter_heap w s 0;have hbi:Below w.heap.size w (w.iter s 0):=(Below.refl _ _).alloc (Nat.le_refl _) _
  generalize w.iter s 0=wq at hit0 hbi ⊢
  go_loopw [3,4] (fun a b wr=>∃(p:Nat) (d:Int) (l:Nat),wr.heap[w.heap.size]? = some (.stringIter s p)/\Below w.heap.size w wr/\p<=s.size/\a = .int .i64 d/\b = .int .i32 (l:Int)/\-(p:Int)<=d/\d<=p/\l<=1114111/\cmp s (d,l) p=ANS) (fun _ _ wr=>s.size-wr.iterPos w.heap.size)
  case atStart=>exact⟨0,0,32,hit0,hbi,Nat.zero_le _,rfl,rfl,by omega,by omega,by omega,HA.out⟩
  case round=>
   obtain⟨p,d,l,hit,hbw,hp,rfl,rfl,hd1,hd2,hl,hc⟩:=hrel;have HC:=Lib.hid hc;clear hc hit0 hbi;have hpos0:=iterPos_of hit
   by_cases hlt:p<s.size
   ·have hnx:∀ty,(Instr.next (.pointer (some ⟨w.heap.size,0,none⟩)) true ty).run Tryz.prog wr=_:=fun ty=>Lib.run_next_any_at wr w.heap.size s p ty hit hlt
    have hw1:=kN s p;have hw2:=iP s p hlt;have hrl:=zP8 s p;have hit2:=Lib.iterAt_heap wr w.heap.size s p (p+(dc s p).2) hit;have hbw2:=Lib.below_iterAt hbw (k:=w.heap.size) (Nat.le_refl _) s (p+(dc s p).2);have HS:=Lib.hid (iU (s:=s) (st:=(d,l)) hlt);have HN:=Lib.hid (iV (s:=s) (st:=(d,l)) hlt);obtain⟨r,k,hrk⟩:∃r k,dc s p=(r,k):=⟨_,_,rfl⟩;rw[show Utf8.decode s p=(r,k) from hrk] at hnx;rw[hrk] at hw1 hw2 hit2 hbw2 HS HN hrl
    dsimp only at hw1 hw2 hit2 hbw2 HS HN hnx hrl
    clear hrk;obtain⟨W1,hW1⟩:∃W1,W1=wr.iterAt w.heap.size s (p+k):=⟨_,rfl⟩;rw[<- hW1] at hnx hit2 hbw2;have hpos2:=iterPos_of hit2;have HP0:=Lib.hid hpos0;have HP2:=Lib.hid hpos2;have HIT:=Lib.hid hit2;clear hW1 hpos0 hpos2 hit hbw hit2
    by_cases ca:l=40/\r=42
    ·obtain⟨rfl,rfl⟩:=ca
     have HT:=Lib.hid (zPi (d:=d) (l:=40) (r:=42) ⟨rfl,rfl⟩);have HK:=Lib.hid (zXj (.inl ⟨rfl,rfl⟩) HT.out)
     by_cases hz:d+1=0
     ·have hz2:(d+1==0)=true:=by simp[hz]
      clear hz
      go_wp2
      go_ret
      exact kQ (HC.out.symm.trans (HS.out (by rw[HK.out];simpa using hz2))) (by omega) hbw2
     ·have hz2:(d+1==0)=false:=by simp[hz]
      clear hz
      go_wp2
      go_roundw
      case rel=>exact⟨p+k,d+1,32,HIT.out,hbw2,hw2,rfl,rfl,by omega,by omega,by omega,by rw[<- HC.out,HN.out (by rw[HK.out];simpa using hz2),HT.out]⟩
      case measure=>rw[HP0.out,HP2.out];omega
    ·by_cases cb:l=42/\r=41
     ·obtain⟨rfl,rfl⟩:=cb
      clear ca;have HT:=Lib.hid (zPj (d:=d) (l:=42) (r:=41) ⟨rfl,rfl⟩);have HK:=Lib.hid (zXj (.inr ⟨rfl,rfl⟩) HT.out)
      by_cases hz:d-1=0
      ·have hz2:(d-1==0)=true:=by simp[hz]
       clear hz
       go_wp2
       go_ret
       exact kQ (HC.out.symm.trans (HS.out (by rw[HK.out];simpa using hz2))) (by omega) hbw2
      ·have hz2:(d-1==0)=false:=by simp[hz]
       clear hz
       go_wp2
       go_roundw
       case rel=>exact⟨p+k,d-1,32,HIT.out,hbw2,hw2,rfl,rfl,by omega,by omega,by omega,by rw[<- HC.out,HN.out (by rw[HK.out];simpa using hz2),HT.out]⟩
       case measure=>rw[HP0.out,HP2.out];omega
     ·have HT:=Lib.hid (zPk (d:=d) ca cb)
      have HK:=Lib.hid (zMq (d:=d) ca cb);have b1:(((l:Int)==40)&&((r:Int)==42))=false:=by
       rw[Bool.and_eq_false_iff,beq_eq_false_iff_ne,beq_eq_false_iff_ne];omega
      have b2:(((l:Int)==42)&&((r:Int)==41))=false:=by
       rw[Bool.and_eq_false_iff,beq_eq_false_iff_ne,beq_eq_false_iff_ne];omega
      have CA:=Lib.hid ca;have CB:=Lib.hid cb;clear ca cb
      go_wp2
      all_goals first
       | (exfalso;have ca:=CA.out;have cb:=CB.out;simp only[beq_iff_eq,beq_eq_false_iff_ne,ne_eq] at *;omega)
       | (go_roundw
          case rel=>exact⟨p+k,d,r,HIT.out,hbw2,hw2,rfl,rfl,by omega,by omega,hrl,by rw[<- HC.out,HN.out HK.out,HT.out]⟩
          case measure=>rw[HP0.out,HP2.out];omega)
       | trace_state
   ·have hnx:∀ty,(Instr.next (.pointer (some ⟨w.heap.size,0,none⟩)) true ty).run Tryz.prog wr=_:=fun ty=>Lib.run_next_end_at wr w.heap.size s p ty hit hlt
    have HE:=Lib.hid (zXh (s:=s) (st:=(d,l)) hlt);clear hpos0
    go_wp2
    go_ret
    exact kQ (HC.out.symm.trans HE.out) rfl hbw
theorem zJ (l:List Nat) (ho:okl l) (w:World) (hs:sz l<=1000000000) :
  Calls Tryz.prog 56 #[.string (T l)] w (wQ (sz (l.take (btw l))) w):=by
 have hsz:=qO l;obtain⟨S,hS⟩:∃S,T l=S:=⟨_,rfl⟩;rw[hS] at hsz;have HS:=Lib.hid hS;rw[hS];obtain⟨ANS,hans⟩:∃b,sz (l.take (btw l))=b:=⟨_,rfl⟩;rw[hans];have HA:=Lib.hid hans;have HZ:=Lib.hid hsz;have hSz:S.size<=1000000000:=by omega
 clear hS hans hsz hs
 go_enter Tryz.func56,Tryz.ntmps56
 go_wp2
 go_loopw [3,4,5] (fun v _ _ wr=>∃(a b:List Nat),l=a++b/\v = .int .i64 (sz a:Nat)/\Below w.heap.size w wr/\sz a<=S.size/\sz a+sz (b.take (btw b))=ANS) (fun v _ _ _=>S.size-(intOf v).toNat)
 case atStart=>exact⟨[],l,rfl,rfl,Below.refl _ _,Nat.zero_le _,by rw[yT,Nat.zero_add];exact HA.out⟩
 case round=>
  obtain⟨a,b,hl,rfl,hbw,hle,hans⟩:=hrel;have hb1:=(xB.1 (hl▸ho)).2;have hc1:=kC blk b;obtain⟨c,hc⟩:∃c,b.take (cnt blk b)=c:=⟨_,rfl⟩;obtain⟨d,hd⟩:∃d,b.drop (cnt blk b)=d:=⟨_,rfl⟩;have hbcd:b=c++d:=by rw[<- hc,<- hd];exact(List.take_append_drop _ _).symm
  have hd1:=(xB.1 (hbcd▸hb1)).2;have E1:Hid (S.extract (sz a) S.size=T b):=Lib.hid (by rw[<- HS.out,qO,hl];exact fX a b);have E2:Hid (S.extract (sz a+sz c) S.size=T d):=Lib.hid (by rw[<- HS.out,qO,hl,hbcd,<- List.append_assoc,<- sz_app];exact fX (a++c) d);have hz2:sz a+sz c<=S.size:=by rw[HZ.out,hl,hbcd,sz_app,sz_app];omega
  have hz3:sz d<=1000000000:=by have h3:=HZ.out;rw[hl,hbcd,sz_app,sz_app] at h3;omega
  have c1:=fun W=>iY (T b) W
  rw[iT blk hb1,hc] at c1;have c2:=fun W=>oA (T d) W (by rw[qO];exact hz3)
  rw[cmb_T hd1] at c2;obtain⟨f,hf⟩:∃f,d.take (cmt d)=f:=⟨_,rfl⟩;obtain⟨g,hg⟩:∃g,d.drop (cmt d)=g:=⟨_,rfl⟩;have hdfg:d=f++g:=by rw[<- hf,<- hg];exact(List.take_append_drop _ _).symm
  have hzf:sz a+sz c+sz f<=S.size:=by rw[HZ.out,hl,hbcd,hdfg,sz_app,sz_app,sz_app];omega
  rw[hf] at c2;have HF:Hid (sz f=0↔cmt d=0):=Lib.hid (by
   have h1:=mO d;have h2:=mN f;rw[<- hf,List.length_take,hf] at h2
   constructor
   ·intro h;omega
   ·intro h;rw[<- hf,h];rfl)
  have HEND:Hid (cmt d=0->sz a+sz c=ANS):=Lib.hid (by
   intro h;rw[<- hans,wP (by rw[hd];exact h),hc])
  have HSTEP:Hid (cmt d≠0->sz (a++(c++f))+sz (g.take (btw g))=ANS):=Lib.hid (by
   intro h;have hs:=jQ (l:=b) (by rw[hd];exact h);rw[hd] at hs;have e1:b.drop (cnt blk b+cmt d)=g:=by rw[<- List.drop_drop,hd,hg]
   rw[e1] at hs;have e2:b.take (btw b)=c++(f++g.take (btw g)):=by
    rw[hs,Nat.add_assoc,List.take_add,hc,hd,List.take_add,hf,hg]
   rw[<- hans,e2,sz_app,sz_app,sz_app,sz_app]
   omega)
  have HL:Hid (l=(a++(c++f))++g):=Lib.hid (by rw[hl,hbcd,hdfg];simp);have HSZ:Hid (sz (a++(c++f))=sz a+(sz c+sz f)):=Lib.hid (by rw[sz_app,sz_app]);clear hl hans hc hd hbcd hf hg hdfg HA;go_wp2_with fail;rw[E1.out];refine(c1 _).mono ?_;rintro e w1 ⟨rfl,hb1⟩;go_wp2_with fail;rw[E2.out];refine(c2 _).mono ?_;rintro e w2 ⟨rfl,hb2⟩;have hfin:=(hbw.trans (hb1.mono hbw.size)).trans (hb2.mono (Nat.le_trans hbw.size hb1.size))
  by_cases hz:sz f=0
  ·have hz':((sz f:Nat):Int)=0:=by omega
   have HZ0:=Lib.hid hz
   go_wp2
   go_ret
   exact kQ (HEND.out (HF.out.1 HZ0.out)).symm (by have:=HZ0.out;omega) hfin
  ·have hz':(((sz f:Nat):Int)==0)=false:=by rw[beq_eq_false_iff_ne];omega
   have HZ0:=Lib.hid hz;clear hz
   go_wp2
   go_roundw
   case rel=>exact⟨a++(c++f),g,HL.out,by rw[HSZ.out];go_num,hfin,by rw[HSZ.out];omega,HSTEP.out (fun h=>HZ0.out (HF.out.2 h))⟩
   case measure=>have:=HZ0.out;simp[intOf];omega
def wrdL (b:List UInt8):Bool:=(b==[118,97,108])||(b==[116,121,112,101])||(b==[100,97,116,97,116,121,112,101])||(b==[115,116,114,117,99,116,117,114,101])||(b==[115,105,103,110,97,116,117,114,101])||(b==[102,117,110,99,116,111,114])||(b==[111,112,101,110])||(b==[105,110,99,108,117,100,101])||(b==[115,116,114,117,99,116])||(b==[101,110,100])||(b==[115,105,103])||(b==[119,104,101,114,101])||(b==[115,104,97,114,105,110,103])||(b==[102,110])||(b==[108,101,116])||(b==[105,110])||(b==[105,102])||(b==[116,104,101,110])||(b==[101,108,115,101])||(b==[99,97,115,101])||(b==[102,111,108,100])||(b==[111,102])||(b==[116,111])||(b==[105,110,116])||(b==[98,111,111,108])||(b==[117,110,105,116])||(b==[116,114,117,101])||(b==[102,97,108,115,101])||(b==[109,117])
theorem wrd_L (s:ByteArray):wrd s=wrdL s.toList:=by
 have e:∀x:List Nat,(∀r∈x,r<128)->decide (s=T x)=(s.toList==u8 x):=by
  intro x hx;rw[Lib.toList_data,Bool.eq_iff_iff,decide_eq_true_iff,beq_iff_eq,<- xM hx];exact⟨fun h=>by rw[h];rfl,fun h=>fB h⟩
 have k:WORDS.any (fun x=>decide (s=T x))=WORDS.any (fun x=>s.toList==u8 x):=by
  have hW:∀x∈WORDS,∀r∈x,r<128:=by decide
  rw[Bool.eq_iff_iff,List.any_eq_true,List.any_eq_true];exact⟨fun⟨x,h1,h2⟩=>⟨x,h1,by rw[<- e x (hW x h1)];exact h2⟩,fun⟨x,h1,h2⟩=>⟨x,h1,by rw[e x (hW x h1)];exact h2⟩⟩
 unfold wrd;rw[k];simp only[WORDS,List.any_cons,List.any_nil,Bool.or_false,u8,List.map_cons,List.map_nil,wrdL,Bool.or_assoc]
 rfl
theorem sZ (s:ByteArray) (w:World) :
  Calls Tryz.prog 135 #[.string s] w fun e w'=>e = .returned (.bool (wrd s))/\w=w':=by
 rw[wrd_L];obtain⟨ANS,hans⟩:∃b,wrdL s.toList=b:=⟨_,rfl⟩;rw[hans];have HA:=Lib.hid hans;clear hans
 go_enter Tryz.func135,Tryz.ntmps135
 go_wp2
 all_goals first
  | (exfalso;simp_all;done)
  | (go_ret
     refine⟨jS (HA.out.symm.trans ?_),rfl⟩;unfold wrdL;simp only[*,Bool.true_or,Bool.or_true,Bool.or_self])
theorem zZ {w:World} {a:Addr} {v:Value} (h:w.cell? a=some v):a.block<w.heap.size:=by
 rcases Nat.lt_or_ge a.block w.heap.size with h' | h'
 ·exact h'
 ·simp[World.cell?,Array.getElem?_eq_none h'] at h
theorem fD {w w':World} {a:Addr} {v:Value} (h:w.cell? a=some v) (hb:Below w.heap.size w w'):w'.cell? a=some v:=(hb.cell (zZ h)).trans h
theorem qC {w:World} {g:Nat} {o:Obj} (h:w.heap[g]? = some o):g<w.heap.size:=by
 rcases Nat.lt_or_ge g w.heap.size with h' | h'
 ·exact h'
 ·rw[Array.getElem?_eq_none h'] at h;cases h
theorem zC {w w':World} {g:Nat} {o:Obj} (h:w.heap[g]? = some o) (hb:Below w.heap.size w w'):w'.heap[g]? = some o:=(hb.block g (qC h)).trans h
theorem dJ {w w':World} {name:String} {k:IntKind} {zs:List Int} {g:Nat} (hg:Tryz.prog.globalNamed name=some g) (h:Lib.TabIs Tryz.prog w name k zs) (hb:Below w.heap.size w w'):Lib.TabIs Tryz.prog w' name k zs:=by
 unfold Lib.TabIs World.var? at h ⊢;rw[hg] at h ⊢;simp only[Option.bind_some] at h ⊢
 cases ho:w.heap[g]? with
 | none=>rw[ho] at h;cases h
 | some o=>rw[zC ho hb,<- ho];exact h
def sgV:Array Value:=(SIGNS.map fun x=>Value.string (T x)).toArray
def ErrIs (w:World) (g:Nat):Prop:=∃ev,w.cell? ⟨g,0,none⟩=some ev/\(ev = .nilIface\/∃te pe,ev = .iface te pe)
def Lx (w:World):Prop:=
 Lib.Utf8Tabs (Tryz.lays197_ren.g 3) (Tryz.lays197_ren.g 4) w/\Lib.TabIs Tryz.prog w "internal/strconv.uint64pow10" .u64 Lib.pow10Tab/\
 (∃m,w.cell? ⟨3,0,none⟩=some (.int .i64 m))/\ErrIs w 5/\ErrIs w 6/\
 ∃t z,w.heap[0]? = some (.cells sgV t z)
theorem ErrIs.below {w w':World} {g:Nat} (h:ErrIs w g) (hb:Below w.heap.size w w'):ErrIs w' g:=by
 obtain⟨ev,h1,h2⟩:=h;exact⟨ev,fD h1 hb,h2⟩
theorem Lx.below {w w':World} (h:Lx w) (hb:Below w.heap.size w w'):Lx w':=by
 obtain⟨h1,h2,⟨m,h3⟩,h4,h5,t,z,h6⟩:=h;exact⟨Utf8Tabs_below h1 hb,dJ (g:=8) (by kernel_rfl) h2 hb,⟨m,fD h3 hb⟩,h4.below hb,h5.below hb,t,z,zC h6 hb⟩
def tv (t:Tok) (a:Int):Value:=.agg #[.int .i64 t.k,.string (T t.x),.int .i64 t.n,.int .i64 a]
def tv0:Value:=.agg #[.int .i64 0,.string ⟨#[]⟩,.int .i64 0,.int .i64 0]
def vC (l:List Nat) (r:Option (Tok×Nat)) (W:World) (e:Ending) (w':World):Prop:=
 e = .returned (.tuple #[(match r with | none=>tv0 | some (t,_)=>tv t 0),.int .i64 ((match r with | none=>0 | some (_,n)=>sz (l.take n)):Nat)])/\Below W.heap.size W w'
theorem aW {l:List Nat} {r:Option (Tok×Nat)} {W w':World} (h:r=none) (hb:Below W.heap.size W w'):vC l r W (.returned (.tuple #[.agg #[.int .i64 0,.string ⟨#[]⟩,.int .i64 0,.int .i64 0],.int .i64 0])) w':=by
 subst h;exact⟨rfl,hb⟩
theorem aX {l:List Nat} {r:Option (Tok×Nat)} {W w':World} {k m z:Int} {x:List Nat} {s:ByteArray} {n:Nat} (h:r=some (⟨k,x,m⟩,n)) (hs:s=T x) (hz:z=(sz (l.take n):Nat)) (hb:Below W.heap.size W w') :
  vC l r W (.returned (.tuple #[.agg #[.int .i64 k,.string s,.int .i64 m,.int .i64 0],.int .i64 z])) w':=by
 subst h;subst hs;subst hz;exact⟨rfl,hb⟩
def sg (k:Nat):List Nat:=SIGNS.getD k []
theorem zMr:∀k:Nat,k<17->∀w:World,(Instr.index 139 (.agg sgV) (.int .i64 (k:Int))).run Tryz.prog w = .ok (.string (T (sg k))) w
 | 0,_,_=>by kernel_rfl
 | 1,_,_=>by kernel_rfl
 | 2,_,_=>by kernel_rfl
 | 3,_,_=>by kernel_rfl
 | 4,_,_=>by kernel_rfl
 | 5,_,_=>by kernel_rfl
 | 6,_,_=>by kernel_rfl
 | 7,_,_=>by kernel_rfl
 | 8,_,_=>by kernel_rfl
 | 9,_,_=>by kernel_rfl
 | 10,_,_=>by kernel_rfl
 | 11,_,_=>by kernel_rfl
 | 12,_,_=>by kernel_rfl
 | 13,_,_=>by kernel_rfl
 | 14,_,_=>by kernel_rfl
 | 15,_,_=>by kernel_rfl
 | 16,_,_=>by kernel_rfl
 | k+17,h,_=>absurd h (by omega)
theorem oB (k:Nat):∀x∈sg k,x<128:=by
 unfold sg
 by_cases h:k<17
 ·have h':k=0\/k=1\/k=2\/k=3\/k=4\/k=5\/k=6\/k=7\/k=8\/k=9\/k=10\/k=11\/k=12\/k=13\/k=14\/k=15\/k=16:=by omega
  rcases h' with rfl | rfl | rfl | rfl | rfl | rfl | rfl | rfl | rfl | rfl | rfl | rfl | rfl | rfl | rfl | rfl | rfl
  all_goals decide
 ·rw[List.getD_eq_getElem?_getD,List.getElem?_eq_none (by rw[show SIGNS.length=17 from rfl];omega)]
  intro x hx
  cases hx
def noSg (l:List Nat) (k:Nat):Prop:=∀j,j<k->(sg j).isPrefixOf l=false
theorem zPl {α:Type} {f:α->Bool}:∀{l:List α} {k:Nat} {x:α},l[k]? = some x->(∀j y,j<k->l[j]? = some y->f y=false)->f x=true->l.find? f=some x:=by
 intro l
 induction l with
 | nil=>intro k x h;cases h
 | cons a t ih=>
  intro k x h hn hf
  cases k with
  | zero=>simp at h;subst h;rw[List.find?_cons_of_pos hf]
  | succ k=>
   rw[List.find?_cons_of_neg (by rw[hn 0 a (by omega) rfl];simp)];exact ih (by simpa using h) (fun j y hj hy=>hn (j+1) y (by omega) (by simpa using hy)) hf
theorem zZg (k:Nat) (h:k<17):SIGNS[k]? = some (sg k):=by
 unfold sg;rw[List.getD_eq_getElem?_getD,List.getElem?_eq_getElem (show k<SIGNS.length from h)]
 rfl
theorem zT9 {l:List Nat} {k:Nat} (h:noSg l k) (hk:k<17) (hp:(sg k).isPrefixOf l=true):signT l=some (⟨3,sg k,0⟩,(sg k).length):=by
 unfold signT;rw[zPl (zZg k hk) (fun j y hj hy=>by rw[zZg j (by omega)] at hy;injection hy with hy;rw[<- hy];exact h j hj) hp]
 rfl
theorem zV1 {l:List Nat} (h:noSg l 17):signT l=none:=by
 unfold signT;rw[List.find?_eq_none.2 ?_]
 ·rfl
 ·intro x hx
  obtain⟨k,hk,rfl⟩:=List.getElem_of_mem hx;have h1:=zZg k hk;rw[List.getElem?_eq_getElem hk] at h1;injection h1 with h1;rw[h1,h k hk]
  simp
theorem zTa {x l:List Nat} (h:x.isPrefixOf l=true):l.take x.length=x:=(List.prefix_iff_eq_take.1 (List.isPrefixOf_iff_prefix.1 h)).symm
theorem zTb (l:List Nat) (ho:okl l) (w:World) (hL:Lx w) :
  Calls Tryz.prog 98 #[.string (T l)] w (vC l (signT l) w):=by
 obtain⟨t,z,hsg⟩:=hL.2.2.2.2.2;obtain⟨S,hS⟩:∃S,T l=S:=⟨_,rfl⟩;have HS:=Lib.hid hS;rw[hS];clear hS
 go_enter Tryz.func98,Tryz.ntmps98
 go_wp2_with (refine wpList_load_row rfl 139 (.global 0) rfl 0 rfl t sgV z _ (Below.heap_alloc w _ _ (qC hsg)▸hsg) Tryz.underlying139 rfl (by kernel_rfl) ?_)
 generalize hA:sgV=AR
 have HAR:=Lib.hid hA;clear hA hsg
 go_loop [5,7] (fun _ i=>∃k:Nat,k<=17/\i = .int .i64 k/\noSg l k) (fun _ i=>17-(intOf i).toNat)
 case atStart=>exact⟨0,Nat.zero_le _,rfl,fun j hj=>absurd hj (Nat.not_lt_zero _)⟩
 case round=>
  obtain⟨k,hk,rfl,hno⟩:=hrel;have HNO:=Lib.hid hno;clear hno
  by_cases hlt:k<17
  ·obtain⟨b,hb⟩:∃b,(sg k).isPrefixOf l=b:=⟨_,rfl⟩
   have hp:Lib.hasPrefix S.data.toList (T (sg k)).data.toList=b:=by
    rw[<- HS.out,yL,yL,xM (oB k),zXe (oB k) ho,hb]
   have hszT:((T (sg k)).size:Int)=(sz (l.take (sg k).length):Nat)\/b=false:=by
    cases b with
    | false=>exact .inr rfl
    | true=>exact .inl (by rw[qO,zTa hb])
   have cH:=fun W=>aV hp W
   have hix:∀W,(Instr.index 139 (.agg AR) (.int .i64 (k:Int))).run Tryz.prog W = .ok (.string (T (sg k))) W:=fun W=>by rw[<- HAR.out];exact zMr k hlt W
   obtain⟨X,hX⟩:∃X,T (sg k)=X:=⟨_,rfl⟩;rw[hX] at hszT hix cH;have HX:=Lib.hid hX;have HB:=Lib.hid hb;have HSZ:=Lib.hid hszT;clear hX hb hp hszT
   cases b
   ·go_wp2_with (go_at_call 97;refine(cH _).mono ?_;rintro e w' ⟨rfl,rfl⟩)
    go_round
    case rel=>exact⟨k+1,by omega,by go_num,fun j hj=>by
     rcases Nat.lt_or_ge j k with h | h
     ·exact HNO.out j h
     ·rw[show j=k by omega];exact HB.out⟩
    case measure=>simp[intOf];omega
   ·go_wp2_with (go_at_call 97;refine(cH _).mono ?_;rintro e w' ⟨rfl,rfl⟩)
    refine bodyPost_ret (v:=.tuple #[.agg #[.int .i64 3,.string X,.int .i64 0,.int .i64 0],.int .i64 (X.size:Int)]) (by simp[results,Tryz.results98,go_sem]) rfl ?_;refine aX (zT9 HNO.out hlt HB.out) HX.out.symm (HSZ.out.resolve_right (by simp)) ?_;exact(Below.refl _ _).alloc (Nat.le_refl _) _
  ·have hk17:k=17:=by omega
   subst hk17
   go_wp2
   refine bodyPost_ret (v:=.tuple #[.agg #[.int .i64 0,.string ⟨#[]⟩,.int .i64 0,.int .i64 0],.int .i64 0]) (by simp[results,Tryz.results98,go_sem]) rfl ?_;refine aW (zV1 HNO.out) ?_;exact(Below.refl _ _).alloc (Nat.le_refl _) _
def Nx (w:World):Prop:=Lib.TabIs Tryz.prog w "internal/strconv.uint64pow10" .u64 Lib.pow10Tab/\∃m,w.cell? ⟨3,0,none⟩=some (.int .i64 m)
theorem Nx.below {w w':World} (h:Nx w) (hb:Below w.heap.size w w'):Nx w':=by
 obtain⟨h1,m,h2⟩:=h;exact⟨dJ (g:=8) (by kernel_rfl) h1 hb,m,fD h2 hb⟩
end Go.Proofs.YtgeghilbikljcaaGreatDoor.B
namespace Go.Proofs.YtgeghilbikljcaaGreatDoor.B
open Go.Lib
theorem xN (u:Nat):∀b∈decDigits u,48<=b.toNat/\b.toNat<=57:=by
 induction u using Nat.strongRecOn with
 | _ u ih=>
  intro b hb;rw[decDigits] at hb
  split at hb
  ·simp only[List.mem_singleton] at hb
   rw[hb,u8n _ (by omega)];omega
  ·rw[List.mem_append] at hb
   rcases hb with hb | hb
   ·exact ih (u / 10) (by omega) b hb
   ·simp only[List.mem_singleton] at hb
    rw[hb,u8n _ (by omega)];omega
theorem xO (u:Nat):∀r∈dgs u,48<=r/\r<=57:=by
 intro r hr;obtain⟨b,hb,rfl⟩:=List.mem_map.1 hr;exact xN u b hb
theorem zTc (l:List UInt8):u8 (l.map UInt8.toNat)=l:=by
 unfold u8;rw[List.map_map]
 conv=>rhs;rw[<- List.map_id l]
 refine List.map_congr_left fun b _=>?_
 simp
theorem zXk (u:Nat):enc (dgs u)=decDigits u:=by
 rw[xM (fun r hr=>by have:=xO u r hr;omega)];exact zTc _
theorem tC (n:Int):∀r∈numb n,r<128:=by
 intro r hr;unfold numb at hr
 split at hr
 ·rcases List.mem_cons.1 hr with rfl | hr
  ·omega
  ·have:=xO _ r hr;omega
 ·have:=xO _ r hr;omega
theorem zTd (n:Int):enc (numb n)=if n<0 then 126::decDigits n.natAbs else decDigits n.toNat:=by
 unfold numb
 split
 ·show en 126++enc (dgs _)=_
  rw[zXk]
  rfl
 ·exact zXk _
theorem no45 {d:List UInt8} (h:∀b∈d,48<=b.toNat/\b.toNat<=57):index d [45] = -1:=by
 rw[index_one]
 induction d with
 | nil=>rfl
 | cons b t ih=>
  have hb:=h b (by simp);have hne:(b==45)=false:=by
   rw[beq_eq_false_iff_ne];rintro rfl;exact absurd hb (by decide)
  unfold indexByte;rw[hne,ih (fun x hx=>h x (by simp[hx]))]
  rfl
theorem aY {d:List UInt8} (h:∀b∈d,48<=b.toNat/\b.toNat<=57):count d [45]=0:=count_miss (no45 h)
theorem zXl (d:List UInt8):index (45::d) [45]=0:=by
 unfold index
 simp
theorem oC {d:List UInt8} (h:∀b∈d,48<=b.toNat/\b.toNat<=57):count (45::d) [45]=1:=by
 rw[count_hit (i:=0) (by simp) (zXl d)]
 show 1+count d [45]=1
 rw[aY h]
theorem zPm {d:List UInt8} (h:∀b∈d,48<=b.toNat/\b.toNat<=57):replace d [45] [126] 1=d:=by
 have e:replaceNum d [45] 1=0:=by
  unfold replaceNum;rw[aY h]
  rfl
 unfold replace;rw[e]
 rfl
theorem zPn {d:List UInt8} (h:∀b∈d,48<=b.toNat/\b.toNat<=57):replace (45::d) [45] [126] 1=126::d:=by
 have e:replaceNum (45::d) [45] 1=1:=by
  unfold replaceNum;rw[oC h]
  rfl
 unfold replace;rw[e,if_neg (by decide),replaceK_hit _ _ _ _ 0 (zXl d)]
 rfl
theorem zTe (n:Int):replace (itoa n) [45] [126] 1=enc (numb n):=by
 rw[zTd];unfold itoa
 split
 ·exact zPn (xN _)
 ·exact zPm (xN _)
theorem zZh (n:Int):count (itoa n) [45]<=1:=by
 unfold itoa
 split
 ·rw[oC (xN _)];exact Nat.le_refl _
 ·rw[aY (xN _)];omega
def digs (d:List Nat):Prop:=∀r∈d,48<=r/\r<=57
theorem zMs (r:Nat):dig r=true↔48<=r/\r<=57:=by
 unfold dig;rw[decide_eq_true_iff];unfold cls
 repeat' split
 all_goals omega
theorem oD {f:Nat->Bool} (l:List Nat):∀r∈l.take (cnt f l),f r=true:=by
 induction l with
 | nil=>intro r h;simp at h
 | cons x t ih=>
  intro r h;unfold cnt at h
  split at h
  ·rename_i hx
   rw[List.take_succ_cons] at h
   rcases List.mem_cons.1 h with rfl | h
   ·exact hx
   ·exact ih r h
  ·simp at h
theorem dL (l:List Nat):digs (l.take (cnt dig l)):=fun r hr=>(zMs r).1 (oD l r hr)
theorem fE {d:List Nat} (h:digs d):∀r∈d,r<128:=fun r hr=>by have:=h r hr;omega
theorem zTf:∀(d:List Nat) (a:Nat),a<=val a d
 | [],a=>Nat.le_refl _
 | r::t,a=>by
  have:=zTf t (10*a+(r-48))
  show a<=val (10*a+(r-48)) t
  omega
theorem dM:∀(d:List Nat) (a:Nat),digs d->a<18446744073709551616->parseUint10 a (u8 d)=if val a d<18446744073709551616 then .ok (val a d) else .range
 | [],a,_,h=>by
  show _=if a<_ then NumEnd.ok a else _
  rw[if_pos h]
  rfl
 | r::t,a,hd,h=>by
  have hr:=hd r (by simp);have ht:digs t:=fun x hx=>hd x (by simp[hx])
  have hge:=zTf t (10*a+(r-48))
  show parseUint10 a (UInt8.ofNat r::u8 t)=if val (10*a+(r-48)) t<_ then _ else _
  unfold parseUint10;rw[u8n r (by omega),if_pos ⟨hr.1,hr.2⟩]
  by_cases h1:1844674407370955162<=a
  ·rw[if_pos h1,if_neg (by omega)]
  ·rw[if_neg h1]
   by_cases h2:18446744073709551616<=a*10+(r-48)
   ·rw[if_pos h2,if_neg (by omega)]
   ·rw[if_neg h2,Nat.mul_comm a 10]
    exact dM t _ ht (by omega)
theorem dN {d:List Nat} (h:digs d) (hne:d≠[]):atoiAll (enc d)=if val 0 d<9223372036854775808 then .ok (val 0 d:Int) else .range:=by
 rw[xM (fE h)]
 cases d with
 | nil=>exact absurd rfl hne
 | cons r t=>
  have hr:=h r (by simp)
  show atoiAll (UInt8.ofNat r::u8 t)=_
  unfold atoiAll;simp only;rw[u8n r (by omega),if_neg (by omega)];have e:parseMag (UInt8.ofNat r::u8 t)=if val 0 (r::t)<18446744073709551616 then .ok (val 0 (r::t)) else .range:=by
   unfold parseMag;rw[if_neg (by simp)];exact dM (r::t) 0 h (by omega)
  rw[e]
  by_cases h1:val 0 (r::t)<18446744073709551616
  ·rw[if_pos h1]
   simp only
   by_cases h2:val 0 (r::t)<9223372036854775808
   ·rw[if_neg (by omega),if_neg (by omega),if_neg (by omega),if_pos h2]
   ·rw[if_pos ⟨by omega,by omega⟩,if_neg h2]
  ·rw[if_neg h1,if_neg (by omega)]
theorem zPo (d:List Nat):trimPrefix (enc (126::d)) [126]=enc d:=by
 unfold trimPrefix;have e:enc (126::d)=126::enc d:=by
  show en 126++enc d=_
  rw[(yH (r:=126) (by omega)).2]
  rfl
 rw[e,if_pos (by simp[hasPrefix])]
 rfl
theorem zPp {l:List Nat} (ho:okl l) (h:∀d,l≠126::d):trimPrefix (enc l) [126]=enc l:=by
 unfold trimPrefix;have e:hasPrefix (enc l) [126]=List.isPrefixOf [126] l:=zXe (p:=[126]) (by decide) ho;rw[e,if_neg];intro hp;obtain⟨d,hd⟩:=List.isPrefixOf_iff_prefix.1 hp;exact h d (by rw[<- hd];rfl)
end Go.Proofs.YtgeghilbikljcaaGreatDoor.B
namespace Go.Proofs.YtgeghilbikljcaaGreatDoor.B
open Go.RowKit
def aZ (s:ByteArray) (W:World) (e:Ending) (w':World):Prop:=e = .returned (.string s)/\Below W.heap.size W w'
theorem zTg (n:Int) (h0 : -9223372036854775808<=n) (h1:n<=9223372036854775807) (w:World) (hL:Lx w) :
  Calls Tryz.prog 170 #[.int .i64 n] w (aZ ⟨(Lib.itoa n).toArray⟩ w):=
 (Tryz.strconv_Itoa n h0 h1 w hL.2.1).mono fun _ _ ⟨he,k,os,hw⟩=>⟨he,by rw[hw];exact Lib.below_grow _ _ (Nat.le_refl _) k os⟩
theorem zMt {l:List UInt8} {r:List Nat} (h:l=enc r):(⟨l.toArray⟩:ByteArray)=T r:=by rw[h];rfl
theorem oE (n:Int) (h0 : -9223372036854775808<=n) (h1:n<=9223372036854775807) (w:World) (hL:Lx w) :
  Calls Tryz.prog 169 #[.string ⟨(Lib.itoa n).toArray⟩,.string ⟨#[45]⟩,.string ⟨#[126]⟩,.int .i64 1] w (aZ (T (numb n)) w):=by
 obtain⟨m,hm⟩:=hL.2.2.1;have hl:=Lib.itoa_length_le n h0 h1;have hc:=zZh n;have hsz:(ByteArray.mk (Lib.itoa n).toArray).size=(Lib.itoa n).length:=by rw[Lib.size_eq]
 have hc':Lib.countB ⟨(Lib.itoa n).toArray⟩ ⟨#[45]⟩<=1:=hc;refine(Tryz.strings_Replace ⟨(Lib.itoa n).toArray⟩ ⟨#[45]⟩ ⟨#[126]⟩ 1 m w (by rw[hsz];omega) hm (by decide) ?_).mono fun _ _ ⟨he,hb⟩=>⟨?_,hb⟩
 ·rw[hsz,show(ByteArray.mk #[126]).size=1 from rfl]
  omega
 ·rw[he]
  exact congrArg (fun x=>Ending.returned (.string x)) (zMt (zTe n))
theorem tD (n:Int) (h0 : -9223372036854775808<=n) (h1:n<=9223372036854775807) (w:World) (hL:Lx w) :
  Calls Tryz.prog 140 #[.int .i64 n] w (aZ (T (numb n)) w):=by
 have c1:=zTg n h0 h1 w hL;have c2:=fun W (hL:Lx W)=>oE n h0 h1 W hL
 obtain⟨X,hX⟩:∃X,X=T (numb n):=⟨_,rfl⟩;obtain⟨Y,hY⟩:∃Y:ByteArray,Y=⟨(Lib.itoa n).toArray⟩:=⟨_,rfl⟩;rw[<- hX] at c2 ⊢;rw[<- hY] at c1 c2;have C2:=Lib.hid c2;clear hX hY c2
 go_enter Tryz.func140,Tryz.ntmps140
 go_wp2_with fail;refine c1.mono ?_;rintro e w1 ⟨rfl,hb1⟩;go_wp2_with fail;refine(C2.out w1 (hL.below hb1)).mono ?_;rintro e w2 ⟨rfl,hb2⟩;have hfin:=chn hb1 hb2
 go_wp2
 go_ret
 exact⟨rfl,hfin⟩
theorem zPq {d:List Nat} (h:digs d) (hne:d≠[]) (hv:val 0 d<9223372036854775808) (hsz:sz d<=1000000000) (w:World) :
  Calls Tryz.prog 139 #[.string (T d)] w fun e w'=>e = .returned (.tuple #[.int .i64 (val 0 d:Nat),.nilIface])/\Below w.heap.size w w':=by
 refine(Tryz.strconv_Atoi_ok (T d) (by rw[qO];omega) (val 0 d:Nat) (by rw[yL,dN h hne,if_pos hv]) w).mono fun _ _ ⟨he,hw⟩=>⟨he,?_⟩
 rcases hw with hw | ⟨t,hw⟩
 ·rw[hw];exact Below.refl _ _
 ·rw[hw];exact Lib.bytesWorld_below _ _ _
def zMu (W:World) (e:Ending) (w':World):Prop:=∃(z:Int) (t:TypeId) (p:Value),e = .returned (.tuple #[.int .i64 z,.iface t p])/\Below W.heap.size W w'
theorem zPr {d:List Nat} (h:digs d) (hv:d=[]\/¬val 0 d<9223372036854775808) (hsz:sz d<=1000000000) (w:World) (hL:Lx w) :
  Calls Tryz.prog 139 #[.string (T d)] w (zMu w):=by
 by_cases hd:d=[]
 ·subst hd
  obtain⟨ev,h1,h2⟩:=hL.2.2.2.1;exact(Tryz.strconv_Atoi_err (T []) (by decide) rfl ev w h1 h2).mono fun _ _ ⟨N,he,_,_,hb⟩=>⟨_,_,_,he,hb⟩
 ·obtain⟨ev,h1,h2⟩:=hL.2.2.2.2.1
  refine(Tryz.strconv_Atoi_range (T d) (by rw[qO];omega) (by rw[yL,dN h hd,if_neg (hv.resolve_left hd)]) ev w h1 h2).mono fun _ _ ⟨N,he,_,_,hb⟩=>⟨_,_,_,he,hb⟩
end Go.Proofs.YtgeghilbikljcaaGreatDoor.B
