/-
  Words for the walks of layers 1 and 2: small lemmas; what Check and Name leave.
-/
import Derived.Test.YtbpijnalmakfaaaGreatDoorGw01
import Derived.BigQuiet
import Derived.Deep.AppendLies
import Derived.Deep.DeepMust
import Derived.Deep.QuietTactic
import Derived.Lib.Hide
import Derived.Lib.ItoaNum
import Derived.Lib.OthersKept
import Derived.Outline
import Derived.OwnWalk
import Derived.Test.YtbpijnalmakfaaaGreatDoorRows
import Derived.WalkKit
import Derived.WalkLawsBesides
import Derived.WalkSmall
import Derived.WalkSpells
set_option maxHeartbeats 40000000
set_option maxRecDepth 100000
namespace Go.Proofs.YtbpijnalmakfaaaGreatDoor.B
open Go.RowKit
theorem vO (a:Addr) (n:Nat):(a.add n).block=a.block:=by unfold Addr.add;split<;>rfl
theorem chn {w w1 w2:World} (h:Below w.heap.size w w1) (h':Below w1.heap.size w1 w2):Below w.heap.size w w2:=h.trans (h'.mono h.size)
theorem zV {a b:Int} (h:a=b):Value.int .i64 a = .int .i64 b:=by rw[h]
theorem aH {a b:Int} (h:a=b):Ending.returned (.int .i64 b) = .returned (.int .i64 a):=by rw[h]
theorem kN {a b:Bool} (h:a=b):Ending.returned (.bool b) = .returned (.bool a):=by rw[h]
theorem qD {B:Nat} {a w:World} (h:Below B a w) (n:Nat):Below B a (w.drewN n):=h.trans ⟨rfl,rfl,rfl,Nat.le_refl _,fun _ _=>rfl⟩
def mS (s:ByteArray) (w:World) (e:Ending) (w':World):Prop:=
 e = .returned (.tuple #[.int .i64 (if 16384<s.size then (0,3) else ck s 0).1,.int .i64 (if 16384<s.size then ((0:Int),(3:Int)) else ck s 0).2])∧Below w.heap.size w w'
theorem zP4 {s:ByteArray} {w w':World} (h:16384<s.size) (hb:Below w.heap.size w w'):mS s w (.returned (.tuple #[.int .i64 0,.int .i64 3])) w':=by
 unfold mS;exact⟨by simp only[if_pos h],hb⟩
theorem eZ {s:ByteArray} {w w':World} {a b:Int} (h:¬16384<s.size) (hc:ck s 0=(a,b)) (hb:Below w.heap.size w w'):mS s w (.returned (.tuple #[.int .i64 a,.int .i64 b])) w':=by
 unfold mS;exact⟨by simp only[if_neg h,hc],hb⟩
def fJ (b:Bool) (W:World) (e:Ending) (w':World):Prop:=e = .returned (.bool b)∧Below W.heap.size W w'
theorem iC {r c:Int} {f:Bool} (hc:cls r=c) (h:c=1∨((c=2∨r=39)∧f=false)):mst r f=true:=by
 unfold mst;rw[hc]
 rcases h with h | ⟨h,hf⟩
 ·simp[h]
 ·simp[h,hf]
theorem rN {r c:Int} {f:Bool} (hc:cls r=c) (h:c≠1∧(f=true∨(c≠2∧r≠39))):mst r f=false:=by
 unfold mst;rw[hc];obtain⟨h1,h2⟩:=h
 rcases h2 with hf | ⟨h2,h3⟩
 ·simp[h1,hf]
 ·simp[h1,h2,h3]
theorem wD (r:Int) (w:World):Calls Tryz.prog 91 #[.int .i32 r] w fun e w'=>e = .returned (.int .i64 (cls r))∧w=w':=by
 obtain⟨c,hc⟩:∃c,cls r=c:=⟨_,rfl⟩;obtain⟨b,hb⟩:∃b,Lib.validRune r=b:=⟨_,rfl⟩;have hb':b=true↔((0≤r∧r<55296)∨(57343<r∧r≤1114111)):=by rw[←hb];simp[Lib.validRune]
 have cV:∀W,Calls Tryz.prog 148 #[.int .i32 r] W _:=fun W=>Tryz.utf8_ValidRune r W
 rw[hb] at cV;rw[hc];have HC:=Lib.hid hc;have HB:=Lib.hid hb';clear hc hb hb'
 cases b
 all_goals
  go_enter Tryz.func91,Tryz.ntmps91
  go_wp2_with (go_at_call 148;refine(cV _).mono ?_;rintro e w' ⟨rfl,rfl⟩)
  all_goals go_ret
  all_goals
   refine⟨aH (HC.out.symm.trans (zJi r _ ?_)),rfl⟩;have hB:=HB.out;simp only[beq_iff_eq,beq_eq_false_iff_ne,ne_eq,and_true,Bool.false_eq_true,false_iff,true_iff] at *;omega
theorem zX9 (r:Int) (w:World):Calls Tryz.prog 88 #[.int .i32 r] w fun e w'=>e = .returned (.bool (rdb r))∧w=w':=by
 obtain⟨c,hc⟩:∃c,rdb r=c:=⟨_,rfl⟩;have cC:∀W,Calls Tryz.prog 91 #[.int .i32 r] W _:=fun W=>wD r W
 have h3:=zM6 r;obtain⟨k,hk⟩:∃k,cls r=k:=⟨_,rfl⟩;rw[hk] at cC h3;rw[hc];have HC:=Lib.hid hc;have H3:=Lib.hid h3;clear hc hk h3
 go_enter Tryz.func88,Tryz.ntmps88
 go_wp2_with (go_at_call 91;refine(cC _).mono ?_;rintro e w' ⟨rfl,rfl⟩)
 all_goals go_ret
 all_goals
  refine⟨kN (HC.out.symm.trans (zX3 r _ ?_)),rfl⟩;have h3:=H3.out;simp only[beq_iff_eq,beq_eq_false_iff_ne,ne_eq,Bool.false_eq_true,false_iff,true_iff] at *;omega
theorem zM7 (s:ByteArray) (w:World) (hs:s.size≤1000000000) :
  Calls Tryz.prog 41 #[.string s] w (mS s w):=by
 by_cases hbig:16384<s.size
 ·have hz:(16384:Int)<(s.size:Int):=by omega
  go_enter Tryz.func41,Tryz.ntmps41
  go_wp2
  go_ret2
  exact zP4 hbig (Below.refl _ _)
 ·have hz:¬(16384:Int)<(s.size:Int):=by omega
  go_enter Tryz.func41,Tryz.ntmps41
  go_wp2
  go_loopw [] (fun wr=>∃p:Nat,wr.heap[w.heap.size]? = some (.stringIter s p)∧Below w.heap.size w wr∧ck s p=ck s 0) (fun wr=>s.size-wr.iterPos w.heap.size)
  case atStart=>exact⟨0,World.iter_heap w s 0,(Below.refl _ _).alloc (Nat.le_refl _) _,rfl⟩
  case round=>
   obtain⟨p,hit,hbw,hc⟩:=hrel;have HC:=Lib.hid hc;clear hc;have hpos0:=iterPos_of hit
   by_cases hlt:p<s.size
   ·have hnx:∀ty,(Instr.next (.pointer (some ⟨w.heap.size,0,none⟩)) true ty).run Tryz.prog wr=_:=fun ty=>Lib.run_next_any_at wr w.heap.size s p ty hit hlt
    have hw1:=kT s p;have hit2:=Lib.iterAt_heap wr w.heap.size s p (p+(dc s p).2) hit;have hbw2:=Lib.below_iterAt hbw (k:=w.heap.size) (Nat.le_refl _) s (p+(dc s p).2);have HS:=Lib.hid (aE (s:=s) hlt);have HN:=Lib.hid (aF (s:=s) hlt);obtain⟨r,k,hrk⟩:∃r k,dc s p=(r,k):=⟨_,_,rfl⟩;rw[show Utf8.decode s p=(r,k) from hrk] at hnx;rw[hrk] at hw1 hit2 hbw2 HS HN
    dsimp only at hw1 hit2 hbw2 HS HN hnx
    clear hrk;obtain⟨W1,hW1⟩:∃W1,W1=wr.iterAt w.heap.size s (p+k):=⟨_,rfl⟩;rw[←hW1] at hnx hit2 hbw2;have hpos2:=iterPos_of hit2;have HP0:=Lib.hid hpos0;have HP2:=Lib.hid hpos2;clear hW1 hpos0 hpos2 hit hbw;have cR:∀W,Calls Tryz.prog 88 #[.int .i32 r] W _:=fun W=>zX9 r W
    obtain⟨b,hb⟩:∃b,rdb r=b:=⟨_,rfl⟩;rw[hb] at cR;have HB:=Lib.hid hb;clear hb
    cases b
    ·go_wp2_with (go_at_call 88;refine(cR _).mono ?_;rintro e w' ⟨rfl,rfl⟩)
     go_ret2
     exact eZ hbig (by rw[←HC.out];exact HS.out HB.out) hbw2
    ·go_wp2_with (go_at_call 88;refine(cR _).mono ?_;rintro e w' ⟨rfl,rfl⟩)
     go_roundw
     case rel=>exact⟨p+k,hit2,hbw2,by rw[←HN.out HB.out];exact HC.out⟩
     case measure=>rw[HP0.out,HP2.out];omega
   ·have hnx:∀ty,(Instr.next (.pointer (some ⟨w.heap.size,0,none⟩)) true ty).run Tryz.prog wr=_:=fun ty=>Lib.run_next_end_at wr w.heap.size s p ty hit hlt
    have HE:=Lib.hid (zX5 hlt);clear hpos0
    go_wp2
    go_ret2
    exact eZ hbig (by rw[←HC.out];exact HE.out) hbw
theorem zXa (r:Int) (b:Bool) (w:World) :
  Calls Tryz.prog 208 #[.int .i32 r,.bool b] w fun e w'=>e = .returned (.bool (mst r b))∧w=w':=by
 have cC:∀W,Calls Tryz.prog 91 #[.int .i32 r] W _:=fun W=>wD r W
 obtain⟨k,hk⟩:∃k,cls r=k:=⟨_,rfl⟩;rw[hk] at cC;have HT:Hid (∀f,(k=1∨((k=2∨r=39)∧f=false))→mst r f=true):=Lib.hid fun f h=>iC hk h
 have HF:Hid (∀f,(k≠1∧(f=true∨(k≠2∧r≠39)))→mst r f=false):=Lib.hid fun f h=>rN hk h
 clear hk;obtain⟨c,hc⟩:∃c,mst r b=c:=⟨_,rfl⟩;rw[hc];have HC:=Lib.hid hc;clear hc
 cases b
 all_goals
  go_enter Tryz.func208,Tryz.ntmps208
  go_wp2_with (go_at_call 91;refine(cC _).mono ?_;rintro e w' ⟨rfl,rfl⟩)
  all_goals go_ret
  all_goals
   refine⟨kN (HC.out.symm.trans ?_),rfl⟩
   first
    | exact HT.out _ (by simp only[beq_iff_eq,beq_eq_false_iff_ne,ne_eq,and_true] at *;omega)
    | exact HF.out _ (by simp only[beq_iff_eq,beq_eq_false_iff_ne,ne_eq,true_or,and_true] at *;omega)
    | trace_state
theorem zVd (s:ByteArray) (w:World) (hs:s.size≤1000000000) :
  Calls Tryz.prog 185 #[.string s] w (fJ (nm s) w):=by
 obtain⟨ANS,hans⟩:∃b,nm s=b:=⟨_,rfl⟩;rw[hans]
 by_cases hsz:1≤s.size∧s.size≤32
 ·have HA:=Lib.hid (hans.symm.trans (nm_of hsz))
  clear hans;obtain⟨h1,h2⟩:=hsz;have hz2:¬(32:Int)<(s.size:Int):=by omega
  have hne:¬s.toList=[]:=by
   intro e;have h3:=Lib.size_eq s;rw[←Lib.toList_data,e] at h3;have h4:([]:List UInt8).length=0:=rfl;omega
  have hne2:s.toList.isEmpty=false:=by cases h:s.toList with
   | nil=>exact absurd h hne
   | cons a t=>rfl
  go_enter Tryz.func185,Tryz.ntmps185
  go_wp2
  have hit0:(w.iter s 0).heap[w.heap.size]? = some (.stringIter s 0):=World.iter_heap w s 0;have hbi:Below w.heap.size w (w.iter s 0):=(Below.refl _ _).alloc (Nat.le_refl _) _
  generalize w.iter s 0=wq at hit0 hbi ⊢
  go_loopw [] (fun wr=>∃(p:Nat),wr.heap[w.heap.size]? = some (.stringIter s p)∧Below w.heap.size w wr∧p≤s.size∧nmF s p=nmF s 0) (fun wr=>s.size-wr.iterPos w.heap.size)
  case atStart=>exact⟨0,hit0,hbi,Nat.zero_le _,rfl⟩
  case round=>
   obtain⟨p,hit,hbw,hp,hct⟩:=hrel;have HC:=Lib.hid hct;clear hct hit0 hbi;have hpos0:=iterPos_of hit
   by_cases hlt:p<s.size
   ·have hnx:∀ty,(Instr.next (.pointer (some ⟨w.heap.size,0,none⟩)) true ty).run Tryz.prog wr=_:=fun ty=>Lib.run_next_any_at wr w.heap.size s p ty hit hlt
    have hw1:=kT s p;have hw2:=eU s p hlt;have hit2:=Lib.iterAt_heap wr w.heap.size s p (p+(dc s p).2) hit;have hbw2:=Lib.below_iterAt hbw (k:=w.heap.size) (Nat.le_refl _) s (p+(dc s p).2);have HS:=Lib.hid (tF (s:=s) hlt);have HN:=Lib.hid (aG (s:=s) hlt);obtain⟨r,k,hrk⟩:∃r k,dc s p=(r,k):=⟨_,_,rfl⟩;rw[show Utf8.decode s p=(r,k) from hrk] at hnx;rw[hrk] at hw1 hw2 hit2 hbw2 HS HN
    dsimp only at hw1 hw2 hit2 hbw2 HS HN hnx
    clear hrk;obtain⟨W1,hW1⟩:∃W1,W1=wr.iterAt w.heap.size s (p+k):=⟨_,rfl⟩;rw[←hW1] at hnx hit2 hbw2;have hpos2:=iterPos_of hit2;have HP0:=Lib.hid hpos0;have HP2:=Lib.hid hpos2;have HIT:=Lib.hid hit2;clear hW1 hpos0 hpos2 hit hbw hit2;obtain⟨f0,hf0⟩:∃f0,decide (p=0)=f0:=⟨_,rfl⟩;rw[hf0] at HS HN;have hf:((p:Int)==0)=f0:=by
     rw[←hf0,Bool.eq_iff_iff,beq_iff_eq,decide_eq_true_eq];omega
    clear hf0;have cR:∀W,Calls Tryz.prog 208 #[.int .i32 r,.bool f0] W _:=fun W=>zXa r f0 W
    obtain⟨b,hb⟩:∃b,mst r f0=b:=⟨_,rfl⟩;rw[hb] at cR;have HB:=Lib.hid hb;clear hb
    cases b
    ·go_wp2_with (go_at_call 208;refine(cR _).mono ?_;rintro e w' ⟨rfl,rfl⟩)
     go_ret
     exact⟨kN (by rw[HA.out,←HC.out];exact HS.out HB.out),hbw2⟩
    ·go_wp2_with (go_at_call 208;refine(cR _).mono ?_;rintro e w' ⟨rfl,rfl⟩)
     go_roundw
     case rel=>exact⟨p+k,HIT.out,hbw2,hw2,by rw[←HN.out HB.out];exact HC.out⟩
     case measure=>rw[HP0.out,HP2.out];omega
   ·have hnx:∀ty,(Instr.next (.pointer (some ⟨w.heap.size,0,none⟩)) true ty).run Tryz.prog wr=_:=fun ty=>Lib.run_next_end_at wr w.heap.size s p ty hit hlt
    have HE:=Lib.hid (zSv hlt);clear hpos0
    go_wp2
    go_ret
    exact⟨kN (by rw[HA.out,←HC.out];exact HE.out),hbw⟩
 ·have HA:=Lib.hid (hans.symm.trans (zCb hsz))
  clear hans
  rcases(show s.size=0∨(1≤s.size∧32<s.size) by omega) with h0 | ⟨h1,h2⟩
  ·have hne:s.toList=[]:=by
    rw[Lib.toList_data];exact List.eq_nil_of_length_eq_zero (by rw[←Lib.size_eq];exact h0)
   have hne2:s.toList.isEmpty=true:=by rw[hne];rfl
   clear h0 hsz
   go_enter Tryz.func185,Tryz.ntmps185
   go_wp2
   go_ret
   exact⟨kN HA.out,Below.refl _ _⟩
  ·have hne:¬s.toList=[]:=by
    intro e;have h3:=Lib.size_eq s;rw[←Lib.toList_data,e] at h3;have h4:([]:List UInt8).length=0:=rfl;omega
   have hne2:s.toList.isEmpty=false:=by cases h:s.toList with
    | nil=>exact absurd h hne
    | cons a t=>rfl
   have hz2:(32:Int)<(s.size:Int):=by omega
   clear hsz
   go_enter Tryz.func185,Tryz.ntmps185
   go_wp2
   go_ret
   exact⟨kN HA.out,Below.refl _ _⟩
end Go.Proofs.YtbpijnalmakfaaaGreatDoor.B
namespace Go.Proofs.YtbpijnalmakfaaaGreatDoor.B
open Go.Lib
def ok (r:Nat):Prop:=r<55296∨(57343<r∧r≤1114111)
def okl (l:List Nat):Prop:=∀r∈l,ok r
def en (r:Nat):List UInt8:=encodeRune (r:Int)
def enc:List Nat→List UInt8
 | []=>[]
 | r::t=>en r++enc t
def T (l:List Nat):ByteArray:=⟨(enc l).toArray⟩
def wd (r:Nat):Nat:=(en r).length
def sz (l:List Nat):Nat:=(enc l).length
theorem zCd:okl []:=fun _ h=>by cases h
theorem kY {r:Nat} {t:List Nat}:okl (r::t)↔ok r∧okl t:=by
 unfold okl;simp
theorem vH {a b:List Nat}:okl (a++b)↔okl a∧okl b:=by
 unfold okl;simp only[List.mem_append];exact⟨fun h=>⟨fun r hr=>h r (.inl hr),fun r hr=>h r (.inr hr)⟩,fun h r hr=>hr.elim (h.1 r) (h.2 r)⟩
theorem zP5 {a b:List Nat} (h:okl b) (hs:∀r∈a,r∈b):okl a:=fun r hr=>h r (hs r hr)
theorem mT {l:List Nat} (h:okl l) (n:Nat):okl (l.drop n):=zP5 h fun _ hr=>List.mem_of_mem_drop hr
theorem vI (a b:List Nat):enc (a++b)=enc a++enc b:=by
 induction a with
 | nil=>rfl
 | cons r t ih=>simp only[List.cons_append,enc,ih,List.append_assoc]
theorem yX (l:List Nat):(T l).data.toList=enc l:=rfl
theorem qO (l:List Nat):(T l).size=sz l:=by rw[size_eq,yX];rfl
theorem sz_app (a b:List Nat):sz (a++b)=sz a+sz b:=by unfold sz;rw[vI,List.length_append]
theorem yY:sz []=0:=rfl
theorem zO (r:Nat) (t:List Nat):sz (r::t)=wd r+sz t:=by unfold sz wd;simp only[enc,List.length_append]
theorem mU (r:Nat):1≤wd r∧wd r≤4:=by
 have:=encodeRuneZ_length (r:Int);unfold wd en encodeRune;rw[List.length_map];exact this
theorem rO (l:List Nat):l.length≤sz l:=by
 induction l with
 | nil=>simp
 | cons r t ih=>
  have:=(mU r).1;rw[zO,List.length_cons];omega
theorem jK {s t:ByteArray} (h:s.data.toList=t.data.toList):s=t:=by
 apply ByteArray.ext
 exact Array.ext' h
theorem tG (a b:List Nat):(T (a++b)).extract (sz a) (sz (a++b))=T b:=by
 apply jK
 rw[extract_data,yX,yX,vI,sz_app];unfold sz;rw[List.drop_left,Nat.add_sub_cancel_left,List.take_length]
theorem zJm (a b:List Nat):(T (a++b)).extract 0 (sz a)=T a:=by
 apply jK
 rw[extract_data,yX,yX,vI];unfold sz;rw[List.drop_zero,Nat.sub_zero,List.take_left]
theorem kD {r:Nat} (h:r<128):wd r=1∧en r=[UInt8.ofNat r]:=by
 have e:en r=[UInt8.ofNat r]:=by
  unfold en encodeRune;rw[encodeRuneZ_one (by omega) (by omega)]
  rfl
 exact⟨by unfold wd;rw[e];rfl,e⟩
theorem u8n (n:Nat) (h:n<256):(UInt8.ofNat n).toNat=n:=by simp[UInt8.toNat_ofNat'];omega
theorem zJn {r:Nat} (h:ok r) :
  (r<128∧en r=[UInt8.ofNat r])∨(128≤r∧r<2048∧en r=[UInt8.ofNat (192+r / 64),UInt8.ofNat (128+r % 64)])∨
  (2048≤r∧r<65536∧en r=[UInt8.ofNat (224+r / 4096),UInt8.ofNat (128+r / 64 % 64),UInt8.ofNat (128+r % 64)])∨
  (65536≤r∧en r=[UInt8.ofNat (240+r / 262144),UInt8.ofNat (128+r / 4096 % 64),UInt8.ofNat (128+r / 64 % 64),UInt8.ofNat (128+r % 64)]):=by
 unfold ok at h;unfold en encodeRune
 by_cases h1:r<128
 ·rw[encodeRuneZ_one (by omega) (by omega)]
  exact .inl ⟨h1,rfl⟩
 by_cases h2:r<2048
 ·rw[encodeRuneZ_two (by omega) (by omega)]
  simp only[List.map_cons,List.map_nil];rw[byteZ _ (192+r / 64) (by omega),byteZ _ (128+r % 64) (by omega)];exact .inr (.inl ⟨by omega,h2,rfl⟩)
 by_cases h3:r<65536
 ·rw[encodeRuneZ_three (by omega)]
  simp only[List.map_cons,List.map_nil];rw[byteZ _ (224+r / 4096) (by omega),byteZ _ (128+r / 64 % 64) (by omega),byteZ _ (128+r % 64) (by omega)];exact .inr (.inr (.inl ⟨by omega,h3,rfl⟩))
 ·rw[encodeRuneZ_four (by omega) (by omega)]
  simp only[List.map_cons,List.map_nil];rw[byteZ _ (240+r / 262144) (by omega),byteZ _ (128+r / 4096 % 64) (by omega),byteZ _ (128+r / 64 % 64) (by omega),byteZ _ (128+r % 64) (by omega)];exact .inr (.inr (.inr ⟨by omega,rfl⟩))
theorem yYs {r:Nat} (h:ok r) (b:List Nat):dc (T (r::b)) 0=(r,wd r):=by
 have hz:(T (r::b)).size=wd r+sz b:=by rw[qO,zO]
 have hok:=h;unfold ok at hok;rw[eS];simp only[zX7,yX,enc,Nat.zero_add,Nat.sub_zero];rw[hz];unfold wd
 rcases zJn h with ⟨h1,e⟩ | ⟨h1,h2,e⟩ | ⟨h1,h2,e⟩ | ⟨h1,e⟩
 ·rw[e]
  simp only[List.cons_append,List.nil_append,List.getD_cons_zero,List.length_cons,List.length_nil];rw[u8n _ (by omega)];unfold decodeN;rw[if_pos h1]
 ·rw[e]
  simp only[List.cons_append,List.nil_append,List.getD_cons_zero,List.getD_cons_succ,List.length_cons,List.length_nil];rw[u8n _ (by omega),u8n _ (by omega)]
  generalize ((enc b).getD 0 0).toNat=x2
  generalize ((enc b).getD 1 0).toNat=x3
  unfold decodeN;rw[if_neg (by omega),if_pos ⟨by omega,by omega,by omega⟩,if_pos (by omega)];exact Prod.ext (by dsimp only;omega) rfl
 ·rw[e]
  simp only[List.cons_append,List.nil_append,List.getD_cons_zero,List.getD_cons_succ,List.length_cons,List.length_nil];rw[u8n _ (by omega),u8n _ (by omega),u8n _ (by omega)]
  generalize ((enc b).getD 0 0).toNat=x3
  unfold decodeN;rw[if_neg (by omega),if_neg (by omega),if_pos ⟨by omega,⟨by omega,by omega⟩,by omega,by omega⟩,if_pos ⟨by omega,by omega⟩];exact Prod.ext (by dsimp only;omega) rfl
 ·rw[e]
  simp only[List.cons_append,List.nil_append,List.getD_cons_zero,List.getD_cons_succ,List.length_cons,List.length_nil];rw[u8n _ (by omega),u8n _ (by omega),u8n _ (by omega),u8n _ (by omega)];unfold decodeN;rw[if_neg (by omega),if_neg (by omega),if_neg (by omega),if_pos ⟨by omega,⟨by omega,by omega⟩,⟨by omega,by omega⟩,by omega,by omega⟩,if_pos ⟨by omega,by omega⟩];exact Prod.ext (by dsimp only;omega) rfl
theorem zZ7 (a:List Nat) {r:Nat} (h:ok r) (b:List Nat):dc (T (a++r::b)) (sz a)=(r,wd r):=by
 have e:=yXf (T (a++r::b)) (sz a) 0;rw[Nat.add_zero,qO,tG,yYs h] at e;exact e.symm
theorem zP6 (s:ByteArray):∀p,vls s p=true→enc (rns s p)=s.data.toList.drop p∧okl (rns s p):=by
 refine along s _ ?_ ?_
 ·intro p h _
  rw[gQ (by omega),List.drop_eq_nil_of_le (by rw[←size_eq];omega)];exact⟨rfl,zCd⟩
 ·intro p h ih hv
  obtain⟨hb,hv'⟩:=zJh h hv;obtain⟨k1,k2⟩:=ih hv';rw[wL h];refine⟨?_,kY.2 ⟨zJk hb,k2⟩⟩
  show encodeRune ((dc s p).1:Int)++enc (rns s (p+(dc s p).2))=_
  rw[k1,yXe h hb];rw[←List.drop_drop];exact List.take_append_drop _ _
theorem zJo {s:ByteArray} (h:vls s 0=true):T (rns s 0)=s:=by
 apply jK
 rw[yX,(zP6 s 0 h).1,List.drop_zero]
theorem aI {s:ByteArray} (h:vls s 0=true):okl (rns s 0):=(zP6 s 0 h).2
def u8 (l:List Nat):List UInt8:=l.map UInt8.ofNat
theorem zCe {r:Nat} (h:ok r) (hr:128≤r):∃x t,en r=x::t∧128≤x.toNat:=by
 unfold ok at h
 rcases zJn h with ⟨h1,e⟩ | ⟨h1,h2,e⟩ | ⟨h1,h2,e⟩ | ⟨h1,e⟩
 ·omega
 all_goals exact⟨_,_,e,by rw[u8n _ (by omega)];omega⟩
theorem aD {α:Type} [BEq α] (a b:α) (s t:List α):(a::s).isPrefixOf (b::t)=(a==b&&s.isPrefixOf t):=rfl
theorem zP7 {p l:List Nat} (hp:∀x∈p,x<128) (h:okl l):hasPrefix (enc l) (u8 p)=p.isPrefixOf l:=by
 unfold hasPrefix
 induction p generalizing l with
 | nil=>cases l<;>simp[u8]
 | cons x p ih=>
  have hx:x<128:=hp x (by simp)
  cases l with
  | nil=>simp[u8,enc]
  | cons r t=>
   obtain⟨h1,h2⟩:=kY.1 h;have e1:u8 (x::p)=UInt8.ofNat x::u8 p:=rfl;rw[e1,aD]
   show List.isPrefixOf _ (en r++enc t)=_
   by_cases hr:r<128
   ·rw[(kD hr).2]
    show(UInt8.ofNat x==UInt8.ofNat r&&List.isPrefixOf (u8 p) (enc t))=_
    rw[ih (fun y hy=>hp y (by simp[hy])) h2]
    congr 1
    rw[Bool.eq_iff_iff,beq_iff_eq,beq_iff_eq]
    constructor
    ·intro e
     have:=congrArg UInt8.toNat e;rw[u8n _ (by omega),u8n _ (by omega)] at this;exact this
    ·intro e;rw[e]
   ·obtain⟨y,u,e,hy⟩:=zCe h1 (by omega)
    rw[e]
    show(UInt8.ofNat x==y&&_)=_
    have e2:(UInt8.ofNat x==y)=false:=by
     rw[beq_eq_false_iff_ne];intro e;rw[←e,u8n _ (by omega)] at hy;omega
    have e3:(x==r)=false:=by rw[beq_eq_false_iff_ne];omega
    rw[e2,e3,Bool.false_and,Bool.false_and]
theorem fU {l:List Nat} (h:∀x∈l,x<128):enc l=u8 l:=by
 induction l with
 | nil=>rfl
 | cons r t ih=>
  show en r++enc t=UInt8.ofNat r::u8 t
  rw[(kD (h r (by simp))).2,ih (fun x hx=>h x (by simp[hx]))]
  rfl
theorem fV {l:List Nat} (h:∀x∈l,x<128):sz l=l.length:=by
 unfold sz;rw[fU h];simp[u8]
def inr (r:Nat):Bool:=decide (cls r=1∨cls r=2∨r=39)
def blk (r:Nat):Bool:=decide (cls r=3)
def dig (r:Nat):Bool:=decide (cls r=2)
def lng (r:Nat):Bool:=inr r||decide (r=46)
def cnt (f:Nat→Bool):List Nat→Nat
 | []=>0
 | r::t=>if f r then cnt f t+1 else 0
theorem kZ (f:Nat→Bool) (l:List Nat):cnt f l≤l.length:=by
 induction l with
 | nil=>exact Nat.le_refl _
 | cons r t ih=>unfold cnt;split<;>simp<;>omega
def cm (d:Int) (last:Nat):List Nat→Option Nat
 | []=>none
 | r::t=>
  if last=40∧r=42 then (if d+1=0 then some 1 else (cm (d+1) 32 t).map (· + 1))
  else if last=42∧r=41 then (if d-1=0 then some 1 else (cm (d-1) 32 t).map (· + 1))
  else (cm d r t).map (· + 1)
def opens (l:List Nat):Bool:=[40,42].isPrefixOf l
def cmt (l:List Nat):Nat:=if opens l then (cm 0 32 l).getD 0 else 0
def btwF:Nat→List Nat→Nat
 | 0,_=>0
 | f+1,l=>if cmt (l.drop (cnt blk l))=0 then cnt blk l else cnt blk l+cmt (l.drop (cnt blk l))+btwF f (l.drop (cnt blk l+cmt (l.drop (cnt blk l))))
def btw (l:List Nat):Nat:=btwF (l.length+1) l
def WORDS:List (List Nat):=[[118,97,108],[116,121,112,101],[100,97,116,97,116,121,112,101],[115,116,114,117,99,116,117,114,101],[115,105,103,110,97,116,117,114,101],[102,117,110,99,116,111,114],[111,112,101,110],[105,110,99,108,117,100,101],[115,116,114,117,99,116],[101,110,100],[115,105,103],[119,104,101,114,101],[115,104,97,114,105,110,103],[102,110],[108,101,116],[105,110],[105,102],[116,104,101,110],[101,108,115,101],[99,97,115,101],[102,111,108,100],[111,102],[116,111],[105,110,116],[98,111,111,108],[117,110,105,116],[116,114,117,101],[102,97,108,115,101],[109,117]]
def wrd (s:ByteArray):Bool:=WORDS.any fun x=>decide (s=T x)
def SIGNS:List (List Nat):=[[58,62],[61,62],[45,62],[35,49],[35,50],[40],[41],[123],[125],[44],[58],[61],[42],[43],[45],[60],[124]]
structure Tok where
 k:Int
 x:List Nat
 n:Int
 deriving DecidableEq
def spl:List Nat→List (List Nat)
 | []=>[[]]
 | r::t=>if r=46 then []::spl t else match spl t with | []=>[[r]] | a::b=>(r::a)::b
def yK (x:List Nat):Bool:=decide (sz x≤128)&&(spl x).all fun y=>!wrd (T y)&&nm (T y)
def nameT (l:List Nat):Option (Tok×Nat):=
 if wrd (T (l.take (cnt lng l))) then some (⟨3,l.take (cnt lng l),0⟩,cnt lng l)
 else if yK (l.take (cnt lng l)) then some (⟨1,l.take (cnt lng l),0⟩,cnt lng l) else none
def dgs (u:Nat):List Nat:=(decDigits u).map UInt8.toNat
def numb (n:Int):List Nat:=if n<0 then 126::dgs n.natAbs else dgs n.toNat
def val (a:Nat):List Nat→Nat
 | []=>a
 | r::t=>val (10*a+(r-48)) t
def digT (neg:Bool) (d:List Nat):Option (Tok×Nat):=
 if cnt inr (d.drop (cnt dig d)) > 0 then none
 else if cnt dig d=0 then none
 else if 1073741824<val 0 (d.take (cnt dig d)) then none
 else some (if neg then (⟨2,numb (-(val 0 (d.take (cnt dig d)):Int)),-(val 0 (d.take (cnt dig d)):Int)⟩,1+cnt dig d) else (⟨2,numb (val 0 (d.take (cnt dig d)):Int),(val 0 (d.take (cnt dig d)):Int)⟩,cnt dig d))
def numT (l:List Nat):Option (Tok×Nat):=match l with
 | 126::d=>digT true d
 | d=>digT false d
def signT (l:List Nat):Option (Tok×Nat):=(SIGNS.find? fun x=>x.isPrefixOf l).map fun x=>(⟨3,x,0⟩,x.length)
def tokT (l:List Nat):Option (Tok×Nat):=match l with
 | []=>none
 | r::_=>if cls r=1 then nameT l else if cls r=2∨r=126 then numT l else if opens l then none else signT l
def lexF:Nat→List Nat→Nat→List (Tok×Nat) ⊕ Nat
 | 0,_,a=>.inr a
 | f+1,l,a=>
  if l.drop (btw l)=[] then .inl []
  else match tokT (l.drop (btw l)) with
   | none=>.inr (a+sz (l.take (btw l)))
   | some (t,n)=>match lexF f ((l.drop (btw l)).drop n) (a+sz (l.take (btw l))+sz ((l.drop (btw l)).take n)) with
    | .inl r=>.inl ((t,a+sz (l.take (btw l)))::r)
    | .inr e=>.inr e
def lexL (l:List Nat) (a:Nat):List (Tok×Nat) ⊕ Nat:=lexF (l.length+1) l a
theorem zXb {d:Int} {last:Nat} {l:List Nat} {k:Nat} (h:cm d last l=some k):1≤k∧k≤l.length:=by
 induction l generalizing d last k with
 | nil=>cases h
 | cons r t ih=>
  unfold cm at h;have key:∀{d':Int} {last':Nat},(cm d' last' t).map (· + 1)=some k→1≤k∧k≤(r::t).length:=by
   intro d' last' h;obtain⟨j,hj,rfl⟩:=Option.map_eq_some_iff.1 h;have:=ih hj
   simp
   omega
  split at h
  ·split at h
   ·injection h with h;subst h;simp
   ·exact key h
  ·split at h
   ·split at h
    ·injection h with h;subst h;simp
    ·exact key h
   ·exact key h
theorem iD (l:List Nat):cmt l≤l.length:=by
 unfold cmt
 split
 ·cases h:cm 0 32 l with
  | none=>simp
  | some k=>exact(zXb h).2
 ·omega
theorem zZd:∀(f g:Nat) (l:List Nat),l.length<f→l.length<g→btwF f l=btwF g l
 | 0,_,_,h,_=>by omega
 | _+1,0,_,_,h=>by omega
 | f+1,g+1,l,h1,h2=>by
  have hc:=iD (l.drop (cnt blk l));simp only[List.length_drop] at hc;simp only[btwF]
  by_cases h:cmt (l.drop (cnt blk l))=0
  ·rw[if_pos h,if_pos h]
  ·rw[if_neg h,if_neg h,zZd f g _ (by simp only[List.length_drop];omega) (by simp only[List.length_drop];omega)]
theorem nY {l:List Nat} (h:cmt (l.drop (cnt blk l))=0):btw l=cnt blk l:=by
 show btwF (l.length+1) l=_
 simp only[btwF,if_pos h]
theorem fW {l:List Nat} (h:cmt (l.drop (cnt blk l))≠0):btw l=cnt blk l+cmt (l.drop (cnt blk l))+btw (l.drop (cnt blk l+cmt (l.drop (cnt blk l)))):=by
 have hc:=iD (l.drop (cnt blk l));have hl:=kZ blk l;simp only[List.length_drop] at hc
 show btwF (l.length+1) l=_
 simp only[btwF,if_neg h];unfold btw;rw[zZd l.length (((l.drop (cnt blk l+cmt (l.drop (cnt blk l)))).length)+1) _ (by simp only[List.length_drop];omega) (by omega)]
theorem zP8:∀(f:Nat) (l:List Nat),btwF f l≤l.length
 | 0,l=>by simp[btwF]
 | f+1,l=>by
  have hl:=kZ blk l;have hc:=iD (l.drop (cnt blk l));have:=zP8 f (l.drop (cnt blk l+cmt (l.drop (cnt blk l))));simp only[List.length_drop] at hc this;simp only[btwF]
  split<;>omega
theorem zJp (l:List Nat):btw l≤l.length:=zP8 _ l
theorem zZe {b:Bool} {d:List Nat} {t:Tok} {n:Nat} (h:digT b d=some (t,n)):1≤n∧n≤d.length+(if b then 1 else 0):=by
 unfold digT at h;have:=kZ dig d
 split at h
 ·cases h
 split at h
 ·cases h
 split at h
 ·cases h
 ·cases b
  ·simp at h;simp;omega
  ·simp at h;simp;omega
theorem zVe {f:Nat→Bool} {r:Nat} {t:List Nat} (h:f r=true):1≤cnt f (r::t):=by simp[cnt,h]
theorem zM8:∀x∈SIGNS,1≤x.length:=by decide
theorem iE {l x:List Nat} (h:SIGNS.find? (fun x=>x.isPrefixOf l)=some x):x∈SIGNS∧x <+: l:=by
 refine⟨List.mem_of_find?_eq_some h,?_⟩;have:=List.find?_some h;exact List.isPrefixOf_iff_prefix.1 this
theorem jD {l:List Nat} {t:Tok} {n:Nat} (h:tokT l=some (t,n)):1≤n∧n≤l.length:=by
 cases l with
 | nil=>cases h
 | cons r u=>
  unfold tokT at h;simp only at h
  split at h
  ·rename_i hr
   have h1:1≤cnt lng (r::u):=zVe (by simp[lng,inr,hr]);have h2:=kZ lng (r::u);unfold nameT at h
   split at h
   ·simp at h;omega
   ·split at h
    ·simp at h;omega
    ·cases h
  ·split at h
   ·unfold numT at h
    split at h
    ·have:=zZe h;simp_all
    ·have:=zZe h;simp_all
   ·split at h
    ·cases h
    ·unfold signT at h
     obtain⟨x,hx,he⟩:=Option.map_eq_some_iff.1 h;obtain⟨h1,h2⟩:=iE hx;have h3:=zM8 x h1;have h4:=h2.length_le
     simp at he
     omega
theorem zZf:∀(f g:Nat) (l:List Nat) (a:Nat),l.length<f→l.length<g→lexF f l a=lexF g l a
 | 0,_,_,_,h,_=>by omega
 | _+1,0,_,_,_,h=>by omega
 | f+1,g+1,l,a,h1,h2=>by
  simp only[lexF]
  split
  ·rfl
  ·split
   ·rfl
   ·rename_i t n e
    have:=jD e;simp only[List.length_drop] at this;rw[zZf f g _ _ (by simp only[List.length_drop];omega) (by simp only[List.length_drop];omega)]
theorem vJ {l:List Nat} {a:Nat} (h:l.drop (btw l)=[]):lexL l a = .inl []:=by
 unfold lexL;simp only[lexF,if_pos h]
theorem wV {l:List Nat} {a:Nat} (h:l.drop (btw l)≠[]) (e:tokT (l.drop (btw l))=none):lexL l a = .inr (a+sz (l.take (btw l))):=by
 unfold lexL;simp only[lexF,if_neg h,e]
theorem jQ {l:List Nat} {a:Nat} {t:Tok} {n:Nat} (h:l.drop (btw l)≠[]) (e:tokT (l.drop (btw l))=some (t,n)) :
  lexL l a=match lexL ((l.drop (btw l)).drop n) (a+sz (l.take (btw l))+sz ((l.drop (btw l)).take n)) with
   | .inl r=>.inl ((t,a+sz (l.take (btw l)))::r)
   | .inr e=>.inr e:=by
 have hn:=jD e;simp only[List.length_drop] at hn;have hb:=zJp l;unfold lexL;rw[show lexF (l.length+1) l a=(if l.drop (btw l)=[] then Sum.inl [] else match tokT (l.drop (btw l)) with
                                                                               | none=>.inr (a+sz (l.take (btw l)))
                                                                               | some (t,n)=>match lexF l.length ((l.drop (btw l)).drop n) (a+sz (l.take (btw l))+sz ((l.drop (btw l)).take n)) with
                                                                                | .inl r=>.inl ((t,a+sz (l.take (btw l)))::r)
                                                                                | .inr e=>.inr e) from rfl,if_neg h,e]
 simp only;rw[zZf l.length (((l.drop (btw l)).drop n).length+1) _ _ (by simp only[List.length_drop];omega) (by omega)]
def ckr (s:ByteArray):Int×Int:=if 16384<s.size then (0,3) else ck s 0
theorem yYt (s:ByteArray):∀p,((ck s p).2=0∧(ck s p).1=0∧vls s p=true∧∀r∈rns s p,rdb (r:Int)=true)∨((ck s p).2=4):=by
 refine along s _ ?_ ?_
 ·intro p h
  rw[zX5 (by omega),tA (by omega),gQ (by omega)];exact .inl ⟨rfl,rfl,rfl,fun _ h=>by cases h⟩
 ·intro p h ih
  cases hr:rdb ((dc s p).1:Int)
  ·rw[aE h hr];exact .inr rfl
  ·rw[aF h hr]
   rcases ih with ⟨h1,h2,h3,h4⟩ | h1
   ·refine .inl ⟨h1,h2,?_,?_⟩
    ·cases hb:bad s p
     ·rw[tD h hb];exact h3
     ·rw[zX4 hb] at hr
      exact absurd hr (by decide)
    ·rw[wL h]
     intro r hrr
     rcases List.mem_cons.1 hrr with rfl | h5
     ·exact hr
     ·exact h4 r h5
   ·exact .inr h1
def lexR (s:ByteArray):List (Tok×Nat)×Int×Int:=
 if (ckr s).2=0 then (match lexL (rns s 0) 0 with | .inl l=>(l,0,0) | .inr a=>([],(a:Int),5)) else ([],(ckr s).1,(ckr s).2)
def rn (f:Nat→Bool) (s:ByteArray) (p:Nat):Nat:=vT s (fun(_:Unit) p=>if f (dc s p).1 then none else some p) (fun u _=>u) (fun _=>s.size) () p
theorem zXc {f:Nat→Bool} {s:ByteArray} {p:Nat} (h:¬p<s.size):rn f s p=s.size:=nX h
theorem aJ {f:Nat→Bool} {s:ByteArray} {p:Nat} (h:p<s.size) (e:f (dc s p).1=false):rn f s p=p:=gR h (by simp[e])
theorem aK {f:Nat→Bool} {s:ByteArray} {p:Nat} (h:p<s.size) (e:f (dc s p).1=true):rn f s p=rn f s (p+(dc s p).2):=gS h (by simp[e])
theorem zJq (a:List Nat) (r:Nat) (t:List Nat):a++r::t=(a++[r])++t∧sz a+wd r=sz (a++[r]):=by
 refine⟨by simp,?_⟩;rw[sz_app,zO,yY,Nat.add_zero]
theorem yXg (a:List Nat) (r:Nat) (t:List Nat):sz a<(T (a++r::t)).size:=by
 have:=mU r;rw[qO,sz_app,zO];omega
theorem rn_T (f:Nat→Bool):∀(b a:List Nat),okl b→rn f (T (a++b)) (sz a)=sz a+sz (b.take (cnt f b)):=by
 intro b
 induction b with
 | nil=>
  intro a _;rw[List.append_nil,zXc (by rw[qO];omega),qO]
  simp[cnt,yY]
 | cons r t ih=>
  intro a h;obtain⟨h1,h2⟩:=kY.1 h;obtain⟨e1,e2⟩:=zJq a r t;have hlt:=yXg a r t;have k:=ih (a++[r]) h2;rw[←e1,←e2] at k
  cases hf:f r
  ·rw[aJ hlt (by rw[zZ7 a h1 t];exact hf)]
   simp[cnt,hf,yY]
  ·rw[aK hlt (by rw[zZ7 a h1 t];exact hf),zZ7 a h1 t]
   show rn f _ (sz a+wd r)=_
   rw[k];simp only[cnt,hf,if_true,List.take_succ_cons,zO];omega
theorem zVf (f:Nat→Bool) {b:List Nat} (h:okl b):rn f (T b) 0=sz (b.take (cnt f b)):=by
 have:=rn_T f b [] h;rw[List.nil_append,yY,Nat.zero_add] at this;exact this
def cstep (st:Int×Nat) (r:Nat):Int×Nat:=if st.2=40∧r=42 then (st.1+1,32) else if st.2=42∧r=41 then (st.1-1,32) else (st.1,r)
def chit (st:Int×Nat) (r:Nat):Bool:=decide (((st.2=40∧r=42)∨(st.2=42∧r=41))∧(cstep st r).1=0)
def cmp (s:ByteArray) (st:Int×Nat) (p:Nat):Nat:=vT s (fun(st:Int×Nat) p=>if chit st (dc s p).1 then some (p+1) else none) (fun st p=>cstep st (dc s p).1) (fun _=>0) st p
theorem zP9 {s:ByteArray} {st:Int×Nat} {p:Nat} (h:¬p<s.size):cmp s st p=0:=nX h
theorem zVg {s:ByteArray} {st:Int×Nat} {p:Nat} (h:p<s.size) (e:chit st (dc s p).1=true):cmp s st p=p+1:=gR h (by simp[e])
theorem zVh {s:ByteArray} {st:Int×Nat} {p:Nat} (h:p<s.size) (e:chit st (dc s p).1=false):cmp s st p=cmp s (cstep st (dc s p).1) (p+(dc s p).2):=gS h (by simp[e])
theorem cm_T:∀(b a:List Nat) (d:Int) (last:Nat),okl b→cmp (T (a++b)) (d,last) (sz a)=(match cm d last b with | none=>0 | some k=>sz a+sz (b.take k)):=by
 intro b
 induction b with
 | nil=>
  intro a d last _;rw[List.append_nil,zP9 (by rw[qO];omega)]
  rfl
 | cons r t ih=>
  intro a d last h;obtain⟨h1,h2⟩:=kY.1 h;obtain⟨e1,e2⟩:=zJq a r t;have hlt:=yXg a r t;have key:∀d' last',chit (d,last) r=false→cstep (d,last) r=(d',last')→cmp (T (a++r::t)) (d,last) (sz a)=(match (cm d' last' t).map (· + 1) with | none=>0 | some k=>sz a+sz ((r::t).take k)):=by
   intro d' last' hc hs;rw[zVh hlt (by rw[zZ7 a h1 t];exact hc),zZ7 a h1 t]
   show cmp _ (cstep (d,last) r) (sz a+wd r)=_
   rw[hs];have k:=ih (a++[r]) d' last' h2;rw[←e1,←e2] at k;rw[k]
   cases cm d' last' t with
   | none=>rfl
   | some j=>
    show _=sz a+sz ((r::t).take (j+1))
    rw[List.take_succ_cons,zO];simp only;omega
  have stop:chit (d,last) r=true→r<128→cmp (T (a++r::t)) (d,last) (sz a)=sz a+sz ((r::t).take 1):=by
   intro hc hr;rw[zVg hlt (by rw[zZ7 a h1 t];exact hc)];have:=(kD hr).1;rw[List.take_succ_cons,List.take_zero,zO,yY,this]
  unfold cm
  by_cases c1:last=40∧r=42
  ·have hs:cstep (d,last) r=(d+1,32):=by unfold cstep;rw[if_pos c1]
   rw[if_pos c1]
   by_cases hd:d+1=0
   ·rw[if_pos hd]
    exact stop (by unfold chit;rw[hs];simp[c1,hd]) (by omega)
   ·rw[if_neg hd]
    exact key _ _ (by unfold chit;rw[hs];simp[hd]) hs
  ·rw[if_neg c1]
   by_cases c2:last=42∧r=41
   ·have hs:cstep (d,last) r=(d-1,32):=by unfold cstep;rw[if_neg c1,if_pos c2]
    rw[if_pos c2]
    by_cases hd:d-1=0
    ·rw[if_pos hd]
     exact stop (by unfold chit;rw[hs];simp[c2,hd]) (by omega)
    ·rw[if_neg hd]
     exact key _ _ (by unfold chit;rw[hs];simp[hd]) hs
   ·have hs:cstep (d,last) r=(d,r):=by unfold cstep;rw[if_neg c1,if_neg c2]
    rw[if_neg c2];refine key _ _ ?_ hs;unfold chit;rw[decide_eq_false_iff_not];rintro⟨h | h,_⟩
    ·exact c1 h
    ·exact c2 h
def cmb (s:ByteArray):Nat:=if hasPrefix s.data.toList [40,42] then cmp s (0,32) 0 else 0
theorem zPa {l:List Nat} (h:okl l):hasPrefix (enc l) [40,42]=opens l:=zP7 (p:=[40,42]) (by decide) h
theorem cmb_T {l:List Nat} (h:okl l):cmb (T l)=sz (l.take (cmt l)):=by
 unfold cmb cmt;rw[yX,zPa h]
 cases ho:opens l
 ·simp[yY]
 ·have k:=cm_T l [] 0 32 h
  rw[List.nil_append,yY] at k;simp only[if_true];rw[k]
  cases cm 0 32 l with
  | none=>simp[yY]
  | some j=>simp
end Go.Proofs.YtbpijnalmakfaaaGreatDoor.B
namespace Go.Proofs.YtbpijnalmakfaaaGreatDoor.B
open Go.RowKit
theorem zXd {s p:ByteArray} {b:Bool} (h:Lib.hasPrefix s.data.toList p.data.toList=b) (w:World) :
  Calls Tryz.prog 96 #[.string s,.string p] w fun e w'=>e = .returned (.bool b)∧w=w':=
 (Tryz.strings_HasPrefix s p w).mono fun _ _ k=>⟨by rw[k.1,h],k.2.symm⟩
def nZ (n:Nat) (W:World) (e:Ending) (w':World):Prop:=e = .returned (.int .i64 (n:Int))∧Below W.heap.size W w'
theorem xI {n m:Nat} {W w':World} {z:Int} (h:n=m) (hz:z=(m:Int)) (hb:Below W.heap.size W w'):nZ n W (.returned (.int .i64 z)) w':=⟨by rw[h,hz],hb⟩
theorem zSw (r:Int) (n:Nat) (hr:r=(n:Int)) (w:World):Calls Tryz.prog 150 #[.int .i32 r] w fun e w'=>e = .returned (.bool (inr n))∧w=w':=by
 obtain⟨c,hc⟩:∃c,inr n=c:=⟨_,rfl⟩;have cC:∀W,Calls Tryz.prog 91 #[.int .i32 r] W _:=fun W=>wD r W
 obtain⟨k,hk⟩:∃k,cls r=k:=⟨_,rfl⟩;have hin:decide (k=1∨k=2∨r=39)=c:=by
  rw[←hc,←hk,hr];unfold inr;rw[decide_eq_decide];omega
 rw[hk] at cC;rw[hc];have HC:=Lib.hid hin;clear hc hk hin hr
 go_enter Tryz.func150,Tryz.ntmps150
 go_wp2_with (go_at_call 91;refine(cC _).mono ?_;rintro e w' ⟨rfl,rfl⟩)
 all_goals go_ret
 all_goals
  refine⟨kN (HC.out.symm.trans ?_),rfl⟩
  first
   | (rw[decide_eq_true_iff];omega)
   | (rw[Bool.eq_iff_iff];simp only[decide_eq_true_iff,Bool.or_eq_true,beq_iff_eq];omega)
theorem zVi (r:Int) (n:Nat) (hr:r=(n:Int)) (w:World):Calls Tryz.prog 90 #[.int .i32 r] w fun e w'=>e = .returned (.bool (blk n))∧w=w':=by
 have cC:∀W,Calls Tryz.prog 91 #[.int .i32 r] W _:=fun W=>wD r W
 obtain⟨k,hk⟩:∃k,cls r=k:=⟨_,rfl⟩;have hin:blk n=(k==3):=by
  rw[←hk,hr]
  rfl
 rw[hk] at cC;have HC:=Lib.hid hin;clear hk hin hr
 go_enter Tryz.func90,Tryz.ntmps90
 go_wp2_with (go_at_call 91;refine(cC _).mono ?_;rintro e w' ⟨rfl,rfl⟩)
 all_goals go_ret
 all_goals exact⟨kN HC.out,rfl⟩
theorem zVj (r:Int) (n:Nat) (hr:r=(n:Int)) (w:World):Calls Tryz.prog 154 #[.int .i32 r] w fun e w'=>e = .returned (.bool (dig n))∧w=w':=by
 have cC:∀W,Calls Tryz.prog 91 #[.int .i32 r] W _:=fun W=>wD r W
 obtain⟨k,hk⟩:∃k,cls r=k:=⟨_,rfl⟩;have hin:dig n=(k==2):=by
  rw[←hk,hr]
  rfl
 rw[hk] at cC;have HC:=Lib.hid hin;clear hk hin hr
 go_enter Tryz.func154,Tryz.ntmps154
 go_wp2_with (go_at_call 91;refine(cC _).mono ?_;rintro e w' ⟨rfl,rfl⟩)
 all_goals go_ret
 all_goals exact⟨kN HC.out,rfl⟩
theorem zVk (s:ByteArray) (w:World) :
  Calls Tryz.prog 89 #[.string s,.func (.func 90) #[] #[]] w (nZ (rn blk s 0) w):=by
 obtain⟨ANS,hans⟩:∃b,rn blk s 0=b:=⟨_,rfl⟩;rw[hans];have HA:=Lib.hid hans;clear hans
 go_enter Tryz.func89,Tryz.ntmps89
 go_wp2
 have hit0:(w.iter s 0).heap[w.heap.size]? = some (.stringIter s 0):=World.iter_heap w s 0;have hbi:Below w.heap.size w (w.iter s 0):=(Below.refl _ _).alloc (Nat.le_refl _) _
 generalize w.iter s 0=wq at hit0 hbi ⊢
 go_loopw [] (fun wr=>∃p:Nat,wr.heap[w.heap.size]? = some (.stringIter s p)∧Below w.heap.size w wr∧p≤s.size∧rn blk s p=ANS) (fun wr=>s.size-wr.iterPos w.heap.size)
 case atStart=>exact⟨0,hit0,hbi,Nat.zero_le _,HA.out⟩
 case round=>
  obtain⟨p,hit,hbw,hp,hc⟩:=hrel;have HC:=Lib.hid hc;clear hc hit0 hbi;have hpos0:=iterPos_of hit
  by_cases hlt:p<s.size
  ·have hnx:∀ty,(Instr.next (.pointer (some ⟨w.heap.size,0,none⟩)) true ty).run Tryz.prog wr=_:=fun ty=>Lib.run_next_any_at wr w.heap.size s p ty hit hlt
   have hw1:=kT s p;have hw2:=eU s p hlt;have hit2:=Lib.iterAt_heap wr w.heap.size s p (p+(dc s p).2) hit;have hbw2:=Lib.below_iterAt hbw (k:=w.heap.size) (Nat.le_refl _) s (p+(dc s p).2);have HS:=Lib.hid (aJ (f:=blk) (s:=s) hlt);have HN:=Lib.hid (aK (f:=blk) (s:=s) hlt);obtain⟨r,k,hrk⟩:∃r k,dc s p=(r,k):=⟨_,_,rfl⟩;rw[show Utf8.decode s p=(r,k) from hrk] at hnx;rw[hrk] at hw1 hw2 hit2 hbw2 HS HN
   dsimp only at hw1 hw2 hit2 hbw2 HS HN hnx
   clear hrk;obtain⟨W1,hW1⟩:∃W1,W1=wr.iterAt w.heap.size s (p+k):=⟨_,rfl⟩;rw[←hW1] at hnx hit2 hbw2;have hpos2:=iterPos_of hit2;have HP0:=Lib.hid hpos0;have HP2:=Lib.hid hpos2;have HIT:=Lib.hid hit2;clear hW1 hpos0 hpos2 hit hbw hit2;have cR:∀W,Calls Tryz.prog 90 #[.int .i32 r] W _:=fun W=>zVi r r rfl W
   obtain⟨b,hb⟩:∃b,blk r=b:=⟨_,rfl⟩;rw[hb] at cR;have HB:=Lib.hid hb;clear hb
   cases b
   ·go_wp2_with (go_at_call 90;refine(cR _).mono ?_;rintro e w' ⟨rfl,rfl⟩)
    go_ret
    exact xI (HC.out.symm.trans (HS.out HB.out)) rfl hbw2
   ·go_wp2_with (go_at_call 90;refine(cR _).mono ?_;rintro e w' ⟨rfl,rfl⟩)
    go_roundw
    case rel=>exact⟨p+k,HIT.out,hbw2,hw2,by rw[←HN.out HB.out];exact HC.out⟩
    case measure=>rw[HP0.out,HP2.out];omega
  ·have hnx:∀ty,(Instr.next (.pointer (some ⟨w.heap.size,0,none⟩)) true ty).run Tryz.prog wr=_:=fun ty=>Lib.run_next_end_at wr w.heap.size s p ty hit hlt
   have HE:=Lib.hid (zXc (f:=blk) hlt);clear hpos0
   go_wp2
   go_ret
   exact xI (HC.out.symm.trans HE.out) rfl hbw
theorem zVl (s:ByteArray) (w:World) :
  Calls Tryz.prog 89 #[.string s,.func (.func 154) #[] #[]] w (nZ (rn dig s 0) w):=by
 obtain⟨ANS,hans⟩:∃b,rn dig s 0=b:=⟨_,rfl⟩;rw[hans];have HA:=Lib.hid hans;clear hans
 go_enter Tryz.func89,Tryz.ntmps89
 go_wp2
 have hit0:(w.iter s 0).heap[w.heap.size]? = some (.stringIter s 0):=World.iter_heap w s 0;have hbi:Below w.heap.size w (w.iter s 0):=(Below.refl _ _).alloc (Nat.le_refl _) _
 generalize w.iter s 0=wq at hit0 hbi ⊢
 go_loopw [] (fun wr=>∃p:Nat,wr.heap[w.heap.size]? = some (.stringIter s p)∧Below w.heap.size w wr∧p≤s.size∧rn dig s p=ANS) (fun wr=>s.size-wr.iterPos w.heap.size)
 case atStart=>exact⟨0,hit0,hbi,Nat.zero_le _,HA.out⟩
 case round=>
  obtain⟨p,hit,hbw,hp,hc⟩:=hrel;have HC:=Lib.hid hc;clear hc hit0 hbi;have hpos0:=iterPos_of hit
  by_cases hlt:p<s.size
  ·have hnx:∀ty,(Instr.next (.pointer (some ⟨w.heap.size,0,none⟩)) true ty).run Tryz.prog wr=_:=fun ty=>Lib.run_next_any_at wr w.heap.size s p ty hit hlt
   have hw1:=kT s p;have hw2:=eU s p hlt;have hit2:=Lib.iterAt_heap wr w.heap.size s p (p+(dc s p).2) hit;have hbw2:=Lib.below_iterAt hbw (k:=w.heap.size) (Nat.le_refl _) s (p+(dc s p).2);have HS:=Lib.hid (aJ (f:=dig) (s:=s) hlt);have HN:=Lib.hid (aK (f:=dig) (s:=s) hlt);obtain⟨r,k,hrk⟩:∃r k,dc s p=(r,k):=⟨_,_,rfl⟩;rw[show Utf8.decode s p=(r,k) from hrk] at hnx;rw[hrk] at hw1 hw2 hit2 hbw2 HS HN
   dsimp only at hw1 hw2 hit2 hbw2 HS HN hnx
   clear hrk;obtain⟨W1,hW1⟩:∃W1,W1=wr.iterAt w.heap.size s (p+k):=⟨_,rfl⟩;rw[←hW1] at hnx hit2 hbw2;have hpos2:=iterPos_of hit2;have HP0:=Lib.hid hpos0;have HP2:=Lib.hid hpos2;have HIT:=Lib.hid hit2;clear hW1 hpos0 hpos2 hit hbw hit2;have cR:∀W,Calls Tryz.prog 154 #[.int .i32 r] W _:=fun W=>zVj r r rfl W
   obtain⟨b,hb⟩:∃b,dig r=b:=⟨_,rfl⟩;rw[hb] at cR;have HB:=Lib.hid hb;clear hb
   cases b
   ·go_wp2_with (go_at_call 154;refine(cR _).mono ?_;rintro e w' ⟨rfl,rfl⟩)
    go_ret
    exact xI (HC.out.symm.trans (HS.out HB.out)) rfl hbw2
   ·go_wp2_with (go_at_call 154;refine(cR _).mono ?_;rintro e w' ⟨rfl,rfl⟩)
    go_roundw
    case rel=>exact⟨p+k,HIT.out,hbw2,hw2,by rw[←HN.out HB.out];exact HC.out⟩
    case measure=>rw[HP0.out,HP2.out];omega
  ·have hnx:∀ty,(Instr.next (.pointer (some ⟨w.heap.size,0,none⟩)) true ty).run Tryz.prog wr=_:=fun ty=>Lib.run_next_end_at wr w.heap.size s p ty hit hlt
   have HE:=Lib.hid (zXc (f:=dig) hlt);clear hpos0
   go_wp2
   go_ret
   exact xI (HC.out.symm.trans HE.out) rfl hbw
theorem sF (s:ByteArray) (w:World) :
  Calls Tryz.prog 89 #[.string s,.func (.func 150) #[] #[]] w (nZ (rn inr s 0) w):=by
 obtain⟨ANS,hans⟩:∃b,rn inr s 0=b:=⟨_,rfl⟩;rw[hans];have HA:=Lib.hid hans;clear hans
 go_enter Tryz.func89,Tryz.ntmps89
 go_wp2
 have hit0:(w.iter s 0).heap[w.heap.size]? = some (.stringIter s 0):=World.iter_heap w s 0;have hbi:Below w.heap.size w (w.iter s 0):=(Below.refl _ _).alloc (Nat.le_refl _) _
 generalize w.iter s 0=wq at hit0 hbi ⊢
 go_loopw [] (fun wr=>∃p:Nat,wr.heap[w.heap.size]? = some (.stringIter s p)∧Below w.heap.size w wr∧p≤s.size∧rn inr s p=ANS) (fun wr=>s.size-wr.iterPos w.heap.size)
 case atStart=>exact⟨0,hit0,hbi,Nat.zero_le _,HA.out⟩
 case round=>
  obtain⟨p,hit,hbw,hp,hc⟩:=hrel;have HC:=Lib.hid hc;clear hc hit0 hbi;have hpos0:=iterPos_of hit
  by_cases hlt:p<s.size
  ·have hnx:∀ty,(Instr.next (.pointer (some ⟨w.heap.size,0,none⟩)) true ty).run Tryz.prog wr=_:=fun ty=>Lib.run_next_any_at wr w.heap.size s p ty hit hlt
   have hw1:=kT s p;have hw2:=eU s p hlt;have hit2:=Lib.iterAt_heap wr w.heap.size s p (p+(dc s p).2) hit;have hbw2:=Lib.below_iterAt hbw (k:=w.heap.size) (Nat.le_refl _) s (p+(dc s p).2);have HS:=Lib.hid (aJ (f:=inr) (s:=s) hlt);have HN:=Lib.hid (aK (f:=inr) (s:=s) hlt);obtain⟨r,k,hrk⟩:∃r k,dc s p=(r,k):=⟨_,_,rfl⟩;rw[show Utf8.decode s p=(r,k) from hrk] at hnx;rw[hrk] at hw1 hw2 hit2 hbw2 HS HN
   dsimp only at hw1 hw2 hit2 hbw2 HS HN hnx
   clear hrk;obtain⟨W1,hW1⟩:∃W1,W1=wr.iterAt w.heap.size s (p+k):=⟨_,rfl⟩;rw[←hW1] at hnx hit2 hbw2;have hpos2:=iterPos_of hit2;have HP0:=Lib.hid hpos0;have HP2:=Lib.hid hpos2;have HIT:=Lib.hid hit2;clear hW1 hpos0 hpos2 hit hbw hit2;have cR:∀W,Calls Tryz.prog 150 #[.int .i32 r] W _:=fun W=>zSw r r rfl W
   obtain⟨b,hb⟩:∃b,inr r=b:=⟨_,rfl⟩;rw[hb] at cR;have HB:=Lib.hid hb;clear hb
   cases b
   ·go_wp2_with (go_at_call 150;refine(cR _).mono ?_;rintro e w' ⟨rfl,rfl⟩)
    go_ret
    exact xI (HC.out.symm.trans (HS.out HB.out)) rfl hbw2
   ·go_wp2_with (go_at_call 150;refine(cR _).mono ?_;rintro e w' ⟨rfl,rfl⟩)
    go_roundw
    case rel=>exact⟨p+k,HIT.out,hbw2,hw2,by rw[←HN.out HB.out];exact HC.out⟩
    case measure=>rw[HP0.out,HP2.out];omega
  ·have hnx:∀ty,(Instr.next (.pointer (some ⟨w.heap.size,0,none⟩)) true ty).run Tryz.prog wr=_:=fun ty=>Lib.run_next_end_at wr w.heap.size s p ty hit hlt
   have HE:=Lib.hid (zXc (f:=inr) hlt);clear hpos0
   go_wp2
   go_ret
   exact xI (HC.out.symm.trans HE.out) rfl hbw
end Go.Proofs.YtbpijnalmakfaaaGreatDoor.B
