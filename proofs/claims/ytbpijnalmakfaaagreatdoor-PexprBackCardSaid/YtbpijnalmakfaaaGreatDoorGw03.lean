/-
  The lexer's comment and between: what they tell.
-/
import Derived.Test.YtbpijnalmakfaaaGreatDoorGw02
import Derived.Laws.Rows
import Derived.Laws.Tables
import Derived.Lib.AppendIntMem
import Derived.Lib.AtoiAll
import Derived.Lib.AtoiErrMem
import Derived.Lib.CountLaws
import Derived.Lib.IndexBytes
import Derived.Lib.ItoaLen
import Derived.Lib.Replace
import Derived.Lib.Split
set_option maxHeartbeats 40000000
set_option maxRecDepth 100000
namespace Go.Proofs.YtbpijnalmakfaaaGreatDoor.B
open Go.RowKit
theorem zCf {d:Int} {l r:Nat} (h:l=40∧r=42):cstep (d,l) r=(d+1,32):=by unfold cstep;rw[if_pos h]
theorem zCg {d:Int} {l r:Nat} (h:l=42∧r=41):cstep (d,l) r=(d-1,32):=by unfold cstep;rw[if_neg (by omega),if_pos h]
theorem zCh {d:Int} {l r:Nat} (h1:¬(l=40∧r=42)) (h2:¬(l=42∧r=41)):cstep (d,l) r=(d,r):=by unfold cstep;rw[if_neg h1,if_neg h2]
theorem zPb {d d':Int} {l r:Nat} (h:(l=40∧r=42)∨(l=42∧r=41)) (hs:cstep (d,l) r=(d',32)):chit (d,l) r=decide (d'=0):=by
 unfold chit;rw[hs,decide_eq_decide];exact⟨fun k=>k.2,fun k=>⟨h,k⟩⟩
theorem yXh {d:Int} {l r:Nat} (h1:¬(l=40∧r=42)) (h2:¬(l=42∧r=41)):chit (d,l) r=false:=by
 unfold chit;rw[decide_eq_false_iff_not];rintro⟨h | h,_⟩
 ·exact h1 h
 ·exact h2 h
theorem zVm (s:ByteArray) (w:World) (hs:s.size≤1000000000) :
  Calls Tryz.prog 92 #[.string s] w (nZ (cmb s) w):=by
 obtain⟨ANS,hans⟩:∃b,cmb s=b:=⟨_,rfl⟩;rw[hans];obtain⟨hp,hhp⟩:∃b,Lib.hasPrefix s.data.toList [40,42]=b:=⟨_,rfl⟩;have cH:∀W,Calls Tryz.prog 96 #[.string s,.string ⟨#[40,42]⟩] W _:=fun W=>zXd (p:=⟨#[40,42]⟩) hhp W
 unfold cmb at hans;rw[hhp] at hans;clear hhp
 cases hp
 ·have HA:=Lib.hid hans
  clear hans
  go_enter Tryz.func92,Tryz.ntmps92
  go_wp2_with (go_at_call 96;refine(cH _).mono ?_;rintro e w' ⟨rfl,rfl⟩)
  go_ret
  exact xI HA.out.symm rfl (Below.refl _ _)
 ·rw[if_pos rfl] at hans
  have HA:=Lib.hid hans;clear hans
  go_enter Tryz.func92,Tryz.ntmps92
  go_wp2_with (go_at_call 96;refine(cH _).mono ?_;rintro e w' ⟨rfl,rfl⟩)
  have hit0:(w.iter s 0).heap[w.heap.size]? = some (.stringIter s 0):=World.iter_heap w s 0;have hbi:Below w.heap.size w (w.iter s 0):=(Below.refl _ _).alloc (Nat.le_refl _) _
  generalize w.iter s 0=wq at hit0 hbi ⊢
  go_loopw [3,4] (fun a b wr=>∃(p:Nat) (d:Int) (l:Nat),wr.heap[w.heap.size]? = some (.stringIter s p)∧Below w.heap.size w wr∧p≤s.size∧a = .int .i64 d∧b = .int .i32 (l:Int)∧-(p:Int)≤d∧d≤p∧l≤1114111∧cmp s (d,l) p=ANS) (fun _ _ wr=>s.size-wr.iterPos w.heap.size)
  case atStart=>exact⟨0,0,32,hit0,hbi,Nat.zero_le _,rfl,rfl,by omega,by omega,by omega,HA.out⟩
  case round=>
   obtain⟨p,d,l,hit,hbw,hp,rfl,rfl,hd1,hd2,hl,hc⟩:=hrel;have HC:=Lib.hid hc;clear hc hit0 hbi;have hpos0:=iterPos_of hit
   by_cases hlt:p<s.size
   ·have hnx:∀ty,(Instr.next (.pointer (some ⟨w.heap.size,0,none⟩)) true ty).run Tryz.prog wr=_:=fun ty=>Lib.run_next_any_at wr w.heap.size s p ty hit hlt
    have hw1:=kT s p;have hw2:=eU s p hlt;have hrl:=zP3 s p;have hit2:=Lib.iterAt_heap wr w.heap.size s p (p+(dc s p).2) hit;have hbw2:=Lib.below_iterAt hbw (k:=w.heap.size) (Nat.le_refl _) s (p+(dc s p).2);have HS:=Lib.hid (zVg (s:=s) (st:=(d,l)) hlt);have HN:=Lib.hid (zVh (s:=s) (st:=(d,l)) hlt);obtain⟨r,k,hrk⟩:∃r k,dc s p=(r,k):=⟨_,_,rfl⟩;rw[show Utf8.decode s p=(r,k) from hrk] at hnx;rw[hrk] at hw1 hw2 hit2 hbw2 HS HN hrl
    dsimp only at hw1 hw2 hit2 hbw2 HS HN hnx hrl
    clear hrk;obtain⟨W1,hW1⟩:∃W1,W1=wr.iterAt w.heap.size s (p+k):=⟨_,rfl⟩;rw[←hW1] at hnx hit2 hbw2;have hpos2:=iterPos_of hit2;have HP0:=Lib.hid hpos0;have HP2:=Lib.hid hpos2;have HIT:=Lib.hid hit2;clear hW1 hpos0 hpos2 hit hbw hit2
    by_cases ca:l=40∧r=42
    ·obtain⟨rfl,rfl⟩:=ca
     have HT:=Lib.hid (zCf (d:=d) (l:=40) (r:=42) ⟨rfl,rfl⟩);have HK:=Lib.hid (zPb (.inl ⟨rfl,rfl⟩) HT.out)
     by_cases hz:d+1=0
     ·have hz2:(d+1==0)=true:=by simp[hz]
      clear hz
      go_wp2
      go_ret
      exact xI (HC.out.symm.trans (HS.out (by rw[HK.out];simpa using hz2))) (by omega) hbw2
     ·have hz2:(d+1==0)=false:=by simp[hz]
      clear hz
      go_wp2
      go_roundw
      case rel=>exact⟨p+k,d+1,32,HIT.out,hbw2,hw2,rfl,rfl,by omega,by omega,by omega,by rw[←HC.out,HN.out (by rw[HK.out];simpa using hz2),HT.out]⟩
      case measure=>rw[HP0.out,HP2.out];omega
    ·by_cases cb:l=42∧r=41
     ·obtain⟨rfl,rfl⟩:=cb
      clear ca;have HT:=Lib.hid (zCg (d:=d) (l:=42) (r:=41) ⟨rfl,rfl⟩);have HK:=Lib.hid (zPb (.inr ⟨rfl,rfl⟩) HT.out)
      by_cases hz:d-1=0
      ·have hz2:(d-1==0)=true:=by simp[hz]
       clear hz
       go_wp2
       go_ret
       exact xI (HC.out.symm.trans (HS.out (by rw[HK.out];simpa using hz2))) (by omega) hbw2
      ·have hz2:(d-1==0)=false:=by simp[hz]
       clear hz
       go_wp2
       go_roundw
       case rel=>exact⟨p+k,d-1,32,HIT.out,hbw2,hw2,rfl,rfl,by omega,by omega,by omega,by rw[←HC.out,HN.out (by rw[HK.out];simpa using hz2),HT.out]⟩
       case measure=>rw[HP0.out,HP2.out];omega
     ·have HT:=Lib.hid (zCh (d:=d) ca cb)
      have HK:=Lib.hid (yXh (d:=d) ca cb);have b1:(((l:Int)==40)&&((r:Int)==42))=false:=by
       rw[Bool.and_eq_false_iff,beq_eq_false_iff_ne,beq_eq_false_iff_ne];omega
      have b2:(((l:Int)==42)&&((r:Int)==41))=false:=by
       rw[Bool.and_eq_false_iff,beq_eq_false_iff_ne,beq_eq_false_iff_ne];omega
      have CA:=Lib.hid ca;have CB:=Lib.hid cb;clear ca cb
      go_wp2
      all_goals first
       | (exfalso;have ca:=CA.out;have cb:=CB.out;simp only[beq_iff_eq,beq_eq_false_iff_ne,ne_eq] at *;omega)
       | (go_roundw
          case rel=>exact⟨p+k,d,r,HIT.out,hbw2,hw2,rfl,rfl,by omega,by omega,hrl,by rw[←HC.out,HN.out HK.out,HT.out]⟩
          case measure=>rw[HP0.out,HP2.out];omega)
       | trace_state
   ·have hnx:∀ty,(Instr.next (.pointer (some ⟨w.heap.size,0,none⟩)) true ty).run Tryz.prog wr=_:=fun ty=>Lib.run_next_end_at wr w.heap.size s p ty hit hlt
    have HE:=Lib.hid (zP9 (s:=s) (st:=(d,l)) hlt);clear hpos0
    go_wp2
    go_ret
    exact xI (HC.out.symm.trans HE.out) rfl hbw
theorem jA (l:List Nat) (ho:okl l) (w:World) (hs:sz l≤1000000000) :
  Calls Tryz.prog 42 #[.string (T l)] w (nZ (sz (l.take (btw l))) w):=by
 have hsz:=qO l;obtain⟨S,hS⟩:∃S,T l=S:=⟨_,rfl⟩;rw[hS] at hsz;have HS:=Lib.hid hS;rw[hS];obtain⟨ANS,hans⟩:∃b,sz (l.take (btw l))=b:=⟨_,rfl⟩;rw[hans];have HA:=Lib.hid hans;have HZ:=Lib.hid hsz;have hSz:S.size≤1000000000:=by omega
 clear hS hans hsz hs
 go_enter Tryz.func42,Tryz.ntmps42
 go_wp2
 go_loopw [3,4,5] (fun v _ _ wr=>∃(a b:List Nat),l=a++b∧v = .int .i64 (sz a:Nat)∧Below w.heap.size w wr∧sz a≤S.size∧sz a+sz (b.take (btw b))=ANS) (fun v _ _ _=>S.size-(intOf v).toNat)
 case atStart=>exact⟨[],l,rfl,rfl,Below.refl _ _,Nat.zero_le _,by rw[yY,Nat.zero_add];exact HA.out⟩
 case round=>
  obtain⟨a,b,hl,rfl,hbw,hle,hans⟩:=hrel;have hb1:=(vH.1 (hl▸ho)).2;have hc1:=kZ blk b;obtain⟨c,hc⟩:∃c,b.take (cnt blk b)=c:=⟨_,rfl⟩;obtain⟨d,hd⟩:∃d,b.drop (cnt blk b)=d:=⟨_,rfl⟩;have hbcd:b=c++d:=by rw[←hc,←hd];exact(List.take_append_drop _ _).symm
  have hd1:=(vH.1 (hbcd▸hb1)).2;have E1:Hid (S.extract (sz a) S.size=T b):=Lib.hid (by rw[←HS.out,qO,hl];exact tG a b);have E2:Hid (S.extract (sz a+sz c) S.size=T d):=Lib.hid (by rw[←HS.out,qO,hl,hbcd,←List.append_assoc,←sz_app];exact tG (a++c) d);have hz2:sz a+sz c≤S.size:=by rw[HZ.out,hl,hbcd,sz_app,sz_app];omega
  have hz3:sz d≤1000000000:=by have h3:=HZ.out;rw[hl,hbcd,sz_app,sz_app] at h3;omega
  have c1:=fun W=>zVk (T b) W
  rw[zVf blk hb1,hc] at c1;have c2:=fun W=>zVm (T d) W (by rw[qO];exact hz3)
  rw[cmb_T hd1] at c2;obtain⟨f,hf⟩:∃f,d.take (cmt d)=f:=⟨_,rfl⟩;obtain⟨g,hg⟩:∃g,d.drop (cmt d)=g:=⟨_,rfl⟩;have hdfg:d=f++g:=by rw[←hf,←hg];exact(List.take_append_drop _ _).symm
  have hzf:sz a+sz c+sz f≤S.size:=by rw[HZ.out,hl,hbcd,hdfg,sz_app,sz_app,sz_app];omega
  rw[hf] at c2;have HF:Hid (sz f=0↔cmt d=0):=Lib.hid (by
   have h1:=iD d;have h2:=rO f;rw[←hf,List.length_take,hf] at h2
   constructor
   ·intro h;omega
   ·intro h;rw[←hf,h];rfl)
  have HEND:Hid (cmt d=0→sz a+sz c=ANS):=Lib.hid (by
   intro h;rw[←hans,nY (by rw[hd];exact h),hc])
  have HSTEP:Hid (cmt d≠0→sz (a++(c++f))+sz (g.take (btw g))=ANS):=Lib.hid (by
   intro h;have hs:=fW (l:=b) (by rw[hd];exact h);rw[hd] at hs;have e1:b.drop (cnt blk b+cmt d)=g:=by rw[←List.drop_drop,hd,hg]
   rw[e1] at hs;have e2:b.take (btw b)=c++(f++g.take (btw g)):=by
    rw[hs,Nat.add_assoc,List.take_add,hc,hd,List.take_add,hf,hg]
   rw[←hans,e2,sz_app,sz_app,sz_app,sz_app]
   omega)
  have HL:Hid (l=(a++(c++f))++g):=Lib.hid (by rw[hl,hbcd,hdfg];simp);have HSZ:Hid (sz (a++(c++f))=sz a+(sz c+sz f)):=Lib.hid (by rw[sz_app,sz_app]);clear hl hans hc hd hbcd hf hg hdfg HA;go_wp2_with fail;rw[E1.out];refine(c1 _).mono ?_;rintro e w1 ⟨rfl,hb1⟩;go_wp2_with fail;rw[E2.out];refine(c2 _).mono ?_;rintro e w2 ⟨rfl,hb2⟩;have hfin:=(hbw.trans (hb1.mono hbw.size)).trans (hb2.mono (Nat.le_trans hbw.size hb1.size))
  by_cases hz:sz f=0
  ·have hz':((sz f:Nat):Int)=0:=by omega
   have HZ0:=Lib.hid hz
   go_wp2
   go_ret
   exact xI (HEND.out (HF.out.1 HZ0.out)).symm (by have:=HZ0.out;omega) hfin
  ·have hz':(((sz f:Nat):Int)==0)=false:=by rw[beq_eq_false_iff_ne];omega
   have HZ0:=Lib.hid hz;clear hz
   go_wp2
   go_roundw
   case rel=>exact⟨a++(c++f),g,HL.out,by rw[HSZ.out];go_num,hfin,by rw[HSZ.out];omega,HSTEP.out (fun h=>HZ0.out (HF.out.2 h))⟩
   case measure=>have:=HZ0.out;simp[intOf];omega
def wrdL (b:List UInt8):Bool:=(b==[118,97,108])||(b==[116,121,112,101])||(b==[100,97,116,97,116,121,112,101])||(b==[115,116,114,117,99,116,117,114,101])||(b==[115,105,103,110,97,116,117,114,101])||(b==[102,117,110,99,116,111,114])||(b==[111,112,101,110])||(b==[105,110,99,108,117,100,101])||(b==[115,116,114,117,99,116])||(b==[101,110,100])||(b==[115,105,103])||(b==[119,104,101,114,101])||(b==[115,104,97,114,105,110,103])||(b==[102,110])||(b==[108,101,116])||(b==[105,110])||(b==[105,102])||(b==[116,104,101,110])||(b==[101,108,115,101])||(b==[99,97,115,101])||(b==[102,111,108,100])||(b==[111,102])||(b==[116,111])||(b==[105,110,116])||(b==[98,111,111,108])||(b==[117,110,105,116])||(b==[116,114,117,101])||(b==[102,97,108,115,101])||(b==[109,117])
theorem wrd_L (s:ByteArray):wrd s=wrdL s.toList:=by
 have e:∀x:List Nat,(∀r∈x,r<128)→decide (s=T x)=(s.toList==u8 x):=by
  intro x hx;rw[Lib.toList_data,Bool.eq_iff_iff,decide_eq_true_iff,beq_iff_eq,←fU hx];exact⟨fun h=>by rw[h];rfl,fun h=>jK h⟩
 have k:WORDS.any (fun x=>decide (s=T x))=WORDS.any (fun x=>s.toList==u8 x):=by
  have hW:∀x∈WORDS,∀r∈x,r<128:=by decide
  rw[Bool.eq_iff_iff,List.any_eq_true,List.any_eq_true];exact⟨fun⟨x,h1,h2⟩=>⟨x,h1,by rw[←e x (hW x h1)];exact h2⟩,fun⟨x,h1,h2⟩=>⟨x,h1,by rw[e x (hW x h1)];exact h2⟩⟩
 unfold wrd;rw[k];simp only[WORDS,List.any_cons,List.any_nil,Bool.or_false,u8,List.map_cons,List.map_nil,wrdL,Bool.or_assoc]
 rfl
theorem fX (s:ByteArray) (w:World) :
  Calls Tryz.prog 151 #[.string s] w fun e w'=>e = .returned (.bool (wrd s))∧w=w':=by
 rw[wrd_L];obtain⟨ANS,hans⟩:∃b,wrdL s.toList=b:=⟨_,rfl⟩;rw[hans];have HA:=Lib.hid hans;clear hans
 go_enter Tryz.func151,Tryz.ntmps151
 go_wp2
 all_goals first
  | (exfalso;simp_all;done)
  | (go_ret
     refine⟨kN (HA.out.symm.trans ?_),rfl⟩;unfold wrdL;simp only[*,Bool.true_or,Bool.or_true,Bool.or_self])
theorem yL {w:World} {a:Addr} {v:Value} (h:w.cell? a=some v):a.block<w.heap.size:=by
 rcases Nat.lt_or_ge a.block w.heap.size with h' | h'
 ·exact h'
 ·simp[World.cell?,Array.getElem?_eq_none h'] at h
theorem sG {w w':World} {a:Addr} {v:Value} (h:w.cell? a=some v) (hb:Below w.heap.size w w'):w'.cell? a=some v:=(hb.cell (yL h)).trans h
theorem qC {w:World} {g:Nat} {o:Obj} (h:w.heap[g]? = some o):g<w.heap.size:=by
 rcases Nat.lt_or_ge g w.heap.size with h' | h'
 ·exact h'
 ·rw[Array.getElem?_eq_none h'] at h;cases h
theorem qS {w w':World} {g:Nat} {o:Obj} (h:w.heap[g]? = some o) (hb:Below w.heap.size w w'):w'.heap[g]? = some o:=(hb.block g (qC h)).trans h
theorem zZg {w w':World} {name:String} {k:IntKind} {zs:List Int} {g:Nat} (hg:Tryz.prog.globalNamed name=some g) (h:Lib.TabIs Tryz.prog w name k zs) (hb:Below w.heap.size w w'):Lib.TabIs Tryz.prog w' name k zs:=by
 unfold Lib.TabIs World.var? at h ⊢;rw[hg] at h ⊢;simp only[Option.bind_some] at h ⊢
 cases ho:w.heap[g]? with
 | none=>rw[ho] at h;cases h
 | some o=>rw[qS ho hb,←ho];exact h
def sgV:Array Value:=(SIGNS.map fun x=>Value.string (T x)).toArray
def ErrIs (w:World) (g:Nat):Prop:=∃ev,w.cell? ⟨g,0,none⟩=some ev∧(ev = .nilIface∨∃te pe,ev = .iface te pe)
def Lx (w:World):Prop:=
 Lib.Utf8Tabs (Tryz.lays197_ren.g 3) (Tryz.lays197_ren.g 4) w∧Lib.TabIs Tryz.prog w "internal/strconv.uint64pow10" .u64 Lib.pow10Tab∧
 (∃m,w.cell? ⟨4,0,none⟩=some (.int .i64 m))∧ErrIs w 5∧ErrIs w 6∧
 ∃t z,w.heap[1]? = some (.cells sgV t z)
theorem ErrIs.below {w w':World} {g:Nat} (h:ErrIs w g) (hb:Below w.heap.size w w'):ErrIs w' g:=by
 obtain⟨ev,h1,h2⟩:=h;exact⟨ev,sG h1 hb,h2⟩
theorem Lx.below {w w':World} (h:Lx w) (hb:Below w.heap.size w w'):Lx w':=by
 obtain⟨h1,h2,⟨m,h3⟩,h4,h5,t,z,h6⟩:=h;exact⟨Utf8Tabs_below h1 hb,zZg (g:=8) (by kernel_rfl) h2 hb,⟨m,sG h3 hb⟩,h4.below hb,h5.below hb,t,z,qS h6 hb⟩
def tv (t:Tok) (a:Int):Value:=.agg #[.int .i64 t.k,.string (T t.x),.int .i64 t.n,.int .i64 a]
def tv0:Value:=.agg #[.int .i64 0,.string ⟨#[]⟩,.int .i64 0,.int .i64 0]
def gT (l:List Nat) (r:Option (Tok×Nat)) (W:World) (e:Ending) (w':World):Prop:=
 e = .returned (.tuple #[(match r with | none=>tv0 | some (t,_)=>tv t 0),.int .i64 ((match r with | none=>0 | some (_,n)=>sz (l.take n)):Nat)])∧Below W.heap.size W w'
theorem zXe {l:List Nat} {r:Option (Tok×Nat)} {W w':World} (h:r=none) (hb:Below W.heap.size W w'):gT l r W (.returned (.tuple #[.agg #[.int .i64 0,.string ⟨#[]⟩,.int .i64 0,.int .i64 0],.int .i64 0])) w':=by
 subst h;exact⟨rfl,hb⟩
theorem zXf {l:List Nat} {r:Option (Tok×Nat)} {W w':World} {k m z:Int} {x:List Nat} {s:ByteArray} {n:Nat} (h:r=some (⟨k,x,m⟩,n)) (hs:s=T x) (hz:z=(sz (l.take n):Nat)) (hb:Below W.heap.size W w') :
  gT l r W (.returned (.tuple #[.agg #[.int .i64 k,.string s,.int .i64 m,.int .i64 0],.int .i64 z])) w':=by
 subst h;subst hs;subst hz;exact⟨rfl,hb⟩
def sg (k:Nat):List Nat:=SIGNS.getD k []
theorem yXi:∀k:Nat,k<17→∀w:World,(Instr.index 177 (.agg sgV) (.int .i64 (k:Int))).run Tryz.prog w = .ok (.string (T (sg k))) w
 | 0,_,_=>by kernel_rfl
 | 1,_,_=>by kernel_rfl
 | 2,_,_=>by kernel_rfl
 | 3,_,_=>by kernel_rfl
 | 4,_,_=>by kernel_rfl
 | 5,_,_=>by kernel_rfl
 | 6,_,_=>by kernel_rfl
 | 7,_,_=>by kernel_rfl
 | 8,_,_=>by kernel_rfl
 | 9,_,_=>by kernel_rfl
 | 10,_,_=>by kernel_rfl
 | 11,_,_=>by kernel_rfl
 | 12,_,_=>by kernel_rfl
 | 13,_,_=>by kernel_rfl
 | 14,_,_=>by kernel_rfl
 | 15,_,_=>by kernel_rfl
 | 16,_,_=>by kernel_rfl
 | k+17,h,_=>absurd h (by omega)
theorem zVn (k:Nat):∀x∈sg k,x<128:=by
 unfold sg
 by_cases h:k<17
 ·have h':k=0∨k=1∨k=2∨k=3∨k=4∨k=5∨k=6∨k=7∨k=8∨k=9∨k=10∨k=11∨k=12∨k=13∨k=14∨k=15∨k=16:=by omega
  rcases h' with rfl | rfl | rfl | rfl | rfl | rfl | rfl | rfl | rfl | rfl | rfl | rfl | rfl | rfl | rfl | rfl | rfl
  all_goals decide
 ·rw[List.getD_eq_getElem?_getD,List.getElem?_eq_none (by rw[show SIGNS.length=17 from rfl];omega)]
  intro x hx
  cases hx
def noSg (l:List Nat) (k:Nat):Prop:=∀j,j<k→(sg j).isPrefixOf l=false
theorem zCi {α:Type} {f:α→Bool}:∀{l:List α} {k:Nat} {x:α},l[k]? = some x→(∀j y,j<k→l[j]? = some y→f y=false)→f x=true→l.find? f=some x:=by
 intro l
 induction l with
 | nil=>intro k x h;cases h
 | cons a t ih=>
  intro k x h hn hf
  cases k with
  | zero=>simp at h;subst h;rw[List.find?_cons_of_pos hf]
  | succ k=>
   rw[List.find?_cons_of_neg (by rw[hn 0 a (by omega) rfl];simp)];exact ih (by simpa using h) (fun j y hj hy=>hn (j+1) y (by omega) (by simpa using hy)) hf
theorem zSx (k:Nat) (h:k<17):SIGNS[k]? = some (sg k):=by
 unfold sg;rw[List.getD_eq_getElem?_getD,List.getElem?_eq_getElem (show k<SIGNS.length from h)]
 rfl
theorem zJr {l:List Nat} {k:Nat} (h:noSg l k) (hk:k<17) (hp:(sg k).isPrefixOf l=true):signT l=some (⟨3,sg k,0⟩,(sg k).length):=by
 unfold signT;rw[zCi (zSx k hk) (fun j y hj hy=>by rw[zSx j (by omega)] at hy;injection hy with hy;rw[←hy];exact h j hj) hp]
 rfl
theorem zM9 {l:List Nat} (h:noSg l 17):signT l=none:=by
 unfold signT;rw[List.find?_eq_none.2 ?_]
 ·rfl
 ·intro x hx
  obtain⟨k,hk,rfl⟩:=List.getElem_of_mem hx;have h1:=zSx k hk;rw[List.getElem?_eq_getElem hk] at h1;injection h1 with h1;rw[h1,h k hk]
  simp
theorem zJs {x l:List Nat} (h:x.isPrefixOf l=true):l.take x.length=x:=(List.prefix_iff_eq_take.1 (List.isPrefixOf_iff_prefix.1 h)).symm
theorem zJt (l:List Nat) (ho:okl l) (w:World) (hL:Lx w) :
  Calls Tryz.prog 97 #[.string (T l)] w (gT l (signT l) w):=by
 obtain⟨t,z,hsg⟩:=hL.2.2.2.2.2;obtain⟨S,hS⟩:∃S,T l=S:=⟨_,rfl⟩;have HS:=Lib.hid hS;rw[hS];clear hS
 go_enter Tryz.func97,Tryz.ntmps97
 go_wp2_with (refine wpList_load_row rfl 177 (.global 1) rfl 1 rfl t sgV z _ (Below.heap_alloc w _ _ (qC hsg)▸hsg) Tryz.underlying177 rfl (by kernel_rfl) ?_)
 generalize hA:sgV=AR
 have HAR:=Lib.hid hA;clear hA hsg
 go_loop [5,7] (fun _ i=>∃k:Nat,k≤17∧i = .int .i64 k∧noSg l k) (fun _ i=>17-(intOf i).toNat)
 case atStart=>exact⟨0,Nat.zero_le _,rfl,fun j hj=>absurd hj (Nat.not_lt_zero _)⟩
 case round=>
  obtain⟨k,hk,rfl,hno⟩:=hrel;have HNO:=Lib.hid hno;clear hno
  by_cases hlt:k<17
  ·obtain⟨b,hb⟩:∃b,(sg k).isPrefixOf l=b:=⟨_,rfl⟩
   have hp:Lib.hasPrefix S.data.toList (T (sg k)).data.toList=b:=by
    rw[←HS.out,yX,yX,fU (zVn k),zP7 (zVn k) ho,hb]
   have hszT:((T (sg k)).size:Int)=(sz (l.take (sg k).length):Nat)∨b=false:=by
    cases b with
    | false=>exact .inr rfl
    | true=>exact .inl (by rw[qO,zJs hb])
   have cH:=fun W=>zXd hp W
   have hix:∀W,(Instr.index 177 (.agg AR) (.int .i64 (k:Int))).run Tryz.prog W = .ok (.string (T (sg k))) W:=fun W=>by rw[←HAR.out];exact yXi k hlt W
   obtain⟨X,hX⟩:∃X,T (sg k)=X:=⟨_,rfl⟩;rw[hX] at hszT hix cH;have HX:=Lib.hid hX;have HB:=Lib.hid hb;have HSZ:=Lib.hid hszT;clear hX hb hp hszT
   cases b
   ·go_wp2_with (go_at_call 96;refine(cH _).mono ?_;rintro e w' ⟨rfl,rfl⟩)
    go_round
    case rel=>exact⟨k+1,by omega,by go_num,fun j hj=>by
     rcases Nat.lt_or_ge j k with h | h
     ·exact HNO.out j h
     ·rw[show j=k by omega];exact HB.out⟩
    case measure=>simp[intOf];omega
   ·go_wp2_with (go_at_call 96;refine(cH _).mono ?_;rintro e w' ⟨rfl,rfl⟩)
    refine bodyPost_ret (v:=.tuple #[.agg #[.int .i64 3,.string X,.int .i64 0,.int .i64 0],.int .i64 (X.size:Int)]) (by simp[results,Tryz.results97,go_sem]) rfl ?_;refine zXf (zJr HNO.out hlt HB.out) HX.out.symm (HSZ.out.resolve_right (by simp)) ?_;exact(Below.refl _ _).alloc (Nat.le_refl _) _
  ·have hk17:k=17:=by omega
   subst hk17
   go_wp2
   refine bodyPost_ret (v:=.tuple #[.agg #[.int .i64 0,.string ⟨#[]⟩,.int .i64 0,.int .i64 0],.int .i64 0]) (by simp[results,Tryz.results97,go_sem]) rfl ?_;refine zXe (zM9 HNO.out) ?_;exact(Below.refl _ _).alloc (Nat.le_refl _) _
end Go.Proofs.YtbpijnalmakfaaaGreatDoor.B
namespace Go.Proofs.YtbpijnalmakfaaaGreatDoor.B
open Go.Lib
theorem fY (u:Nat):∀b∈decDigits u,48≤b.toNat∧b.toNat≤57:=by
 induction u using Nat.strongRecOn with
 | _ u ih=>
  intro b hb;rw[decDigits] at hb
  split at hb
  ·simp only[List.mem_singleton] at hb
   rw[hb,u8n _ (by omega)];omega
  ·rw[List.mem_append] at hb
   rcases hb with hb | hb
   ·exact ih (u / 10) (by omega) b hb
   ·simp only[List.mem_singleton] at hb
    rw[hb,u8n _ (by omega)];omega
theorem jE (u:Nat):∀r∈dgs u,48≤r∧r≤57:=by
 intro r hr;obtain⟨b,hb,rfl⟩:=List.mem_map.1 hr;exact fY u b hb
theorem zJu (l:List UInt8):u8 (l.map UInt8.toNat)=l:=by
 unfold u8;rw[List.map_map]
 conv=>rhs;rw[←List.map_id l]
 refine List.map_congr_left fun b _=>?_
 simp
theorem zPc (u:Nat):enc (dgs u)=decDigits u:=by
 rw[fU (fun r hr=>by have:=jE u r hr;omega)];exact zJu _
theorem sH (n:Int):∀r∈numb n,r<128:=by
 intro r hr;unfold numb at hr
 split at hr
 ·rcases List.mem_cons.1 hr with rfl | hr
  ·omega
  ·have:=jE _ r hr;omega
 ·have:=jE _ r hr;omega
theorem zJv (n:Int):enc (numb n)=if n<0 then 126::decDigits n.natAbs else decDigits n.toNat:=by
 unfold numb
 split
 ·show en 126++enc (dgs _)=_
  rw[zPc]
  rfl
 ·exact zPc _
theorem no45 {d:List UInt8} (h:∀b∈d,48≤b.toNat∧b.toNat≤57):index d [45] = -1:=by
 rw[index_one]
 induction d with
 | nil=>rfl
 | cons b t ih=>
  have hb:=h b (by simp);have hne:(b==45)=false:=by
   rw[beq_eq_false_iff_ne];rintro rfl;exact absurd hb (by decide)
  unfold indexByte;rw[hne,ih (fun x hx=>h x (by simp[hx]))]
  rfl
theorem zXg {d:List UInt8} (h:∀b∈d,48≤b.toNat∧b.toNat≤57):count d [45]=0:=count_miss (no45 h)
theorem zPd (d:List UInt8):index (45::d) [45]=0:=by
 unfold index
 simp
theorem zVo {d:List UInt8} (h:∀b∈d,48≤b.toNat∧b.toNat≤57):count (45::d) [45]=1:=by
 rw[count_hit (i:=0) (by simp) (zPd d)]
 show 1+count d [45]=1
 rw[zXg h]
theorem zCj {d:List UInt8} (h:∀b∈d,48≤b.toNat∧b.toNat≤57):replace d [45] [126] 1=d:=by
 have e:replaceNum d [45] 1=0:=by
  unfold replaceNum;rw[zXg h]
  rfl
 unfold replace;rw[e]
 rfl
theorem zCk {d:List UInt8} (h:∀b∈d,48≤b.toNat∧b.toNat≤57):replace (45::d) [45] [126] 1=126::d:=by
 have e:replaceNum (45::d) [45] 1=1:=by
  unfold replaceNum;rw[zVo h]
  rfl
 unfold replace;rw[e,if_neg (by decide),replaceK_hit _ _ _ _ 0 (zPd d)]
 rfl
theorem zJw (n:Int):replace (itoa n) [45] [126] 1=enc (numb n):=by
 rw[zJv];unfold itoa
 split
 ·exact zCk (fY _)
 ·exact zCj (fY _)
theorem zSy (n:Int):count (itoa n) [45]≤1:=by
 unfold itoa
 split
 ·rw[zVo (fY _)];exact Nat.le_refl _
 ·rw[zXg (fY _)];omega
def digs (d:List Nat):Prop:=∀r∈d,48≤r∧r≤57
theorem mV (r:Nat):dig r=true↔48≤r∧r≤57:=by
 unfold dig;rw[decide_eq_true_iff];unfold cls
 repeat' split
 all_goals omega
theorem mW {f:Nat→Bool} (l:List Nat):∀r∈l.take (cnt f l),f r=true:=by
 induction l with
 | nil=>intro r h;simp at h
 | cons x t ih=>
  intro r h;unfold cnt at h
  split at h
  ·rename_i hx
   rw[List.take_succ_cons] at h
   rcases List.mem_cons.1 h with rfl | h
   ·exact hx
   ·exact ih r h
  ·simp at h
theorem zZh (l:List Nat):digs (l.take (cnt dig l)):=fun r hr=>(mV r).1 (mW l r hr)
theorem sI {d:List Nat} (h:digs d):∀r∈d,r<128:=fun r hr=>by have:=h r hr;omega
theorem zSz:∀(d:List Nat) (a:Nat),a≤val a d
 | [],a=>Nat.le_refl _
 | r::t,a=>by
  have:=zSz t (10*a+(r-48))
  show a≤val (10*a+(r-48)) t
  omega
theorem zZi:∀(d:List Nat) (a:Nat),digs d→a<18446744073709551616→parseUint10 a (u8 d)=if val a d<18446744073709551616 then .ok (val a d) else .range
 | [],a,_,h=>by
  show _=if a<_ then NumEnd.ok a else _
  rw[if_pos h]
  rfl
 | r::t,a,hd,h=>by
  have hr:=hd r (by simp);have ht:digs t:=fun x hx=>hd x (by simp[hx])
  have hge:=zSz t (10*a+(r-48))
  show parseUint10 a (UInt8.ofNat r::u8 t)=if val (10*a+(r-48)) t<_ then _ else _
  unfold parseUint10;rw[u8n r (by omega),if_pos ⟨hr.1,hr.2⟩]
  by_cases h1:1844674407370955162≤a
  ·rw[if_pos h1,if_neg (by omega)]
  ·rw[if_neg h1]
   by_cases h2:18446744073709551616≤a*10+(r-48)
   ·rw[if_pos h2,if_neg (by omega)]
   ·rw[if_neg h2,Nat.mul_comm a 10]
    exact zZi t _ ht (by omega)
theorem zZj {d:List Nat} (h:digs d) (hne:d≠[]):atoiAll (enc d)=if val 0 d<9223372036854775808 then .ok (val 0 d:Int) else .range:=by
 rw[fU (sI h)]
 cases d with
 | nil=>exact absurd rfl hne
 | cons r t=>
  have hr:=h r (by simp)
  show atoiAll (UInt8.ofNat r::u8 t)=_
  unfold atoiAll;simp only;rw[u8n r (by omega),if_neg (by omega)];have e:parseMag (UInt8.ofNat r::u8 t)=if val 0 (r::t)<18446744073709551616 then .ok (val 0 (r::t)) else .range:=by
   unfold parseMag;rw[if_neg (by simp)];exact zZi (r::t) 0 h (by omega)
  rw[e]
  by_cases h1:val 0 (r::t)<18446744073709551616
  ·rw[if_pos h1]
   simp only
   by_cases h2:val 0 (r::t)<9223372036854775808
   ·rw[if_neg (by omega),if_neg (by omega),if_neg (by omega),if_pos h2]
   ·rw[if_pos ⟨by omega,by omega⟩,if_neg h2]
  ·rw[if_neg h1,if_neg (by omega)]
theorem zCl (d:List Nat):trimPrefix (enc (126::d)) [126]=enc d:=by
 unfold trimPrefix;have e:enc (126::d)=126::enc d:=by
  show en 126++enc d=_
  rw[(kD (r:=126) (by omega)).2]
  rfl
 rw[e,if_pos (by simp[hasPrefix])]
 rfl
theorem zCm {l:List Nat} (ho:okl l) (h:∀d,l≠126::d):trimPrefix (enc l) [126]=enc l:=by
 unfold trimPrefix;have e:hasPrefix (enc l) [126]=List.isPrefixOf [126] l:=zP7 (p:=[126]) (by decide) ho;rw[e,if_neg];intro hp;obtain⟨d,hd⟩:=List.isPrefixOf_iff_prefix.1 hp;exact h d (by rw[←hd];rfl)
end Go.Proofs.YtbpijnalmakfaaaGreatDoor.B
namespace Go.Proofs.YtbpijnalmakfaaaGreatDoor.B
open Go.RowKit
def aL (s:ByteArray) (W:World) (e:Ending) (w':World):Prop:=e = .returned (.string s)∧Below W.heap.size W w'
theorem zJx (n:Int) (h0 : -9223372036854775808≤n) (h1:n≤9223372036854775807) (w:World) (hL:Lx w) :
  Calls Tryz.prog 135 #[.int .i64 n] w (aL ⟨(Lib.itoa n).toArray⟩ w):=
 (Tryz.strconv_Itoa n h0 h1 w hL.2.1).mono fun _ _ ⟨he,k,os,hw⟩=>⟨he,by rw[hw];exact Lib.below_grow _ _ (Nat.le_refl _) k os⟩
theorem yXj {l:List UInt8} {r:List Nat} (h:l=enc r):(⟨l.toArray⟩:ByteArray)=T r:=by rw[h];rfl
theorem zVp (n:Int) (h0 : -9223372036854775808≤n) (h1:n≤9223372036854775807) (w:World) (hL:Lx w) :
  Calls Tryz.prog 134 #[.string ⟨(Lib.itoa n).toArray⟩,.string ⟨#[45]⟩,.string ⟨#[126]⟩,.int .i64 1] w (aL (T (numb n)) w):=by
 obtain⟨m,hm⟩:=hL.2.2.1;have hl:=Lib.itoa_length_le n h0 h1;have hc:=zSy n;have hsz:(ByteArray.mk (Lib.itoa n).toArray).size=(Lib.itoa n).length:=by rw[Lib.size_eq]
 have hc':Lib.countB ⟨(Lib.itoa n).toArray⟩ ⟨#[45]⟩≤1:=hc;refine(Tryz.strings_Replace ⟨(Lib.itoa n).toArray⟩ ⟨#[45]⟩ ⟨#[126]⟩ 1 m w (by rw[hsz];omega) hm (by decide) ?_).mono fun _ _ ⟨he,hb⟩=>⟨?_,hb⟩
 ·rw[hsz,show(ByteArray.mk #[126]).size=1 from rfl]
  omega
 ·rw[he]
  exact congrArg (fun x=>Ending.returned (.string x)) (yXj (zJw n))
theorem sJ (n:Int) (h0 : -9223372036854775808≤n) (h1:n≤9223372036854775807) (w:World) (hL:Lx w) :
  Calls Tryz.prog 71 #[.int .i64 n] w (aL (T (numb n)) w):=by
 have c1:=zJx n h0 h1 w hL;have c2:=fun W (hL:Lx W)=>zVp n h0 h1 W hL
 obtain⟨X,hX⟩:∃X,X=T (numb n):=⟨_,rfl⟩;obtain⟨Y,hY⟩:∃Y:ByteArray,Y=⟨(Lib.itoa n).toArray⟩:=⟨_,rfl⟩;rw[←hX] at c2 ⊢;rw[←hY] at c1 c2;have C2:=Lib.hid c2;clear hX hY c2
 go_enter Tryz.func71,Tryz.ntmps71
 go_wp2_with fail;refine c1.mono ?_;rintro e w1 ⟨rfl,hb1⟩;go_wp2_with fail;refine(C2.out w1 (hL.below hb1)).mono ?_;rintro e w2 ⟨rfl,hb2⟩;have hfin:=chn hb1 hb2
 go_wp2
 go_ret
 exact⟨rfl,hfin⟩
theorem zCn {d:List Nat} (h:digs d) (hne:d≠[]) (hv:val 0 d<9223372036854775808) (hsz:sz d≤1000000000) (w:World) :
  Calls Tryz.prog 155 #[.string (T d)] w fun e w'=>e = .returned (.tuple #[.int .i64 (val 0 d:Nat),.nilIface])∧Below w.heap.size w w':=by
 refine(Tryz.strconv_Atoi_ok (T d) (by rw[qO];omega) (val 0 d:Nat) (by rw[yX,zZj h hne,if_pos hv]) w).mono fun _ _ ⟨he,hw⟩=>⟨he,?_⟩
 rcases hw with hw | ⟨t,hw⟩
 ·rw[hw];exact Below.refl _ _
 ·rw[hw];exact Lib.bytesWorld_below _ _ _
def yXk (W:World) (e:Ending) (w':World):Prop:=∃(z:Int) (t:TypeId) (p:Value),e = .returned (.tuple #[.int .i64 z,.iface t p])∧Below W.heap.size W w'
theorem zCo {d:List Nat} (h:digs d) (hv:d=[]∨¬val 0 d<9223372036854775808) (hsz:sz d≤1000000000) (w:World) (hL:Lx w) :
  Calls Tryz.prog 155 #[.string (T d)] w (yXk w):=by
 by_cases hd:d=[]
 ·subst hd
  obtain⟨ev,h1,h2⟩:=hL.2.2.2.1;exact(Tryz.strconv_Atoi_err (T []) (by decide) rfl ev w h1 h2).mono fun _ _ ⟨N,he,_,_,hb⟩=>⟨_,_,_,he,hb⟩
 ·obtain⟨ev,h1,h2⟩:=hL.2.2.2.2.1
  refine(Tryz.strconv_Atoi_range (T d) (by rw[qO];omega) (by rw[yX,zZj h hd,if_neg (hv.resolve_left hd)]) ev w h1 h2).mono fun _ _ ⟨N,he,_,_,hb⟩=>⟨_,_,_,he,hb⟩
theorem qQ {P:Program} {fn:Func} {p q:Tmp} {ty:TypeId} (h:fn.results=#[.cell p ty,.tmp q]) (tmps:Array Value) (w:World) (g:Nat) (t:TypeId) (cs:Array Value) (fr:Nat×Nat) (d:TypeDesc)
  (hp:tmps.getD p undef = .pointer (some ⟨g,0,none⟩)) (hg:w.heap[g]? = some (.cells cs t fr))
  (hu:P.underlying ty=some d) (hd:(match d with | .struct _ | .array _ _=>true | _=>false)=true) (hi:(P.info? ty).map (·.size)=some cs.size) :
  (results fn tmps).run P w = .ok (.tuple #[.agg cs,tmps.getD q undef]) w:=by
 have hp':tmps[p]?.getD undef = .pointer (some ⟨g,0,none⟩):=by simpa using hp
 simp[results,h,hp',asAddr,run_loadVar_row w g t ty cs fr d hg hu hd hi]
def Rc (w:World) (B:Nat) (cs:Array Value):Prop:=w.heap[B]? = some (.cells cs 53 (0,0))
theorem Rc.below {w w':World} {B:Nat} {cs:Array Value} (h:Rc w B cs) (hb:Below w.heap.size w w'):Rc w' B cs:=qS h hb
theorem Rc.cells {w:World} {B:Nat} {a b c d:Value} (h:Rc w B #[a,b,c,d]) :
  (w.cell? ⟨B,0,none⟩=some a∧w.cell? ⟨B,1,none⟩=some b∧w.cell? ⟨B,2,none⟩=some c∧w.cell? ⟨B,3,none⟩=some d)∧
  (w.frozen? ⟨B,0,none⟩=false∧w.frozen? ⟨B,1,none⟩=false∧w.frozen? ⟨B,2,none⟩=false∧w.frozen? ⟨B,3,none⟩=false):=
 ⟨⟨cell_of_row w B 0 _ _ _ h,cell_of_row w B 1 _ _ _ h,cell_of_row w B 2 _ _ _ h,cell_of_row w B 3 _ _ _ h⟩,⟨frozen_of_row w B 0 _ _ h,frozen_of_row w B 1 _ _ h,frozen_of_row w B 2 _ _ h,frozen_of_row w B 3 _ _ h⟩⟩
theorem Rc.st {w:World} {B:Nat} {cs:Array Value} (h:Rc w B cs) (i:Nat) (u:Value):Rc (w.setCell ⟨B,i,none⟩ u) B (cs.setIfInBounds i u):=by
 unfold Rc at h ⊢
 simp[World.setCell,Array.getElem?_modify,h]
def four (w:World) (B:Nat) (x y z u:Value):World:=(((w.setCell ⟨B,0,none⟩ x).setCell ⟨B,1,none⟩ y).setCell ⟨B,2,none⟩ z).setCell ⟨B,3,none⟩ u
theorem Rc.four {w:World} {B:Nat} {a b c d:Value} (h:Rc w B #[a,b,c,d]) (x y z u:Value):Rc (four w B x y z u) B #[x,y,z,u]:=(((h.st 0 x).st 1 y).st 2 z).st 3 u
theorem qJ {B g:Nat} {w w':World} (h:Below B w w') (hg:B≤g) (x y z u:Value):Below B w (four w' g x y z u):=(((h.setCell hg _).setCell hg _).setCell hg _).setCell hg _
theorem Rc.new_ (w:World):Rc (w.alloc (.cells #[.int .i64 0,.string ⟨#[]⟩,.int .i64 0,.int .i64 0] 53)) w.heap.size #[.int .i64 0,.string ⟨#[]⟩,.int .i64 0,.int .i64 0]:=heap_alloc_new w _
def tH (d:List Nat) (b:Nat) (W:World) (e:Ending) (w':World):Prop:=
 e = .returned (.tuple #[(match digT (decide (b=1)) d with | none=>tv0 | some (t,_)=>tv t 0),.int .i64 ((match digT (decide (b=1)) d with | none=>0 | some _=>b+cnt dig d):Nat)])∧Below W.heap.size W w'
theorem iF {d:List Nat} {b:Nat} {W w':World} (h:digT (decide (b=1)) d=none) (hb:Below W.heap.size W w'):tH d b W (.returned (.tuple #[.agg #[.int .i64 0,.string ⟨#[]⟩,.int .i64 0,.int .i64 0],.int .i64 0])) w':=by
 unfold tH;rw[h];exact⟨rfl,hb⟩
theorem zVq {d:List Nat} {b:Nat} {W w':World} {v z:Int} {s:ByteArray} {t:Tok×Nat} (h:digT (decide (b=1)) d=some t) (h1:t.1=⟨2,numb v,v⟩) (hs:s=T (numb v)) (hz:z=(b+cnt dig d:Nat)) (hb:Below W.heap.size W w') :
  tH d b W (.returned (.tuple #[.agg #[.int .i64 2,.string s,.int .i64 v,.int .i64 0],.int .i64 z])) w':=by
 unfold tH;rw[h,hs,hz];obtain⟨t1,t2⟩:=t;simp only at h1;subst h1;exact⟨rfl,hb⟩
theorem rP {b:Bool} {d:List Nat} (h:cnt inr (d.drop (cnt dig d))≠0):digT b d=none:=by
 unfold digT;rw[if_pos (by omega)]
theorem fZ {b:Bool} {d:List Nat} (h:cnt dig d=0):digT b d=none:=by
 unfold digT
 by_cases h1:cnt inr (d.drop (cnt dig d)) > 0
 ·rw[if_pos h1]
 ·rw[if_neg h1,if_pos h]
theorem rQ {b:Bool} {d:List Nat} (h:1073741824<val 0 (d.take (cnt dig d))):digT b d=none:=by
 unfold digT
 by_cases h1:cnt inr (d.drop (cnt dig d)) > 0
 ·rw[if_pos h1]
 ·rw[if_neg h1]
  by_cases h2:cnt dig d=0
  ·rw[if_pos h2]
  ·rw[if_neg h2,if_pos h]
theorem gB {b:Bool} {d:List Nat} {v:Int} (h1:cnt inr (d.drop (cnt dig d))=0) (h2:cnt dig d≠0) (h3:val 0 (d.take (cnt dig d))≤1073741824) (hv:v=if b then -(val 0 (d.take (cnt dig d)):Int) else (val 0 (d.take (cnt dig d)):Int)) :
  ∃n,digT b d=some (⟨2,numb v,v⟩,n):=by
 unfold digT;rw[if_neg (by omega),if_neg h2,if_neg (by omega),hv]
 cases b
 ·exact⟨_,rfl⟩
 ·exact⟨_,rfl⟩
theorem zZk (S:ByteArray) (d:List Nat) (b:Nat) (hb:b≤1) (ho:okl d) (hsz:sz d≤100000000) (hS:S.size=b+sz d) (w:World) (hL:Lx w)
  (cT:∀W,Calls Tryz.prog 153 #[.string S,.string ⟨#[126]⟩] W fun e w'=>e = .returned (.string (T d))∧W=w') :
  Calls Tryz.prog 95 #[.string S] w (tH d b w):=by
 obtain⟨k,hk⟩:∃k,cnt dig d=k:=⟨_,rfl⟩;have hkl:=kZ dig d;have hdg:=zZh d;rw[hk] at hkl hdg;have hsk:sz (d.take k)=k:=by rw[fV (sI hdg),List.length_take];omega
 have hdk:d=d.take k++d.drop k:=(List.take_append_drop _ _).symm;have hszk:k≤sz d:=by have:=rO d;omega
 have E1:Hid ((T d).extract k (T d).size=T (d.drop k)):=Lib.hid (by
  have:=tG (d.take k) (d.drop k);rw[hsk,←hdk] at this;rw[qO];exact this)
 have E2:Hid ((T d).extract 0 k=T (d.take k)):=Lib.hid (by
  have:=zJm (d.take k) (d.drop k);rw[hsk,←hdk] at this;exact this)
 have c1:=fun W=>zVl (T d) W
 rw[zVf dig ho,hk,hsk] at c1;have c2:=fun W=>sF (T (d.drop k)) W
 rw[zVf inr (mT ho k)] at c2;have HK:=Lib.hid hk;have hTs:(T d).size=sz d:=qO d;obtain⟨j,hj⟩:∃j,sz ((d.drop k).take (cnt inr (d.drop k)))=j:=⟨_,rfl⟩;have HJ:Hid (j=0↔cnt inr (d.drop k)=0):=Lib.hid (by
  have h1:=rO ((d.drop k).take (cnt inr (d.drop k)));have h2:=kZ inr (d.drop k);rw[List.length_take] at h1
  constructor
  ·intro h;omega
  ·intro h;rw[←hj,h];rfl)
 have hjl:j≤100000000:=by
  have h1:sz d=sz (d.take k)+sz (d.drop k):=by rw[←sz_app,←hdk]
  have h2:sz (d.drop k)=sz ((d.drop k).take (cnt inr (d.drop k)))+sz ((d.drop k).drop (cnt inr (d.drop k))):=by rw[←sz_app,List.take_append_drop]
  omega
 rw[hj] at c2;clear hj hk hdk hsk;obtain⟨D,hD⟩:∃D,T d=D:=⟨_,rfl⟩;rw[hD] at cT c1 hTs E1 E2;have HD:=Lib.hid hD;have hTs1:D.size≤sz d:=by omega
 have hTs2:sz d≤D.size:=by omega
 have hS1:S.size≤b+D.size:=by omega
 have hS2:b+D.size≤S.size:=by omega
 clear hD hTs hS
 by_cases hj0:j=0
 ·have HJ0:=Lib.hid (HJ.out.1 hj0)
  have hj0':¬(0:Int)<(j:Int):=by omega
  clear hj0
  go_enter Tryz.func95,Tryz.ntmps95
  go_wp2_with fail;refine(cT _).mono ?_;rintro e w' ⟨rfl,rfl⟩;go_wp2_with fail;refine(c1 _).mono ?_;rintro e w1 ⟨rfl,hb1⟩;go_wp2_with fail;rw[E1.out];refine(c2 _).mono ?_;rintro e w2 ⟨rfl,hb2⟩;have hr2:=((Rc.new_ w).below hb1).below hb2;have hb3:=((Below.refl _ _).alloc (Nat.le_refl _) _).trans ((hb1.mono (by simp)).trans (hb2.mono (by have:=hb1.size;simp at this;omega)));have HR2:=Lib.hid hr2;clear hr2
  by_cases hval:k≠0∧val 0 (d.take k)<9223372036854775808
  ·obtain⟨v,hv⟩:∃v,val 0 (d.take k)=v:=⟨_,rfl⟩
   have hsk1:sz (d.take k)≤1000000000:=by
    have h1:sz d=sz (d.take k)+sz (d.drop k):=by rw[←sz_app,List.take_append_drop]
    omega
   have hne:d.take k≠[]:=fun h=>hval.1 (by have:=congrArg List.length h;rw[List.length_take] at this;simp only[List.length_nil] at this;omega)
   have c3:=fun W=>zCn (d:=d.take k) hdg hne hval.2 hsk1 W
   clear hsk1 hne;rw[hv] at c3 hval;have HV:=Lib.hid hv;have hv63:=hval.2;have HK0:=Lib.hid hval.1;clear hv hval;go_wp2_with fail;rw[E2.out];refine(c3 _).mono ?_;rintro e w3 ⟨rfl,hb3'⟩;have hr3:=HR2.out.below hb3';have hb4:=hb3.trans (hb3'.mono hb3.size);obtain⟨⟨q0,q1,q2,q3⟩,f0,f1,f2,f3⟩:=hr3.cells;have HR:=Lib.hid hr3;clear hr3
   by_cases hbig:1073741824<v
   ·have hbig':(1073741824:Int)<(v:Int):=by omega
    go_wp2
    refine bodyPost_ret (qQ rfl _ _ w.heap.size _ _ (0,0) _ rfl (Rc.four HR.out _ _ _ _) Tryz.underlying53 rfl (by kernel_rfl)) rfl ?_;exact iF (rQ (by rw[HK.out,HV.out];exact hbig)) (qJ hb4 (Nat.le_refl _) _ _ _ _)
   ·have hbig':¬(1073741824:Int)<(v:Int):=by omega
    clear q0 q1 q2 q3 f0 f1 f2 f3
    rcases(show b=0∨b=1 by omega) with rfl | rfl
    ·have hdif:(S.size:Int)-(D.size:Int)=0:=by omega
     have cN:=fun W hL=>sJ ((v:Int)) (by omega) (by omega) W hL
     obtain⟨X,hX⟩:∃X,T (numb ((v:Int)))=X:=⟨_,rfl⟩;rw[hX] at cN;have HX:=Lib.hid hX;have CN:=Lib.hid cN;clear cN hX;go_wp2_with fail;refine(CN.out w3 (hL.below hb4)).mono ?_;rintro e w4 ⟨rfl,hb5⟩;have hr4:=HR.out.below hb5;have hb6:=hb4.trans (hb5.mono hb4.size);obtain⟨⟨q0,q1,q2,q3⟩,f0,f1,f2,f3⟩:=hr4.cells;have HR4:=Lib.hid hr4;clear hr4
     go_wp2
     refine bodyPost_ret (qQ rfl _ _ w.heap.size _ _ (0,0) _ rfl (Rc.four HR4.out _ _ _ _) Tryz.underlying53 rfl (by kernel_rfl)) rfl ?_;obtain⟨n,hn⟩:=gB (b:=decide (0=1)) (v:=(v:Int)) (by rw[HK.out];exact HJ0.out) (by rw[HK.out];exact HK0.out) (by rw[HK.out,HV.out];omega) (by rw[HK.out,HV.out];rfl);exact zVq hn rfl HX.out.symm (by rw[HK.out];first | rfl | omega | go_num) (qJ hb6 (Nat.le_refl _) _ _ _ _)
    ·have hdif:(S.size:Int)-(D.size:Int)=1:=by omega
     have cN:=fun W hL=>sJ (-(v:Int)) (by omega) (by omega) W hL
     obtain⟨X,hX⟩:∃X,T (numb (-(v:Int)))=X:=⟨_,rfl⟩;rw[hX] at cN;have HX:=Lib.hid hX;have CN:=Lib.hid cN;clear cN hX;go_wp2_with fail;refine(CN.out w3 (hL.below hb4)).mono ?_;rintro e w4 ⟨rfl,hb5⟩;have hr4:=HR.out.below hb5;have hb6:=hb4.trans (hb5.mono hb4.size);obtain⟨⟨q0,q1,q2,q3⟩,f0,f1,f2,f3⟩:=hr4.cells;have HR4:=Lib.hid hr4;clear hr4
     go_wp2
     refine bodyPost_ret (qQ rfl _ _ w.heap.size _ _ (0,0) _ rfl (Rc.four HR4.out _ _ _ _) Tryz.underlying53 rfl (by kernel_rfl)) rfl ?_;obtain⟨n,hn⟩:=gB (b:=decide (1=1)) (v:=-(v:Int)) (by rw[HK.out];exact HJ0.out) (by rw[HK.out];exact HK0.out) (by rw[HK.out,HV.out];omega) (by rw[HK.out,HV.out];rfl);exact zVq hn rfl HX.out.symm (by rw[HK.out];first | rfl | omega | go_num) (qJ hb6 (Nat.le_refl _) _ _ _ _)
  ·have hsk1:sz (d.take k)≤1000000000:=by
    have h1:sz d=sz (d.take k)+sz (d.drop k):=by rw[←sz_app,List.take_append_drop]
    omega
   have c3:=fun W hL=>zCo (d:=d.take k) hdg (by
    by_cases h:k=0
    ·left;rw[h];rfl
    ·right;exact fun hv=>hval ⟨h,hv⟩) hsk1 W hL
   have C3:=Lib.hid c3;have HV:Hid (k=0∨1073741824<val 0 (d.take k)):=Lib.hid (by omega);clear hsk1 hval c3;go_wp2_with fail;rw[E2.out];refine(C3.out w2 (hL.below hb3)).mono ?_;rintro e w3 ⟨z,ty,p,rfl,hb3'⟩;have hr3:=HR2.out.below hb3';have hb4:=hb3.trans (hb3'.mono hb3.size);obtain⟨⟨q0,q1,q2,q3⟩,f0,f1,f2,f3⟩:=hr3.cells;have HR:=Lib.hid hr3;clear hr3
   go_wp2
   refine bodyPost_ret (qQ rfl _ _ w.heap.size _ _ (0,0) _ rfl (Rc.four HR.out _ _ _ _) Tryz.underlying53 rfl (by kernel_rfl)) rfl ?_;refine iF ?_ (qJ hb4 (Nat.le_refl _) _ _ _ _)
   rcases HV.out with h | h
   ·exact fZ (by rw[HK.out];exact h)
   ·exact rQ (by rw[HK.out];exact h)
 ·have HJ0:=Lib.hid (fun h=>hj0 (HJ.out.2 h))
  have hj0':(0:Int)<(j:Int):=by omega
  clear hj0
  go_enter Tryz.func95,Tryz.ntmps95
  go_wp2_with fail;refine(cT _).mono ?_;rintro e w' ⟨rfl,rfl⟩;go_wp2_with fail;refine(c1 _).mono ?_;rintro e w1 ⟨rfl,hb1⟩;go_wp2_with fail;rw[E1.out];refine(c2 _).mono ?_;rintro e w2 ⟨rfl,hb2⟩;have hr2:=((Rc.new_ w).below hb1).below hb2;have hb3:=((Below.refl _ _).alloc (Nat.le_refl _) _).trans ((hb1.mono (by simp)).trans (hb2.mono (by have:=hb1.size;simp at this;omega)));obtain⟨⟨q0,q1,q2,q3⟩,f0,f1,f2,f3⟩:=hr2.cells;have HR:=Lib.hid hr2;clear hr2
  go_wp2
  refine bodyPost_ret (qQ rfl _ _ w.heap.size _ _ (0,0) _ rfl (Rc.four HR.out _ _ _ _) Tryz.underlying53 rfl (by kernel_rfl)) rfl ?_;exact iF (rP (by rw[HK.out];exact HJ0.out)) (qJ hb3 (Nat.le_refl _) _ _ _ _)
theorem rR {b:Bool} {d:List Nat} {t:Tok} {n:Nat} (h:digT b d=some (t,n)):n=(if b then 1 else 0)+cnt dig d:=by
 unfold digT at h
 split at h
 ·cases h
 split at h
 ·cases h
 split at h
 ·cases h
 ·cases b
  ·simp at h;simp;omega
  ·simp at h;simp;omega
theorem bM (d:List Nat):sz (d.take (cnt dig d))=cnt dig d:=by
 have:=kZ dig d;rw[fV (sI (zZh d)),List.length_take];omega
theorem zR0 (d:List Nat):numT (126::d)=digT true d:=rfl
theorem iG {l:List Nat} (h:∀d,l≠126::d):numT l=digT false l:=by
 unfold numT
 split
 ·rename_i d;exact absurd rfl (h d)
 ·rfl
theorem xY (l:List Nat) (ho:okl l) (hsz:sz l≤100000000) (w:World) (hL:Lx w) :
  Calls Tryz.prog 95 #[.string (T l)] w (gT l (numT l) w):=by
 by_cases h:∃d,l=126::d
 ·obtain⟨d,rfl⟩:=h
  have h1:sz (126::d)=1+sz d:=by rw[zO,(kD (r:=126) (by omega)).1]
  have hd:=(kY.1 ho).2;refine(zZk (T (126::d)) d 1 (by omega) hd (by omega) (by rw[qO,h1]) w hL fun W=>(Tryz.strings_TrimPrefix _ _ W).mono fun _ _ k=>⟨?_,k.2.symm⟩).mono fun e w' k=>?_
  ·rw[k.1,yX]
   exact congrArg (fun x=>Ending.returned (.string x)) (yXj (zCl d))
  ·obtain⟨k1,k2⟩:=k
   refine⟨?_,k2⟩;rw[k1,zR0,show decide (1=1)=true from rfl]
   cases hr:digT true d with
   | none=>rfl
   | some r=>
    obtain⟨t,n⟩:=r;have hn:=rR hr;have e1:(126::d).take n=126::d.take (cnt dig d):=by
     rw[hn,if_pos rfl,Nat.add_comm,List.take_succ_cons]
    simp only[e1,zO,bM,(kD (r:=126) (by omega)).1]
 ·have h':∀d,l≠126::d:=fun d hd=>h ⟨d,hd⟩
  refine(zZk (T l) l 0 (by omega) ho hsz (by rw[qO];omega) w hL fun W=>(Tryz.strings_TrimPrefix _ _ W).mono fun _ _ k=>⟨?_,k.2.symm⟩).mono fun e w' k=>?_
  ·rw[k.1,yX]
   exact congrArg (fun x=>Ending.returned (.string x)) (yXj (zCm ho h'))
  ·obtain⟨k1,k2⟩:=k
   refine⟨?_,k2⟩;rw[k1,iG h',show decide (0=1)=false from rfl]
   cases hr:digT false l with
   | none=>rfl
   | some r=>
    obtain⟨t,n⟩:=r;have hn:=rR hr;have e1:n=cnt dig l:=by rw[hn];simp
    simp only[e1,bM,Nat.zero_add]
end Go.Proofs.YtbpijnalmakfaaaGreatDoor.B
namespace Go.Proofs.YtbpijnalmakfaaaGreatDoor.B
open Go.Lib
theorem yXl {r:Nat} (h:ok r) {b:UInt8} (hb:b∈en r):(r<128∧b=UInt8.ofNat r)∨128≤b.toNat:=by
 unfold ok at h
 rcases zJn h with ⟨h1,e⟩ | ⟨h1,h2,e⟩ | ⟨h1,h2,e⟩ | ⟨h1,e⟩
 ·rw[e] at hb;simp only[List.mem_singleton] at hb;exact .inl ⟨h1,hb⟩
 all_goals
  rw[e] at hb;simp only[List.mem_cons,List.not_mem_nil,or_false] at hb
  right
  rcases hb with rfl | rfl | rfl | rfl
  all_goals (rw[u8n _ (by omega)];omega)
theorem aM {l:List Nat} (ho:okl l) {c:Nat} (hc:c<128) (h:UInt8.ofNat c∈enc l):c∈l:=by
 induction l with
 | nil=>cases h
 | cons r t ih=>
  obtain⟨h1,h2⟩:=kY.1 ho;have h':UInt8.ofNat c∈en r++enc t:=h
  rcases List.mem_append.1 h' with h3 | h3
  ·rcases yXl h1 h3 with ⟨h4,h5⟩ | h4
   ·have:=congrArg UInt8.toNat h5
    rw[u8n _ (by omega),u8n _ (by omega)] at this;rw[this]
    simp
   ·rw[u8n _ (by omega)] at h4
    omega
  ·exact List.mem_cons_of_mem _ (ih h2 h3)
theorem zCp {x:List UInt8} {c:UInt8} (h:c∉x):indexByte x c = -1:=by
 induction x with
 | nil=>rfl
 | cons b t ih=>
  simp only[List.mem_cons,not_or] at h;unfold indexByte;rw[if_neg (by simp;exact fun e=>h.1 e.symm),ih h.2]
  rfl
theorem ib_at {x y:List UInt8} {c:UInt8} (h:c∉x):indexByte (x++c::y) c=(x.length:Int):=by
 induction x with
 | nil=>simp[indexByte]
 | cons b t ih=>
  simp only[List.mem_cons,not_or] at h
  show indexByte (b::(t++c::y)) c=_
  unfold indexByte;rw[if_neg (by simp;exact fun e=>h.1 e.symm),ih h.2,if_neg (by simp)]
  simp
def D46:ByteArray:=⟨#[46]⟩
theorem zJy {l:List Nat} (ho:okl l) (h:46∉l):indexB (T l) D46 = -1:=by
 show index (enc l) [46] = -1
 rw[index_one];exact zCp fun hm=>h (aM (c:=46) ho (by omega) hm)
theorem zJz {a r:List Nat} (ho:okl a) (h:46∉a):indexB (T (a++46::r)) D46=((sz a:Nat):Int):=by
 show index (enc (a++46::r)) [46]=_
 rw[index_one,vI]
 show indexByte (enc a++(en 46++enc r)) 46=_
 rw[(kD (r:=46) (by omega)).2];exact ib_at fun hm=>h (aM (c:=46) ho (by omega) hm)
theorem iH {l:List Nat} (h:46∉l):spl l=[l]:=by
 induction l with
 | nil=>rfl
 | cons r t ih=>
  simp only[List.mem_cons,not_or] at h;unfold spl;rw[if_neg (fun e=>h.1 e.symm),ih h.2]
theorem iI {x:Nat} {t:List Nat} (h:x≠46):spl (x::t)=(match spl t with | []=>[[x]] | a::b=>(x::a)::b):=by
 rw[spl,if_neg h]
 cases spl t<;>rfl
theorem yXm {a r:List Nat} (h:46∉a):spl (a++46::r)=a::spl r:=by
 induction a with
 | nil=>show spl (46::r)=_;simp[spl]
 | cons x t ih=>
  simp only[List.mem_cons,not_or] at h
  show spl (x::(t++46::r))=_
  rw[iI (fun e=>h.1 e.symm),ih h.2]
theorem yXn (l:List Nat):46∉l∨∃a r,l=a++46::r∧46∉a:=by
 induction l with
 | nil=>left;simp
 | cons x t ih=>
  by_cases hx:x=46
  ·right;exact⟨[],t,by rw[hx];rfl,by simp⟩
  ·rcases ih with h | ⟨a,r,rfl,h⟩
   ·left;simp;exact⟨fun e=>hx e.symm,h⟩
   ·right;exact⟨x::a,r,rfl,by simp;exact⟨fun e=>hx e.symm,h⟩⟩
theorem zPe:∀(n:Nat) (l:List Nat),l.length≤n→okl l→splitB D46 0 (countB (T l) D46) (T l)=(spl l).map T∧countB (T l) D46+1=(spl l).length
 | n,l,hn,ho=>by
  rcases yXn l with h | ⟨a,r,rfl,h⟩
  ·rw[countB_miss _ _ (zJy ho h),iH h]
   exact⟨rfl,rfl⟩
  ·obtain⟨h1,h2⟩:=vH.1 ho
   obtain⟨h2,h3⟩:=kY.1 h2
   cases n with
   | zero=>simp at hn
   | succ n=>
    have hl:r.length≤n:=by simp at hn;omega
    have ih:=zPe n r hl h3;have e1:(T (a++46::r)).extract (sz a+D46.size) (T (a++46::r)).size=T r:=by
     have:=tG (a++[46]) r;rw[List.append_assoc] at this;rw[qO];have e2:sz (a++[46])=sz a+D46.size:=by rw[sz_app,zO,(kD (r:=46) (by omega)).1];rfl
     rw[e2] at this;exact this
    have e3:countB (T (a++46::r)) D46=countB (T r) D46+1:=by
     rw[countB_hit _ _ (sz a) (by decide) (zJz h1 h),e1,Nat.add_comm]
    rw[e3,splitB_hit _ _ _ _ (sz a) (zJz h1 h),e1,yXm h,Nat.add_zero,zJm,ih.1,ih.2];exact⟨rfl,rfl⟩
end Go.Proofs.YtbpijnalmakfaaaGreatDoor.B
