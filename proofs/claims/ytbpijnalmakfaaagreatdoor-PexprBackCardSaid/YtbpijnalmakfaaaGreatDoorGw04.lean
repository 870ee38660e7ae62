/-
  The lexer's yK and name: what they tell.
-/
import Derived.Test.YtbpijnalmakfaaaGreatDoorGw03
import Derived.Lib.CutLaws
import Derived.Lib.Join
import Derived.Lib.LaidTab
set_option maxHeartbeats 40000000
set_option maxRecDepth 100000
namespace Go.Proofs.YtbpijnalmakfaaaGreatDoor.B
open Go.RowKit
theorem zR1 (l:List Nat) (ho:okl l) (hsz:sz l≤100000000) (w:World) (hL:Lx w) :
  Calls Tryz.prog 184 #[.string (T l),.string ⟨#[46]⟩] w fun e w'=>e = .returned (.slice (some ⟨w.heap.size,0,none⟩) (spl l).length (spl l).length)∧w'=w.alloc (.cells ((spl l).map fun y=>Value.string (T y)).toArray 9):=by
 obtain⟨m,hm⟩:=hL.2.2.1;obtain⟨h1,h2⟩:=zPe l.length l (Nat.le_refl _) ho;refine(Tryz.strings_Split (T l) ⟨#[46]⟩ m w (by rw[qO];omega) hm (by decide)).mono fun e w' k=>?_
 have h1':Lib.splitB ⟨#[46]⟩ 0 (Lib.countB (T l) ⟨#[46]⟩) (T l)=(spl l).map T:=h1;have h2':Lib.countB (T l) ⟨#[46]⟩+1=(spl l).length:=h2;rw[h1',h2',List.map_map] at k;exact k
def pcs (y:List Nat):Bool:=!wrd (T y)&&nm (T y)
theorem zMa {l:List (List Nat)} (h:∀(j:Nat) y,j<l.length→l[j]? = some y→pcs y=true):(l.all pcs)=true:=by
 rw[List.all_eq_true];intro y hy;obtain⟨j,hj,rfl⟩:=List.getElem_of_mem hy;exact h j _ hj (List.getElem?_eq_getElem hj)
theorem zVr {l:List (List Nat)} {j:Nat} {y:List Nat} (h:l[j]? = some y) (hp:pcs y=false):(l.all pcs)=false:=by
 rw[List.all_eq_false];exact⟨y,List.mem_of_getElem? h,by rw[hp];simp⟩
theorem zMb {l:List Nat} (h:¬sz l≤128):yK l=false:=by
 unfold yK;rw[decide_eq_false h,Bool.false_and]
theorem iJ {l:List Nat} {b:Bool} (h:sz l≤128) (hb:(spl l).all pcs=b):yK l=b:=by
 unfold yK;rw[decide_eq_true h,Bool.true_and];exact hb
theorem zXh:∀l:List Nat,1≤(spl l).length∧(spl l).length≤l.length+1
 | []=>by simp[spl]
 | x::t=>by
  have ih:=zXh t
  by_cases hx:x=46
  ·rw[spl,if_pos hx];simp;exact ih.2
  ·rw[iI hx]
   cases hs:spl t with
   | nil=>simp
   | cons a b=>rw[hs] at ih;simp at ih ⊢;omega
theorem zI0:∀(l:List Nat),∀y∈spl l,sz y≤sz l
 | [],y,hy=>by simp[spl] at hy;subst hy;exact Nat.le_refl _
 | x::t,y,hy=>by
  have ih:=zI0 t;rw[zO]
  by_cases hx:x=46
  ·rw[spl,if_pos hx] at hy
   rcases List.mem_cons.1 hy with rfl | hy
   ·exact Nat.zero_le _
   ·have:=ih y hy;omega
  ·rw[iI hx] at hy
   cases hs:spl t with
   | nil=>rw[hs] at hy;simp at hy;subst hy;rw[zO,yY];omega
   | cons a b=>
    rw[hs] at hy ih
    rcases List.mem_cons.1 hy with rfl | hy
    ·rw[zO];have:=ih a (by simp);omega
    ·have:=ih y (by simp[hy]);omega
theorem zR2 (l:List Nat) (ho:okl l) (hsz:sz l≤100000000) (w:World) (hL:Lx w) :
  Calls Tryz.prog 152 #[.string (T l)] w (fJ (yK l) w):=by
 have hTs:=qO l
 by_cases hbig:sz l≤128
 ·have cS:=zR1 l ho hsz w hL
  have hlen:=zXh l;have hll:=rO l;obtain⟨ps,hps⟩:∃ps,spl l=ps:=⟨_,rfl⟩;have hpz:=zI0 l;rw[hps] at cS hlen hpz;obtain⟨S,hS⟩:∃S,T l=S:=⟨_,rfl⟩;rw[hS] at cS hTs ⊢;have hz:¬(128:Int)<(S.size:Int):=by omega
  have HB:=Lib.hid hbig;have HPS:=Lib.hid hps;have hn1:ps.length≤129:=by omega
  have HPZ:Hid (∀y∈ps,sz y≤128):=Lib.hid fun y hy=>by have:=hpz y hy;omega
  clear hpz hbig hps hS hTs hsz hll
  go_enter Tryz.func152,Tryz.ntmps152
  go_wp2_with fail;refine cS.mono ?_;rintro e w1 ⟨rfl,rfl⟩
  go_wp2
  obtain⟨n,hn⟩:∃n,ps.length=n:=⟨_,rfl⟩;have hblk:(w.alloc (.cells (ps.map fun y=>Value.string (T y)).toArray 9)).heap[w.heap.size]? = some (.cells (ps.map fun y=>Value.string (T y)).toArray 9 (0,0)):=heap_alloc_new w _;have hb0:Below w.heap.size w (w.alloc (.cells (ps.map fun y=>Value.string (T y)).toArray 9)):=(Below.refl _ _).alloc (Nat.le_refl _) _;rw[hn] at hn1 ⊢;have HN:=Lib.hid hn
  generalize (w.alloc (.cells (ps.map fun y=>Value.string (T y)).toArray 9))=W0 at hblk hb0 ⊢
  clear hn hlen
  go_loopw [4,11] (fun _ i wr=>∃k:Nat,k≤n∧i = .int .i64 k∧Below w.heap.size w wr∧wr.heap[w.heap.size]? = some (.cells (ps.map fun y=>Value.string (T y)).toArray 9 (0,0))∧(∀(j:Nat) y,j<k→ps[j]? = some y→pcs y=true)) (fun _ i _=>n-(intOf i).toNat)
  case atStart=>exact⟨0,Nat.zero_le _,rfl,hb0,hblk,fun j y hj=>absurd hj (Nat.not_lt_zero _)⟩
  case round=>
   obtain⟨k,hk,rfl,hbw,hblk,hall⟩:=hrel;have HALL:=Lib.hid hall;clear hall
   by_cases hlt:k<n
   ·obtain⟨y,hy⟩:∃y,ps[k]? = some y:=⟨_,List.getElem?_eq_getElem (by rw[HN.out];exact hlt)⟩
    have hcell:wr.cell? ⟨w.heap.size,k,none⟩=some (.string (T y)):=by
     rw[cell_of_row wr _ k _ _ _ hblk]
     simp[hy]
    have HBLK:=Lib.hid hblk;have HY:=Lib.hid hy;have hyz:=HPZ.out y (List.mem_of_getElem? hy);have cN:=fun W=>zVd (T y) W (by rw[qO];omega)
    have cW:=fun W=>fX (T y) W
    have HP:Hid (pcs y=(!wrd (T y)&&nm (T y))):=Lib.hid rfl;obtain⟨X,hX⟩:∃X,T y=X:=⟨_,rfl⟩;rw[hX] at hcell cN cW HP;clear hblk hy hX hyz;obtain⟨b1,hb1⟩:∃b,wrd X=b:=⟨_,rfl⟩;obtain⟨b2,hb2⟩:∃b,nm X=b:=⟨_,rfl⟩;rw[hb1] at cW HP;rw[hb2] at cN HP;clear hb1 hb2
    cases b1
    ·cases b2
     ·go_wp2_with fail
      refine(cW _).mono ?_;rintro e w' ⟨rfl,rfl⟩;go_wp2_with fail;refine(cN _).mono ?_;rintro e w2 ⟨rfl,hb2⟩;have hfin:=hbw.trans (hb2.mono hbw.size)
      go_wp2
      go_ret
      exact⟨kN (iJ HB.out (by rw[HPS.out];exact zVr HY.out HP.out)),hfin⟩
     ·go_wp2_with fail
      refine(cW _).mono ?_;rintro e w' ⟨rfl,rfl⟩;go_wp2_with fail;refine(cN _).mono ?_;rintro e w2 ⟨rfl,hb2⟩;have hfin:=hbw.trans (hb2.mono hbw.size);have HB2:=Lib.hid (qS HBLK.out hb2)
      go_wp2
      go_roundw
      case rel=>exact⟨k+1,by omega,by go_num,hfin,HB2.out,fun j z hj hz=>by
       rcases Nat.lt_or_ge j k with h | h
       ·exact HALL.out j z h hz
       ·have hjk:j=k:=by omega
        subst hjk;rw[HY.out] at hz;injection hz with hz;subst hz;exact HP.out⟩
      case measure=>simp[intOf];omega
    ·go_wp2_with fail
     refine(cW _).mono ?_;rintro e w' ⟨rfl,rfl⟩
     go_wp2
     go_ret
     exact⟨kN (iJ HB.out (by rw[HPS.out];exact zVr HY.out (by rw[HP.out];rfl))),hbw⟩
   ·have hkn:k=n:=by omega
    subst hkn
    go_wp2
    go_ret
    exact⟨kN (iJ HB.out (by rw[HPS.out];exact zMa (by rw[HN.out];exact HALL.out))),hbw⟩
 ·have hz:(128:Int)<((T l).size:Int):=by omega
  have HB:=Lib.hid hbig;clear hbig hTs
  go_enter Tryz.func152,Tryz.ntmps152
  go_wp2
  go_ret
  exact⟨kN (zMb HB.out),Below.refl _ _⟩
theorem aN (l:List Nat):cnt lng l=cnt inr l+(match l.drop (cnt inr l) with | 46::t=>1+cnt lng t | _=>0):=by
 induction l with
 | nil=>rfl
 | cons r t ih=>
  cases hr:inr r
  ·by_cases h46:r=46
   ·subst h46
    have h1:cnt lng (46::t)=cnt lng t+1:=by simp[cnt,lng]
    have h2:cnt inr (46::t)=0:=by simp[cnt,hr]
    rw[h1,h2,List.drop_zero]
    show _=0+(1+cnt lng t)
    omega
   ·have h1:cnt lng (r::t)=0:=by simp[cnt,lng,hr,h46]
    have h2:cnt inr (r::t)=0:=by simp[cnt,hr]
    rw[h1,h2,List.drop_zero]
    split
    ·rename_i u e
     injection e with e1 e2;exact absurd e1 h46
    ·rfl
  ·have h1:cnt lng (r::t)=cnt lng t+1:=by simp[cnt,lng,hr]
   have h2:cnt inr (r::t)=cnt inr t+1:=by simp[cnt,hr]
   rw[h1,h2,List.drop_succ_cons,ih];omega
def lrest (b:List Nat):Nat:=match b with | 46::t=>1+cnt lng t | _=>0
theorem zZl (t:List Nat):lrest (46::t)=1+cnt inr t+lrest (t.drop (cnt inr t)):=by
 show 1+cnt lng t=_
 rw[aN t];unfold lrest;omega
theorem iK {b:List Nat} (h:List.isPrefixOf [46] b=false):lrest b=0:=by
 unfold lrest
 split
 ·simp at h
 ·rfl
theorem zI1 (l:List Nat) (ho:okl l) (hsz:sz l≤100000000) (w:World) (hL:Lx w) :
  Calls Tryz.prog 94 #[.string (T l)] w (gT l (nameT l) w):=by
 have hTs:=qO l;have c1:=fun W=>sF (T l) W
 rw[zVf inr ho] at c1;obtain⟨N,hN⟩:∃N,cnt lng l=N:=⟨_,rfl⟩;obtain⟨S,hS⟩:∃S,T l=S:=⟨_,rfl⟩;rw[hS] at hTs c1 ⊢;have HS:=Lib.hid hS;have HNN:=Lib.hid hN;have HZ:=Lib.hid hTs;have hzS:S.size≤100000000:=by omega
 have H0:Hid (l=l.take (cnt inr l)++l.drop (cnt inr l)∧sz (l.take (cnt inr l))≤S.size∧(l.take (cnt inr l)).length+lrest (l.drop (cnt inr l))=N):=Lib.hid (by
  refine⟨(List.take_append_drop _ _).symm,?_,?_⟩
  ·rw[hTs]
   have:sz l=sz (l.take (cnt inr l))+sz (l.drop (cnt inr l)):=by rw[←sz_app,List.take_append_drop]
   omega
  ·rw[←hN,aN l,List.length_take]
   have:=kZ inr l;unfold lrest
   omega)
 obtain⟨z0,hz0⟩:∃z,sz (l.take (cnt inr l))=z:=⟨_,rfl⟩;have hz1:z0≤S.size:=by rw[←hz0];exact H0.out.2.1
 rw[hz0] at c1;have HZ0:=Lib.hid hz0;clear hS hN hTs hz0
 go_enter Tryz.func94,Tryz.ntmps94
 go_wp2_with fail;refine(c1 _).mono ?_;rintro e w1 ⟨rfl,hb1⟩;have hr1:=(Rc.new_ w).below hb1;have hbb:=((Below.refl _ _).alloc (Nat.le_refl _) _).trans (hb1.mono (by simp));clear hb1 c1
 go_wp2
 go_loopw [4] (fun v wr=>∃a b:List Nat,l=a++b∧v = .int .i64 (sz a:Nat)∧Below w.heap.size w wr∧sz a≤S.size∧a.length+lrest b=N∧Rc wr w.heap.size #[.int .i64 0,.string ⟨#[]⟩,.int .i64 0,.int .i64 0]) (fun v _=>S.size-(intOf v).toNat)
 case atStart=>exact⟨_,_,H0.out.1,by rw[HZ0.out],hbb,H0.out.2.1,H0.out.2.2,hr1⟩
 case round=>
  obtain⟨a,b,hl,rfl,hbw,hle,hans,hrc⟩:=hrel;have hob:=(vH.1 (hl▸ho)).2;have E1:Hid (S.extract (sz a) S.size=T b):=Lib.hid (by rw[←HS.out,qO,hl];exact tG a b);have hp0:Lib.hasPrefix (T b).data.toList (ByteArray.mk #[46]).data.toList=List.isPrefixOf [46] b:=zP7 (p:=[46]) (by decide) hob;obtain⟨h46,hh46⟩:∃h,List.isPrefixOf [46] b=h:=⟨_,rfl⟩;have cH:=fun W=>zXd (hp0.trans hh46) W
  have HRC:=Lib.hid hrc;clear hp0 hrc
  cases h46
  ·have hlr:=iK hh46
   have ha:l.take N=a:=by rw[hl,←hans,hlr,Nat.add_zero];exact List.take_left
   have E2:Hid (S.extract 0 (sz a)=T a):=Lib.hid (by rw[←HS.out,hl];exact zJm a b);have HA:=Lib.hid ha;have hoa:=(vH.1 (hl▸ho)).1;have hza:sz a≤100000000:=by omega
   have cW:=fun W=>fX (T a) W
   have cL:=fun W hL=>zR2 a hoa hza W hL
   have HT1:Hid (wrd (T a)=true→nameT l=some (⟨3,a,0⟩,N)):=Lib.hid (fun h=>by unfold nameT;rw[HNN.out,ha,if_pos h]);have HT2:Hid (wrd (T a)=false→yK a=true→nameT l=some (⟨1,a,0⟩,N)):=Lib.hid (fun h h2=>by unfold nameT;rw[HNN.out,ha,if_neg (by rw[h];simp),if_pos h2]);have HT3:Hid (wrd (T a)=false→yK a=false→nameT l=none):=Lib.hid (fun h h2=>by unfold nameT;rw[HNN.out,ha,if_neg (by rw[h];simp),if_neg (by rw[h2];simp)]);clear hl hans hh46 hlr ha hob;obtain⟨b1,hb1⟩:∃b,wrd (T a)=b:=⟨_,rfl⟩;obtain⟨b2,hb2⟩:∃b,yK a=b:=⟨_,rfl⟩;rw[hb1] at cW HT1 HT2 HT3;rw[hb2] at cL HT2 HT3;have CL:=Lib.hid cL;obtain⟨X,hX⟩:∃X,T a=X:=⟨_,rfl⟩;rw[hX] at cW CL E2;have HX:=Lib.hid hX;clear hb1 hb2 cL hX;go_wp2_with fail;rw[E1.out];refine(cH _).mono ?_;rintro e w' ⟨rfl,rfl⟩;go_wp2_with fail;rw[E2.out];refine(cW _).mono ?_;rintro e w' ⟨rfl,rfl⟩
   cases b1
   ·go_wp2_with fail
    refine(CL.out wr (hL.below hbw)).mono ?_;rintro e w2 ⟨rfl,hb2⟩;have hfin:=hbw.trans (hb2.mono hbw.size);have HR:=Lib.hid (HRC.out.below hb2);obtain⟨⟨q0,q1,q2,q3⟩,f0,f1,f2,f3⟩:=HR.out.cells
    cases b2
    ·go_wp2
     refine bodyPost_ret (qQ rfl _ _ w.heap.size _ _ (0,0) _ rfl (Rc.four HR.out _ _ _ _) Tryz.underlying53 rfl (by kernel_rfl)) rfl ?_;exact zXe (HT3.out (by simp) (by simp)) (qJ hfin (Nat.le_refl _) _ _ _ _)
    ·go_wp2
     refine bodyPost_ret (qQ rfl _ _ w.heap.size _ _ (0,0) _ rfl (Rc.four HR.out _ _ _ _) Tryz.underlying53 rfl (by kernel_rfl)) rfl ?_;exact zXf (HT2.out (by simp) (by simp)) HX.out.symm (by rw[HA.out]) (qJ hfin (Nat.le_refl _) _ _ _ _)
   ·obtain⟨⟨q0,q1,q2,q3⟩,f0,f1,f2,f3⟩:=HRC.out.cells
    go_wp2
    refine bodyPost_ret (qQ rfl _ _ w.heap.size _ _ (0,0) _ rfl (Rc.four HRC.out _ _ _ _) Tryz.underlying53 rfl (by kernel_rfl)) rfl ?_;exact zXf (HT1.out (by simp)) HX.out.symm (by rw[HA.out]) (qJ hbw (Nat.le_refl _) _ _ _ _)
  ·obtain⟨t,rfl⟩:∃t,b=46::t:=by
    obtain⟨t,ht⟩:=List.isPrefixOf_iff_prefix.1 hh46;exact⟨t,by rw[←ht];rfl⟩
   have hot:=(kY.1 hob).2;have e46:sz (46::t)=1+sz t:=by rw[zO,(kD (r:=46) (by omega)).1]
   have hz2:S.size=sz a+(1+sz t):=by rw[HZ.out,hl,sz_app,e46]
   have E2:Hid (S.extract (sz a+1) S.size=T t):=Lib.hid (by
    have:=tG (a++[46]) t;rw[List.append_assoc] at this;have e2:sz (a++[46])=sz a+1:=by rw[sz_app,zO,(kD (r:=46) (by omega)).1,yY]
    rw[e2] at this;rw[←HS.out,qO,hl];exact this)
   have c2:=fun W=>sF (T t) W
   rw[zVf inr hot] at c2;obtain⟨c,hc⟩:∃c,t.take (cnt inr t)=c:=⟨_,rfl⟩;obtain⟨d,hd⟩:∃d,t.drop (cnt inr t)=d:=⟨_,rfl⟩;have htcd:t=c++d:=by rw[←hc,←hd];exact(List.take_append_drop _ _).symm
   have hzt:sz t=sz c+sz d:=by rw[htcd,sz_app]
   rw[hc] at c2;have HNEW:Hid (l=(a++(46::c))++d∧sz (a++(46::c))=sz a+(1+sz c)∧(a++(46::c)).length+lrest d=N):=Lib.hid (by
    refine⟨by rw[hl,htcd];simp,by rw[sz_app,zO,(kD (r:=46) (by omega)).1],?_⟩;have h1:=zZl t;have h2:=kZ inr t;have h3:c.length=cnt inr t:=by rw[←hc,List.length_take];omega
    rw[hd] at h1;rw[←hans,List.length_append,List.length_cons,h1,h3]
    omega)
   have hzn:sz a+(1+sz c)≤S.size:=by omega
   have hzn2:sz a+1≤S.size:=by omega
   clear hl hans hh46 hc hd htcd hzt hz2 e46;go_wp2_with fail;rw[E1.out];refine(cH _).mono ?_;rintro e w' ⟨rfl,rfl⟩;go_wp2_with fail;rw[E2.out];refine(c2 _).mono ?_;rintro e w2 ⟨rfl,hb2⟩;have hfin:=hbw.trans (hb2.mono hbw.size);have HR:=Lib.hid (HRC.out.below hb2)
   go_wp2
   go_roundw
   case rel=>exact⟨_,_,HNEW.out.1,by rw[HNEW.out.2.1];go_num,hfin,by rw[HNEW.out.2.1];exact hzn,HNEW.out.2.2,HR.out⟩
   case measure=>simp[intOf];omega
theorem zR3 (r:Nat) (l:List Nat) (ho:okl (r::l)) (w:World) (hL:Lx w) :
  Calls Tryz.prog 93 #[.string (T (r::l))] w fun e w'=>e = .returned (.tuple #[.int .i32 (r:Int),.int .i64 ((wd r:Nat):Int)])∧Below w.heap.size w w':=by
 have he:Lib.decodeGo (T (r::l))=(r,wd r):=by
  have h0:=yXg [] r l;have hd:=yYs (kY.1 ho).1 l;unfold Lib.decodeGo;rw[List.nil_append] at h0
  first
   | (rw[if_neg (by omega)];exact hd)
   | (rw[if_pos (by omega)];exact hd)
   | exact hd
 refine(Tryz.utf8_DecodeRuneInString (T (r::l)) w hL.1).mono fun e w' k=>?_
 rw[he] at k;exact k
theorem gT.form {l:List Nat} {r:Option (Tok×Nat)} {W w':World} {e:Ending} (h:gT l r W e w') :
  ∃(K:Int) (S:ByteArray) (M Z:Int),e = .returned (.tuple #[.agg #[.int .i64 K,.string S,.int .i64 M,.int .i64 0],.int .i64 Z])∧Below W.heap.size W w'∧
   Hid (∀W2 w2,Below W2.heap.size W2 w2→gT l r W2 (.returned (.tuple #[.agg #[.int .i64 K,.string S,.int .i64 M,.int .i64 0],.int .i64 Z])) w2):=by
 obtain⟨h1,h2⟩:=h
 cases r with
 | none=>exact⟨0,⟨#[]⟩,0,0,h1,h2,Lib.hid fun W2 w2 hb=>⟨rfl,hb⟩⟩
 | some x=>
  obtain⟨t,n⟩:=x;exact⟨t.k,T t.x,t.n,_,h1,h2,Lib.hid fun W2 w2 hb=>⟨rfl,hb⟩⟩
theorem zMc (r:Nat) (u:List Nat) (ho:okl (r::u)) (hsz:sz (r::u)≤100000000) (w:World) (hL:Lx w) :
  Calls Tryz.prog 43 #[.string (T (r::u))] w (gT (r::u) (tokT (r::u)) w):=by
 have cD:=fun W hL=>zR3 r u ho W hL
 have cC:=fun W=>wD (r:Int) W
 have cN:=fun W hL=>zI1 (r::u) ho hsz W hL
 have cM:=fun W hL=>xY (r::u) ho hsz W hL
 have cS:=fun W hL=>zJt (r::u) ho W hL
 have hpo:Lib.hasPrefix (T (r::u)).data.toList (ByteArray.mk #[40,42]).data.toList=opens (r::u):=zPa ho;have ht:tokT (r::u)=if cls r=1 then nameT (r::u) else if cls r=2∨r=126 then numT (r::u) else if opens (r::u) then none else signT (r::u):=rfl
 obtain⟨l,hl⟩:∃l,r::u=l:=⟨_,rfl⟩;rw[hl] at cD cN cM cS hpo ht ⊢;obtain⟨S,hS⟩:∃S,T l=S:=⟨_,rfl⟩;rw[hS] at cD cN cM cS hpo ⊢;obtain⟨c,hc⟩:∃c,cls (r:Int)=c:=⟨_,rfl⟩;rw[hc] at cC ht;obtain⟨o,hoo⟩:∃o,opens l=o:=⟨_,rfl⟩;have cP:=fun W=>zXd (hpo.trans hoo) W
 rw[hoo] at ht;have CD:=Lib.hid cD;have CN:=Lib.hid cN;have CM:=Lib.hid cM;have CS:=Lib.hid cS;clear hl hS hc hoo hpo cD cN cM cS
 by_cases h1:c=1
 ·subst h1
  rw[if_pos rfl] at ht;rw[ht];clear ht
  go_enter Tryz.func43,Tryz.ntmps43
  go_wp2_with fail;refine(CD.out _ (hL.below ((Below.refl _ _).alloc (Nat.le_refl _) _))).mono ?_;rintro e w1 ⟨rfl,hb1⟩;have hr1:=Lib.hid ((Rc.new_ w).below hb1);have hbb:=((Below.refl _ _).alloc (Nat.le_refl _) _).trans (hb1.mono (by simp));clear hb1;go_wp2_with fail;refine(cC _).mono ?_;rintro e w' ⟨rfl,rfl⟩;go_wp2_with fail;refine(CN.out w1 (hL.below hbb)).mono ?_;rintro e w2 hk;obtain⟨K,X,M,Z,rfl,hb2,HF⟩:=hk.form;clear hk;have HR:=Lib.hid (hr1.out.below hb2);obtain⟨⟨q0,q1,q2,q3⟩,f0,f1,f2,f3⟩:=HR.out.cells;have hfin:=hbb.trans (hb2.mono hbb.size)
  go_wp2
  refine bodyPost_ret (qQ rfl _ _ w.heap.size _ _ (0,0) _ rfl (Rc.four HR.out _ _ _ _) Tryz.underlying53 rfl (by kernel_rfl)) rfl ?_;exact HF.out _ _ (qJ hfin (Nat.le_refl _) _ _ _ _)
 ·have e1:(c==1)=false:=by rw[beq_eq_false_iff_ne];exact h1
  rw[if_neg h1] at ht;clear h1
  by_cases h2:c=2
  ·subst h2
   rw[if_pos (.inl rfl)] at ht;rw[ht];clear ht e1
   go_enter Tryz.func43,Tryz.ntmps43
   go_wp2_with fail;refine(CD.out _ (hL.below ((Below.refl _ _).alloc (Nat.le_refl _) _))).mono ?_;rintro e w1 ⟨rfl,hb1⟩;have hr1:=Lib.hid ((Rc.new_ w).below hb1);have hbb:=((Below.refl _ _).alloc (Nat.le_refl _) _).trans (hb1.mono (by simp));clear hb1;go_wp2_with fail;refine(cC _).mono ?_;rintro e w' ⟨rfl,rfl⟩;go_wp2_with fail;refine(CM.out w1 (hL.below hbb)).mono ?_;rintro e w2 hk;obtain⟨K,X,M,Z,rfl,hb2,HF⟩:=hk.form;clear hk;have HR:=Lib.hid (hr1.out.below hb2);obtain⟨⟨q0,q1,q2,q3⟩,f0,f1,f2,f3⟩:=HR.out.cells;have hfin:=hbb.trans (hb2.mono hbb.size)
   go_wp2
   refine bodyPost_ret (qQ rfl _ _ w.heap.size _ _ (0,0) _ rfl (Rc.four HR.out _ _ _ _) Tryz.underlying53 rfl (by kernel_rfl)) rfl ?_;exact HF.out _ _ (qJ hfin (Nat.le_refl _) _ _ _ _)
  ·have e2:(c==2)=false:=by rw[beq_eq_false_iff_ne];exact h2
   by_cases h3:r=126
   ·rw[if_pos (.inr h3)] at ht
    rw[ht];have e3:((r:Int)==126)=true:=by rw[beq_iff_eq];omega
    clear ht h2 h3
    go_enter Tryz.func43,Tryz.ntmps43
    go_wp2_with fail;refine(CD.out _ (hL.below ((Below.refl _ _).alloc (Nat.le_refl _) _))).mono ?_;rintro e w1 ⟨rfl,hb1⟩;have hr1:=Lib.hid ((Rc.new_ w).below hb1);have hbb:=((Below.refl _ _).alloc (Nat.le_refl _) _).trans (hb1.mono (by simp));clear hb1;go_wp2_with fail;refine(cC _).mono ?_;rintro e w' ⟨rfl,rfl⟩;go_wp2_with fail;refine(CM.out w1 (hL.below hbb)).mono ?_;rintro e w2 hk;obtain⟨K,X,M,Z,rfl,hb2,HF⟩:=hk.form;clear hk;have HR:=Lib.hid (hr1.out.below hb2);obtain⟨⟨q0,q1,q2,q3⟩,f0,f1,f2,f3⟩:=HR.out.cells;have hfin:=hbb.trans (hb2.mono hbb.size)
    go_wp2
    refine bodyPost_ret (qQ rfl _ _ w.heap.size _ _ (0,0) _ rfl (Rc.four HR.out _ _ _ _) Tryz.underlying53 rfl (by kernel_rfl)) rfl ?_;exact HF.out _ _ (qJ hfin (Nat.le_refl _) _ _ _ _)
   ·rw[if_neg (fun h=>h.elim h2 h3)] at ht
    have e3:((r:Int)==126)=false:=by rw[beq_eq_false_iff_ne];omega
    rw[ht];clear ht h2 h3
    cases o
    ·rw[if_neg (by simp)]
     go_enter Tryz.func43,Tryz.ntmps43
     go_wp2_with fail;refine(CD.out _ (hL.below ((Below.refl _ _).alloc (Nat.le_refl _) _))).mono ?_;rintro e w1 ⟨rfl,hb1⟩;have hr1:=Lib.hid ((Rc.new_ w).below hb1);have hbb:=((Below.refl _ _).alloc (Nat.le_refl _) _).trans (hb1.mono (by simp));clear hb1;go_wp2_with fail;refine(cC _).mono ?_;rintro e w' ⟨rfl,rfl⟩;go_wp2_with fail;refine(cP _).mono ?_;rintro e w' ⟨rfl,rfl⟩;go_wp2_with fail;refine(CS.out w1 (hL.below hbb)).mono ?_;rintro e w2 hk;obtain⟨K,X,M,Z,rfl,hb2,HF⟩:=hk.form;clear hk;have HR:=Lib.hid (hr1.out.below hb2);obtain⟨⟨q0,q1,q2,q3⟩,f0,f1,f2,f3⟩:=HR.out.cells;have hfin:=hbb.trans (hb2.mono hbb.size)
     go_wp2
     refine bodyPost_ret (qQ rfl _ _ w.heap.size _ _ (0,0) _ rfl (Rc.four HR.out _ _ _ _) Tryz.underlying53 rfl (by kernel_rfl)) rfl ?_;exact HF.out _ _ (qJ hfin (Nat.le_refl _) _ _ _ _)
    ·rw[if_pos rfl]
     go_enter Tryz.func43,Tryz.ntmps43
     go_wp2_with fail;refine(CD.out _ (hL.below ((Below.refl _ _).alloc (Nat.le_refl _) _))).mono ?_;rintro e w1 ⟨rfl,hb1⟩;have hr1:=Lib.hid ((Rc.new_ w).below hb1);have hbb:=((Below.refl _ _).alloc (Nat.le_refl _) _).trans (hb1.mono (by simp));clear hb1;go_wp2_with fail;refine(cC _).mono ?_;rintro e w' ⟨rfl,rfl⟩;obtain⟨⟨q0,q1,q2,q3⟩,f0,f1,f2,f3⟩:=hr1.out.cells;go_wp2_with fail;refine(cP _).mono ?_;rintro e w' ⟨rfl,rfl⟩
     go_wp2
     refine bodyPost_ret (qQ rfl _ _ w.heap.size _ _ (0,0) _ rfl (Rc.four hr1.out _ _ _ _) Tryz.underlying53 rfl (by kernel_rfl)) rfl ?_;exact zXe rfl (qJ hbb (Nat.le_refl _) _ _ _ _)
def Nx (w:World):Prop:=Lib.TabIs Tryz.prog w "internal/strconv.uint64pow10" .u64 Lib.pow10Tab∧∃m,w.cell? ⟨4,0,none⟩=some (.int .i64 m)
theorem Nx.below {w w':World} (h:Nx w) (hb:Below w.heap.size w w'):Nx w':=by
 obtain⟨h1,m,h2⟩:=h;exact⟨zZg (g:=8) (by kernel_rfl) h1 hb,m,sG h2 hb⟩
end Go.Proofs.YtbpijnalmakfaaaGreatDoor.B
namespace Go.Proofs.YtbpijnalmakfaaaGreatDoor.B
open Go.Lib
def pcl:List UInt8→List (List UInt8)
 | []=>[[]]
 | b::l=>if b=46 then []::pcl l else match pcl l with
  | []=>[[b]]
  | x::r=>(b::x)::r
def jn:List (List UInt8)→List UInt8
 | []=>[]
 | x::r=>x++(match r with | []=>[] | _::_=>46::jn r)
theorem yXo (l:List UInt8):pcl l≠[]:=by
 cases l with
 | nil=>simp[pcl]
 | cons b t=>
  unfold pcl
  split
  ·simp
  ·cases pcl t<;>simp
theorem wM {l:List UInt8} (h:(46:UInt8)∉l):pcl l=[l]:=by
 induction l with
 | nil=>rfl
 | cons r t ih=>
  simp only[List.mem_cons,not_or] at h;unfold pcl;rw[if_neg (fun e=>h.1 e.symm),ih h.2]
theorem rT {a r:List UInt8} (h:(46:UInt8)∉a):pcl (a++46::r)=a::pcl r:=by
 induction a with
 | nil=>show pcl (46::r)=_;simp[pcl]
 | cons x t ih=>
  simp only[List.mem_cons,not_or] at h
  show pcl (x::(t++46::r))=_
  rw[pcl,if_neg (fun e=>h.1 e.symm),ih h.2]
theorem zI2 (l:List UInt8):(46:UInt8)∉l∨∃a r,l=a++46::r∧(46:UInt8)∉a:=by
 induction l with
 | nil=>left;simp
 | cons x t ih=>
  by_cases hx:x=46
  ·right;exact⟨[],t,by rw[hx];rfl,by simp⟩
  ·rcases ih with h | ⟨a,r,rfl,h⟩
   ·left;simp;exact⟨fun e=>hx e.symm,h⟩
   ·right;exact⟨x::a,r,rfl,by simp;exact⟨fun e=>hx e.symm,h⟩⟩
theorem rU (Q:List UInt8→Prop) (h1:∀l,(46:UInt8)∉l→Q l) (h2:∀a r,(46:UInt8)∉a→Q r→Q (a++46::r)):∀l,Q l:=by
 have:∀n,∀l:List UInt8,l.length≤n→Q l:=by
  intro n
  induction n with
  | zero=>intro l hl;rw[List.eq_nil_of_length_eq_zero (by omega:l.length=0)];exact h1 _ (by simp)
  | succ n ih=>
   intro l hl
   rcases zI2 l with h | ⟨a,r,rfl,h⟩
   ·exact h1 l h
   ·exact h2 a r h (ih r (by simp at hl;omega))
 exact fun l=>this l.length l (Nat.le_refl _)
theorem zI3 {x:List UInt8} {c:UInt8} (h:c∉x):indexByte x c = -1:=by
 induction x with
 | nil=>rfl
 | cons b t ih=>
  simp only[List.mem_cons,not_or] at h;unfold indexByte;rw[if_neg (by simp;exact fun e=>h.1 e.symm),ih h.2]
  rfl
theorem yXp {x y:List UInt8} {c:UInt8} (h:c∉x):indexByte (x++c::y) c=(x.length:Int):=by
 induction x with
 | nil=>simp[indexByte]
 | cons b t ih=>
  simp only[List.mem_cons,not_or] at h
  show indexByte (b::(t++c::y)) c=_
  unfold indexByte;rw[if_neg (by simp;exact fun e=>h.1 e.symm),ih h.2,if_neg (by simp)]
  simp
theorem zVs {l:List UInt8} (h:(46:UInt8)∉l):Lib.cut l [46]=(l,[],false):=by
 unfold Lib.cut;rw[index_one,zI3 h]
 rfl
theorem yXq {a r:List UInt8} (h:(46:UInt8)∉a):Lib.cut (a++46::r) [46]=(a,r,true):=by
 unfold Lib.cut;rw[index_one,yXp h,if_pos (by omega)];have e:((a.length:Int)).toNat=a.length:=by omega
 rw[e];have e2:(a++46::r).drop (a.length+1)=r:=by
  rw[←List.drop_drop,List.drop_left];rfl
 simp only[List.take_left',List.length_singleton,e2]
theorem zCq:∀l,1≤(pcl l).length∧(pcl l).length≤l.length+1:=by
 refine rU _ (fun l h=>by rw[wM h];simp) fun a r h ih=>?_
 rw[rT h];simp;omega
theorem yXr:∀l,∀x∈pcl l,x.length≤l.length:=by
 refine rU _ (fun l h x hx=>?_) fun a r h ih x hx=>?_
 ·rw[wM h] at hx;rw[List.mem_singleton.1 hx];exact Nat.le_refl _
 ·rw[rT h] at hx
  rcases List.mem_cons.1 hx with rfl | hx
  ·simp
  ·have:=ih x hx;simp;omega
def tx (l:List UInt8):ByteArray:=⟨l.toArray⟩
theorem tI (l:List UInt8):(tx l).data.toList=l:=rfl
theorem zPf (s:ByteArray):tx s.data.toList=s:=jK rfl
theorem zXi (l:List UInt8):(tx l).size=l.length:=by rw[size_eq];rfl
theorem qM (s t:ByteArray):(s++t).data.toList=s.data.toList++t.data.toList:=by rw[ByteArray.data_append,Array.toList_append]
theorem zR4 (a b:List UInt8):tx (a++b)=tx a++tx b:=jK (by rw[qM,tI,tI,tI])
def nck (s:ByteArray):Bool:=nm s && !wrd s
theorem zR5 {s:ByteArray} (h:nck s=true):nm s=true∧wrd s=false:=by
 unfold nck at h;simpa using h
theorem rV {s:ByteArray} (h:nm s=true):(1≤s.size∧s.size≤32)∧okl (rns s 0)∧T (rns s 0)=s∧nmL (rns s 0)=true:=by
 unfold nm at h;rw[Bool.and_eq_true,decide_eq_true_iff] at h;obtain⟨h1,h2⟩:=h;have hv:vls s 0=true:=by
  cases hv:vls s 0
  ·rw[zJj s 0 hv] at h2;cases h2
  ·rfl
 exact⟨h1,aI hv,zJo hv,by rw[←zX6];exact h2⟩
theorem iL {s:ByteArray} (h:nck s=true):1≤s.size∧s.size≤32:=(rV (zR5 h).1).1
theorem zI4 (b:Bool):mst 46 b=false:=by cases b<;>decide
theorem zXj {l:List Nat} (h:nmL l=true):∀r∈l,∃b,mst (r:Int) b=true:=by
 cases l with
 | nil=>intro r hr;cases hr
 | cons x t=>
  unfold nmL at h;rw[Bool.and_eq_true,List.all_eq_true] at h;intro r hr
  rcases List.mem_cons.1 hr with rfl | hr
  ·exact⟨true,h.1⟩
  ·exact⟨false,h.2 r hr⟩
theorem zPg {s:ByteArray} (h:nck s=true):(46:UInt8)∉s.data.toList:=by
 obtain⟨_,h2,h3,h4⟩:=rV (zR5 h).1;intro hm;rw[←h3,yX] at hm;obtain⟨b,hb⟩:=zXj h4 46 (aM (c:=46) h2 (by omega) hm);rw[show((46:Nat):Int)=46 from rfl,zI4] at hb
 cases hb
def pc (s:ByteArray):List ByteArray:=(pcl s.data.toList).map tx
def jb (l:List ByteArray):ByteArray:=tx (jn (l.map fun x=>x.data.toList))
def long (s:ByteArray):Bool:=decide (s.size≤128)&&(pc s).all nck
def splt (s:ByteArray):List ByteArray:=if long s then pc s else []
theorem pc_ne (s:ByteArray):pc s≠[]:=by
 unfold pc;intro h;exact yXo _ (List.map_eq_nil_iff.1 h)
theorem pD {s:ByteArray}:long s=true↔s.size≤128∧(pc s).all nck=true:=by
 unfold long;rw[Bool.and_eq_true,decide_eq_true_iff]
theorem zZm {s:ByteArray} (h:long s=true):splt s=pc s:=by unfold splt;rw[if_pos h]
theorem iM {s:ByteArray} (h:long s=false):splt s=[]:=by unfold splt;rw[h];rfl
theorem zI5 (s:ByteArray):long s=decide (0<(splt s).length):=by
 cases h:long s
 ·rw[iM h];rfl
 ·rw[zZm h]
  have:=pc_ne s
  cases hp:pc s with
  | nil=>exact absurd hp this
  | cons a b=>simp
theorem yXs (s:ByteArray):1≤(pc s).length∧(pc s).length≤s.size+1:=by
 unfold pc;rw[List.length_map,size_eq];exact zCq _
theorem pc_sz (s:ByteArray):∀x∈pc s,x.size≤s.size:=by
 intro x hx;obtain⟨y,hy,rfl⟩:=List.mem_map.1 hx;rw[zXi,size_eq];exact yXr _ y hy
def hd (s:ByteArray):ByteArray:=(splt s).headD ⟨#[]⟩
end Go.Proofs.YtbpijnalmakfaaaGreatDoor.B
namespace Go.Proofs.YtbpijnalmakfaaaGreatDoor.B
open Go.RowKit
def sv (l:List ByteArray):List Value:=l.map Value.string
theorem yXt (l:List ByteArray):(sv l).length=l.length:=by simp[sv]
def Ss (w:World) (B:Nat) (v:Value) (l:List ByteArray):Prop:=
 ∃A c,v = .slice A l.length c∧l.length≤c∧∀(j:Nat) (u:ByteArray),l[j]? = some u→∃b o,A=some ⟨b,o,none⟩∧b<B∧w.cell? ⟨b,o+j,none⟩=some (.string u)
theorem Ss.nil (w:World) (B:Nat):Ss w B (.slice none 0 0) []:=⟨none,0,rfl,Nat.le_refl _,fun j u hu=>by simp at hu⟩
theorem Ss.own {w:World} {base:Nat} {e:TypeId} {v:Value} {n:Nat} {l:List ByteArray} (h:w.ownsRow base e 1 v n (sv l)):Ss w w.heap.size v l:=by
 have hn:l.length=n:=by have:=h.1;rw[yXt] at this;omega
 subst hn
 rcases h.2 with ⟨hv,h0⟩ | ⟨g,cap,cur,hv,_,hh,hc,_⟩
 ·have hl:l=[]:=List.eq_nil_of_length_eq_zero h0
  subst hl;exact⟨none,0,hv,Nat.le_refl _,fun j u hu=>by simp at hu⟩
 ·refine⟨some ⟨g,0,none⟩,cap,hv,hc,fun j u hu=>⟨g,0,rfl,qC hh,?_⟩⟩
  have:=h.cells (g:=g) (by rw[hv];rfl) j (.string u) (by simp[sv,hu]);have e:(⟨g,0,none⟩:Addr).add j=⟨g,0+j,none⟩:=by unfold Addr.add;split<;>simp_all
  rw[←e]
  simpa using this
theorem Ss.form {w:World} {B:Nat} {v:Value} {l:List ByteArray} (h:Ss w B v l) (h0:0<l.length) :
  ∃b o c,v = .slice (some ⟨b,o,none⟩) l.length c∧l.length≤c∧b<B∧∀(j:Nat) (u:ByteArray),l[j]? = some u→w.cell? ⟨b,o+j,none⟩=some (.string u):=by
 obtain⟨A,c,hv,hlc,hc⟩:=h;obtain⟨b,o,hA,hlt,_⟩:=hc 0 l[0] (List.getElem?_eq_getElem h0);refine⟨b,o,c,by rw[hv,hA],hlc,hlt,fun j u hu=>?_⟩;obtain⟨b',o',hA',_,hcell⟩:=hc j u hu;rw[hA] at hA';injection hA' with hA';injection hA' with h1 h2;subst h1 h2;exact hcell
theorem yC {w w':World} {base:Nat} {e:TypeId} {size:Nat} {v:Value} {n:Nat} {xs:List Value} (h:w.ownsRow base e size v n xs) (hb:Below w.heap.size w w'):w'.ownsRow base e size v n xs:=by
 refine⟨h.1,?_⟩
 rcases h.2 with h2 | ⟨g,cap,cur,hv,hbg,hh,d⟩
 ·exact .inl h2
 ·exact .inr ⟨g,cap,cur,hv,hbg,qS hh hb,d⟩
theorem aO:(Tryz.prog.info? 9).map (fun i=>(i.zero,i.size,i.bytes))=some (some (.string ⟨#[]⟩),1,16):=by kernel_rfl
def zXk (l:List ByteArray) (W:World) (e:Ending) (w':World):Prop:=∃v,e = .returned v∧Ss w' w'.heap.size v l∧Below W.heap.size W w'
theorem gU {b c:Bool} {W w':World} (h:c=b) (hb:Below W.heap.size W w'):fJ c W (.returned (.bool b)) w':=⟨by rw[h],hb⟩
theorem zI6 {l:List ByteArray} {W w':World} (h:l=[]) (hb:Below W.heap.size W w'):zXk l W (.returned (.slice none 0 0)) w':=by subst h;exact⟨_,rfl,Ss.nil _ _,hb⟩
theorem zI7 {l l':List ByteArray} {W w':World} {base:Nat} {e:TypeId} {v:Value} {n:Nat} (h:l=l') (ho:w'.ownsRow base e 1 v n (sv l')) (hb:Below W.heap.size W w'):zXk l W (.returned v) w':=by subst h;exact⟨_,rfl,Ss.own ho,hb⟩
theorem zI8 {l:List ByteArray} {f:ByteArray→Bool} (h:∀(j:Nat) y,j<l.length→l[j]? = some y→f y=true):(l.all f)=true:=by
 rw[List.all_eq_true];intro y hy;obtain⟨j,hj,rfl⟩:=List.getElem_of_mem hy;exact h j _ hj (List.getElem?_eq_getElem hj)
theorem zCr {l:List ByteArray} {f:ByteArray→Bool} {j:Nat} {y:ByteArray} (h:l[j]? = some y) (hp:f y=false):(l.all f)=false:=by
 rw[List.all_eq_false];exact⟨y,List.mem_of_getElem? h,by rw[hp];simp⟩
theorem zMd {l:List ByteArray} {Q:Nat→ByteArray→Prop} {k:Nat} {y:ByteArray} (h:∀(j:Nat) y,j<k→l[j]? = some y→Q j y) (hy:l[k]? = some y) (hq:Q k y):∀(j:Nat) y,j<k+1→l[j]? = some y→Q j y:=by
 intro j z hj hz
 rcases Nat.lt_or_ge j k with h1 | h1
 ·exact h j z h1 hz
 ·obtain rfl:j=k:=by omega
  rw[hy] at hz;injection hz with hz;rw[←hz];exact hq
def tcl (t:Tok×Nat):List Value:=[.int .i64 t.1.k,.string (T t.1.x),.int .i64 t.1.n,.int .i64 ((t.2:Nat):Int)]
def tcel:List (Tok×Nat)→List Value
 | []=>[]
 | t::r=>tcl t++tcel r
theorem zI9 (l:List (Tok×Nat)):(tcel l).length=l.length*4:=by
 induction l with
 | nil=>rfl
 | cons t r ih=>show(tcl t++tcel r).length=_;rw[List.length_append,ih,List.length_cons];show 4+_=_;omega
theorem tJ (a b:List (Tok×Nat)):tcel (a++b)=tcel a++tcel b:=by
 induction a with
 | nil=>rfl
 | cons t r ih=>show tcl t++tcel (r++b)=_;rw[ih,←List.append_assoc];rfl
theorem zCs {l:List (Tok×Nat)} {j:Nat} {t:Tok×Nat} (h:l[j]? = some t) {i:Nat} {u:Value} (hu:(tcl t)[i]? = some u):(tcel l)[j*4+i]? = some u:=by
 have hi:i<4:=(List.getElem?_eq_some_iff.1 hu).1
 induction l generalizing j with
 | nil=>simp at h
 | cons x r ih=>
  show(tcl x++tcel r)[j*4+i]? = _
  cases j with
  | zero=>
   simp at h;subst h
   rw[Nat.zero_mul,Nat.zero_add,List.getElem?_append_left (by exact hi)];exact hu
  | succ j=>
   rw[List.getElem?_append_right (by show 4≤_;omega)];have:(j+1)*4+i-(tcl x).length=j*4+i:=by show _-4=_;omega
   rw[this];exact ih (by simpa using h)
def Tks (w:World) (B:Nat) (v:Value) (l:List (Tok×Nat)):Prop:=
 ∃A c,v = .slice A l.length c∧∀(j:Nat) t,l[j]? = some t→∃ad,A=some ad∧ad.block<B∧∀i u,(tcl t)[i]? = some u→w.cell? (ad.add (j*4+i))=some u
theorem Tks.nil (w:World) (B:Nat):Tks w B (.slice none 0 0) []:=⟨none,0,rfl,fun j u hu=>by simp at hu⟩
theorem Tks.own {w:World} {base:Nat} {e:TypeId} {v:Value} {n:Nat} {l:List (Tok×Nat)} (h:w.ownsRow base e 4 v n (tcel l)):Tks w w.heap.size v l:=by
 have hn:l.length=n:=by have:=h.1;rw[zI9] at this;omega
 subst hn
 by_cases h0:0<l.length
 ·obtain⟨g,cap,hv,_,hlt⟩:=h.form h0
  refine⟨some ⟨g,0,none⟩,cap,hv,fun j t ht=>⟨_,rfl,hlt,fun i u hu=>?_⟩⟩;exact h.cells (g:=g) (by rw[hv];rfl) _ _ (zCs ht hu)
 ·have hl:l=[]:=List.eq_nil_of_length_eq_zero (by omega)
  subst hl
  rcases h.2 with ⟨hv,_⟩ | ⟨g,cap,cur,hv,_⟩
  ·exact⟨none,0,hv,fun j u hu=>by simp at hu⟩
  ·exact⟨_,cap,hv,fun j u hu=>by simp at hu⟩
def aQ (r:List (Tok×Nat)×Int×Int) (W:World) (e:Ending) (w':World):Prop:=
 ∃v,e = .returned (.tuple #[v,.int .i64 r.2.1,.int .i64 r.2.2])∧Tks w' w'.heap.size v r.1∧Below W.heap.size W w'
theorem gV {r:List (Tok×Nat)×Int×Int} {W w':World} {a b:Int} (h:r=([],a,b)) (hb:Below W.heap.size W w'):aQ r W (.returned (.tuple #[.slice none 0 0,.int .i64 a,.int .i64 b])) w':=by
 subst h;exact⟨_,rfl,Tks.nil _ _,hb⟩
theorem zPh {r:List (Tok×Nat)×Int×Int} {W w':World} {base:Nat} {e:TypeId} {v:Value} {n:Nat} {l:List (Tok×Nat)} (h:r=(l,0,0)) (ho:w'.ownsRow base e 4 v n (tcel l)) (hb:Below W.heap.size W w') :
  aQ r W (.returned (.tuple #[v,.int .i64 0,.int .i64 0])) w':=by
 subst h;exact⟨_,rfl,Tks.own ho,hb⟩
theorem vK (w:World) (o:Obj) (a b c d:Value) (t:TypeId):∀(j:Nat) u,[a,b,c,d][j]? = some u→((w.alloc o).alloc (.cells #[a,b,c,d] t)).cell? ((⟨w.heap.size+1,0,none⟩:Addr).add j)=some u:=by
 intro j u hj;have hb:((w.alloc o).alloc (.cells #[a,b,c,d] t)).heap[w.heap.size+1]? = some (.cells #[a,b,c,d] t (0,0)):=heap_alloc2_new w _ _;have e:(⟨w.heap.size+1,0,none⟩:Addr).add j=⟨w.heap.size+1,j,none⟩:=by unfold Addr.add;split<;>simp_all
 rw[e,cell_of_row _ _ j _ _ _ hb,←hj]
 simp
theorem tK {a b c d:Value} (ha:a.oneCell'=true) (hb:b.oneCell'=true) (hc:c.oneCell'=true) (hd:d.oneCell'=true):∀u∈[a,b,c,d],u.oneCell'=true:=by
 intro u hu;simp only[List.mem_cons,List.not_mem_nil,or_false] at hu
 rcases hu with rfl | rfl | rfl | rfl<;>assumption
theorem zXl:(Tryz.prog.info? 53).map (fun i=>(i.zero,i.size,i.bytes))=some (some (.agg #[.int .i64 0,.string ⟨#[]⟩,.int .i64 0,.int .i64 0]),4,40):=by kernel_rfl
def Rel (L:List Nat) (out:List (Tok×Nat)) (b:List Nat) (a:Nat):Prop:=
 match lexL b a with | .inl r=>lexL L 0 = .inl (out++r) | .inr e=>lexL L 0 = .inr e
theorem zZn (L:List Nat):Rel L [] L 0:=by
 unfold Rel
 cases h:lexL L 0 with
 | inl r=>rfl
 | inr e=>rfl
theorem zPi {L b:List Nat} {out:List (Tok×Nat)} {a:Nat} (h:Rel L out b a) (e:b.drop (btw b)=[]):lexL L 0 = .inl out:=by
 unfold Rel at h;rw[vJ e] at h
 simpa using h
theorem zPj {L b:List Nat} {out:List (Tok×Nat)} {a:Nat} (h:Rel L out b a) (e:b.drop (btw b)≠[]) (e2:tokT (b.drop (btw b))=none):lexL L 0 = .inr (a+sz (b.take (btw b))):=by
 unfold Rel at h;rw[wV e e2] at h;exact h
theorem zVt {L b:List Nat} {out:List (Tok×Nat)} {a:Nat} {t:Tok} {n:Nat} (h:Rel L out b a) (e:b.drop (btw b)≠[]) (e2:tokT (b.drop (btw b))=some (t,n)) :
  Rel L (out++[(t,a+sz (b.take (btw b)))]) ((b.drop (btw b)).drop n) (a+sz (b.take (btw b))+sz ((b.drop (btw b)).take n)):=by
 unfold Rel at h ⊢;rw[jQ e e2] at h
 cases hx:lexL ((b.drop (btw b)).drop n) (a+sz (b.take (btw b))+sz ((b.drop (btw b)).take n)) with
 | inl r=>rw[hx] at h;simpa using h
 | inr e=>rw[hx] at h;exact h
theorem zPk {s:ByteArray} {a b:Int} (h:ckr s=(a,b)) (hb:b≠0):lexR s=([],a,b):=by
 unfold lexR;rw[h,if_neg hb]
theorem zPl {s:ByteArray} {l:List (Tok×Nat)} (h:(ckr s).2=0) (e:lexL (rns s 0) 0 = .inl l):lexR s=(l,0,0):=by
 unfold lexR;rw[if_pos h,e]
theorem mX {s:ByteArray} {a:Nat} (h:(ckr s).2=0) (e:lexL (rns s 0) 0 = .inr a):lexR s=([],(a:Int),5):=by
 unfold lexR;rw[if_pos h,e]
theorem zIa {s:ByteArray} (h:(ckr s).2=0):ckr s=(0,0)∧vls s 0=true∧(∀r∈rns s 0,rdb (r:Int)=true)∧s.size≤16384:=by
 unfold ckr at h ⊢
 by_cases hs:16384<s.size
 ·rw[if_pos hs] at h;exact absurd h (by decide)
 ·rw[if_neg hs] at h ⊢
  rcases yYt s 0 with ⟨h1,h2,h3,h4⟩ | h1
  ·exact⟨Prod.ext h2 h1,h3,h4,by omega⟩
  ·rw[h] at h1;exact absurd h1 (by decide)
theorem aR (s:ByteArray) (hs:s.size≤1000000000) (w:World) (hL:Lx w) :
  Calls Tryz.prog 20 #[.string s] w (aQ (lexR s) w):=by
 have cK:=zM7 s w hs;have hck:mS s w=fun e w'=>e = .returned (.tuple #[.int .i64 (ckr s).1,.int .i64 (ckr s).2])∧Below w.heap.size w w':=rfl
 rw[hck] at cK;clear hck
 by_cases hok:(ckr s).2=0
 ·obtain⟨hc,hv,hrd,hsz⟩:=zIa hok
  rw[hc] at cK;obtain⟨L,hLd⟩:∃L,rns s 0=L:=⟨_,rfl⟩;have hT:T L=s:=by rw[←hLd];exact zJo hv
  have hoL:okl L:=by rw[←hLd];exact aI hv
  have HOK:=Lib.hid hok;have HLD:=Lib.hid hLd;have HS:=Lib.hid hT;obtain⟨i0,hi,hz0,hz1,hz2⟩:=info_parts zXl;clear hok hc hv hrd hLd hT
  go_enter Tryz.func20,Tryz.ntmps20
  go_wp2_with fail;refine cK.mono ?_;rintro e w1 ⟨rfl,hb1⟩
  go_wp2
  go_loopw [2,3] (fun v x wr=>∃(a b:List Nat) (out:List (Tok×Nat)),L=a++b∧x = .int .i64 (sz a:Nat)∧sz a≤s.size∧out.length≤sz a∧wr.ownsRow w.heap.size 53 4 v out.length (tcel out)∧Below w.heap.size w wr∧Rel L out b (sz a)) (fun _ x _=>s.size-(intOf x).toNat)
  case atStart=>exact⟨[],L,[],rfl,rfl,Nat.zero_le _,Nat.zero_le _,⟨rfl,.inl ⟨rfl,rfl⟩⟩,hb1,zZn L⟩
  case round=>
   obtain⟨a,b,out,hl,rfl,hle,hol,hown,hbw,hrel⟩:=hrel;have hob:=(vH.1 (hl▸hoL)).2;have hbl:=zJp b;obtain⟨c,hc⟩:∃c,b.take (btw b)=c:=⟨_,rfl⟩;obtain⟨d,hd⟩:∃d,b.drop (btw b)=d:=⟨_,rfl⟩;have hbcd:b=c++d:=by rw[←hc,←hd];exact(List.take_append_drop _ _).symm
   have hod:=(vH.1 (hbcd▸hob)).2;have hszs:s.size=sz a+(sz c+sz d):=by rw[←HS.out,qO,hl,hbcd,sz_app,sz_app]
   have E1:Hid (s.extract (sz a) s.size=T b):=Lib.hid (by rw[←HS.out,qO,hl];exact tG a b);have E2:Hid (s.extract (sz a+sz c) s.size=T d):=Lib.hid (by rw[←HS.out,qO,hl,hbcd,←List.append_assoc,←sz_app];exact tG (a++c) d);have hzb:sz b≤1000000000:=by rw[hbcd,sz_app];omega
   have c1:=fun W=>jA b hob W hzb
   rw[hc] at c1;have hac:sz a+sz c≤s.size:=by omega
   by_cases hde:d=[]
   ·have HEND:=Lib.hid (zPi hrel (by rw[hd];exact hde))
    have hat:((sz a:Int)+(sz c:Int)==(s.size:Int))=true:=by
     rw[hde,yY] at hszs;rw[beq_iff_eq];omega
    have hat2:(sz a:Int)+(sz c:Int)=(s.size:Int):=by simpa using hat
    have HOWN:=Lib.hid hown;have HLD2:=HLD;clear hl hc hd hbcd hde hszs hrel hown;clear hat;go_wp2_with fail;rw[E1.out];refine(c1 _).mono ?_;rintro e w2 ⟨rfl,hb2⟩;have hfin:=hbw.trans (hb2.mono hbw.size);have HOWN2:=Lib.hid (yC HOWN.out hb2);clear HOWN
    go_wp2
    go_ret3
    exact zPh (zPl HOK.out (by rw[HLD2.out];exact HEND.out)) HOWN2.out hfin
   ·obtain⟨r,u,hru⟩:∃r u,d=r::u:=by
     cases d with
     | nil=>exact absurd rfl hde
     | cons r u=>exact⟨r,u,rfl⟩
    have hwr:=mU r;have hzd:sz d=wd r+sz u:=by rw[hru,zO]
    have hat:((sz a:Int)+(sz c:Int)==(s.size:Int))=false:=by
     rw[beq_eq_false_iff_ne];omega
    have cT:=fun W hL=>zMc r u (hru▸hod) (by rw[←hru];omega) W hL
    rw[←hru] at cT
    cases htok:tokT d with
    | none=>
     have HBAD:=Lib.hid (zPj hrel (by rw[hd];exact hde) (by rw[hd];exact htok));have HC:=Lib.hid hc;rw[htok] at cT;have CT:=Lib.hid cT;have HOWN:=Lib.hid hown;clear hl hc hd hbcd hde hszs hrel hown hru hzd htok cT;go_wp2_with fail;rw[E1.out];refine(c1 _).mono ?_;rintro e w2 ⟨rfl,hb2⟩;have hbw2:=hbw.trans (hb2.mono hbw.size);go_wp2_with fail;rw[E2.out];refine(CT.out w2 (hL.below hbw2)).mono ?_;rintro e w3 ⟨rfl,hb3⟩;have hfin:=hbw2.trans (hb3.mono hbw2.size);have hsz3:=hfin.size;unfold tv0
     go_wp2
     go_ret3
     refine gV ?_ (hfin.alloc hsz3 _);have hh:=HBAD.out;rw[HC.out] at hh;rw[mX HOK.out (by rw[HLD.out];exact hh)]
     go_num
    | some tn=>
     obtain⟨t,n⟩:=tn;have hn:=jD htok;have HNEXT:=Lib.hid (zVt hrel (by rw[hd];exact hde) (by rw[hd];exact htok));obtain⟨f,hf⟩:∃f,d.take n=f:=⟨_,rfl⟩;obtain⟨g,hg⟩:∃g,d.drop n=g:=⟨_,rfl⟩;have hdfg:d=f++g:=by rw[←hf,←hg];exact(List.take_append_drop _ _).symm
     have hzf:1≤sz f:=by
      have h1:=rO f;have h2:f.length=n:=by rw[←hf,List.length_take];omega
      omega
     have hzfg:sz d=sz f+sz g:=by rw[hdfg,sz_app]
     have HREL:Hid (Rel L (out++[(t,sz a+sz c)]) g (sz (a++(c++f)))):=Lib.hid (by
      have:=HNEXT.out;rw[hd,hc,hf,hg] at this;rw[sz_app,sz_app,←Nat.add_assoc];exact this)
     have HL2:Hid (L=(a++(c++f))++g∧sz (a++(c++f))=sz a+sz c+sz f):=Lib.hid ⟨by rw[hl,hbcd,hdfg];simp,by rw[sz_app,sz_app];omega⟩;have hnew:sz a+sz c+sz f≤s.size:=by omega
     have hz0':((sz f:Int)==0)=false:=by rw[beq_eq_false_iff_ne];omega
     rw[htok] at cT;have CT:Hid (∀W,Lx W→Calls Tryz.prog 43 #[.string (T d)] W fun e w'=>e = .returned (.tuple #[.agg #[.int .i64 t.k,.string (T t.x),.int .i64 t.n,.int .i64 0],.int .i64 (sz f:Nat)])∧Below W.heap.size W w'):=Lib.hid (fun W hL=>(cT W hL).mono fun _ _ k=>by rw[←hf];exact k);obtain⟨K,hK⟩:∃K,t.k=K:=⟨_,rfl⟩;obtain⟨X,hX⟩:∃X,T t.x=X:=⟨_,rfl⟩;obtain⟨M,hM⟩:∃M,t.n=M:=⟨_,rfl⟩;rw[hK,hX,hM] at CT;have HTC:Hid (tcl (t,sz a+sz c)=[.int .i64 K,.string X,.int .i64 M,.int .i64 ((sz a+sz c:Nat):Int)]):=Lib.hid (by unfold tcl;rw[hK,hX,hM]);have HOWN:=Lib.hid hown;clear hl hc hd hbcd hde hszs hrel hown hru hzd htok cT hf hg hdfg hzfg hK hX hM HNEXT;go_wp2_with fail;rw[E1.out];refine(c1 _).mono ?_;rintro e w2 ⟨rfl,hb2⟩;have hbw2:=hbw.trans (hb2.mono hbw.size);go_wp2_with fail;rw[E2.out];refine(CT.out w2 (hL.below hbw2)).mono ?_;rintro e w3 ⟨rfl,hb3⟩;have hfin:=hbw2.trans (hb3.mono hbw2.size);have hsz3:=hfin.size;have hown3:=yC (yC HOWN.out hb2) hb3;have HOWN3:=Lib.hid hown3;clear hown3 HOWN
     go_wp2_with (at_builtin;(refine wpList_append_own _ rfl _ _ 22 rfl w.heap.size 53 i0 (.agg #[.int .i64 0,.string ⟨#[]⟩,.int .i64 0,.int .i64 0]) 4 40 Tryz.underlying22 hi hz0 hz1 hz2 rfl (by decide) _ _ _ rfl ((HOWN3.out.alloc _).alloc _) ⟨w3.heap.size+1,0,none⟩ 1 1 [.int .i64 K,.string X,.int .i64 M,.int .i64 ((sz a:Int)+(sz c:Int))] rfl rfl (vK _ _ _ _ _ _ _) (tK rfl rfl rfl rfl) (by unfold maxLen;omega) (by omega) (by simp;omega) ?_);intro v' w4 hown4 hgrow4 _)
     have hbel:=((hfin.alloc hsz3 _).alloc (by simp;omega) _).grown hgrow4 (by simp;omega) (fun g hg=>(HOWN3.out.lt g hg).1);have HBEL:=Lib.hid hbel;have HOWN4:=Lib.hid hown4;clear hbel hown4 hgrow4
     go_roundw
     case rel=>
      refine⟨a++(c++f),g,out++[(t,sz a+sz c)],HL2.out.1,by rw[HL2.out.2];go_num,by rw[HL2.out.2];exact hnew,by rw[HL2.out.2,List.length_append,List.length_singleton];omega,?_,HBEL.out,HREL.out⟩;have e:tcel (out++[(t,sz a+sz c)])=tcel out++[.int .i64 K,.string X,.int .i64 M,.int .i64 ((sz a:Int)+(sz c:Int))]:=by
       rw[tJ]
       show tcel out++(tcl _++[])=_
       rw[List.append_nil,HTC.out,Int.natCast_add]
      rw[e,List.length_append,List.length_singleton];exact HOWN4.out
     case measure=>simp[intOf];omega
 ·obtain⟨x,y,hxy⟩:∃x y,ckr s=(x,y):=⟨_,_,rfl⟩
  rw[hxy] at cK hok;have hy:(y==0)=false:=by rw[beq_eq_false_iff_ne];exact hok
  have hy2:(y != 0)=true:=by rw[bne,hy];rfl
  have HXY:=Lib.hid hxy;have HOK:=Lib.hid hok;clear hxy hok
  go_enter Tryz.func20,Tryz.ntmps20
  go_wp2_with fail;refine cK.mono ?_;rintro e w1 ⟨rfl,hb1⟩
  go_wp2
  go_ret3
  exact gV (zPk HXY.out HOK.out) hb1
theorem Tks.len {w:World} {B:Nat} {A:Option Addr} {n c:Nat} {l:List (Tok×Nat)} (h:Tks w B (.slice A n c) l):n=l.length:=by
 obtain⟨A',c',hv,hc⟩:=h;injection hv
theorem Tks.form {w:World} {B:Nat} {v:Value} {l:List (Tok×Nat)} (h:Tks w B v l):∃A c,v = .slice A l.length c:=by
 obtain⟨A',c',hv,hc⟩:=h;exact⟨A',c',hv⟩
end Go.Proofs.YtbpijnalmakfaaaGreatDoor.B
