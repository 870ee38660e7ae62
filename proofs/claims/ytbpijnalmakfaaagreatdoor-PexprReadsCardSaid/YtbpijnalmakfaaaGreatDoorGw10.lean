/-
  Plain facts, without the program: going along a text's runes with a state; what Check, Name, Cut and Place tell.
-/
import Derived.Test.YtbpijnalmakfaaaGreatDoorGw06
import Derived.Test.YtbpijnalmakfaaaGreatDoorGw08
set_option maxHeartbeats 40000000
set_option maxRecDepth 100000
namespace Go.Proofs.YtbpijnalmakfaaaGreatDoor.B
open Go.Lib
section
variable {σ α:Type} {s:ByteArray} {stop:σ→Nat→Option α} {next:σ→Nat→σ} {fin:σ→α}
end
section
variable {σ α:Type} {s:ByteArray} {stop:σ→Nat→Option α} {next:σ→Nat→σ} {fin:σ→α}
end
def ct (s:ByteArray) (n:Int) (p:Nat):Nat:=vT s (fun(n:Int) p=>if n≤0 then some p else none) (fun n _=>n-1) (fun _=>s.size) n p
theorem yW9 (r:Nat) (hv:r<55296∨(57343<r∧r≤1114111)):Utf8.encode (r:Int)=⟨(encodeRune (r:Int)).toArray⟩:=by
 have v:Utf8.valid (r:Int)=true:=by
  unfold Utf8.valid;simp only[Bool.or_eq_true,Bool.and_eq_true,decide_eq_true_eq];omega
 unfold Utf8.encode;simp only[v,if_true,Int.toNat_natCast];unfold encodeRune
 by_cases h1:r<128
 ·rw[if_pos h1,encodeRuneZ_one (by omega) (by omega)]
  simp only[List.map_cons,List.map_nil];rw[byteZ _ r rfl]
 rw[if_neg h1]
 by_cases h2:r<2048
 ·rw[if_pos h2,encodeRuneZ_two (by omega) (by omega)]
  simp only[List.map_cons,List.map_nil];rw[byteZ _ (192+r / 64) (by omega),byteZ _ (128+r % 64) (by omega)]
 rw[if_neg h2]
 by_cases h3:r<65536
 ·rw[if_pos h3,encodeRuneZ_three (by omega)]
  simp only[List.map_cons,List.map_nil];rw[byteZ _ (224+r / 4096) (by omega),byteZ _ (128+r / 64 % 64) (by omega),byteZ _ (128+r % 64) (by omega)]
 ·rw[if_neg h3,encodeRuneZ_four (by omega) (by omega)]
  simp only[List.map_cons,List.map_nil];rw[byteZ _ (240+r / 262144) (by omega),byteZ _ (128+r / 4096 % 64) (by omega),byteZ _ (128+r / 64 % 64) (by omega),byteZ _ (128+r % 64) (by omega)]
theorem iS {l:List Nat} (h:okl l) (n:Nat):okl (l.take n):=zP5 h fun _ hr=>List.mem_of_mem_take hr
end Go.Proofs.YtbpijnalmakfaaaGreatDoor.B
namespace Go.Proofs.YtbpijnalmakfaaaGreatDoor.B
open Go.RowKit
theorem yWa (a:Addr) (i j:Nat):(a.add i).add j=a.add (i+j):=by
 by_cases hi:i=0
 ·subst hi
  have e:a.add 0=a:=by simp[Addr.add]
  rw[e,Nat.zero_add]
 ·by_cases hj:j=0
  ·subst hj
   have e:∀b:Addr,b.add 0=b:=fun b=>by simp[Addr.add]
   rw[e,Nat.add_zero]
  ·unfold Addr.add
   simp[hi,hj,Nat.add_assoc]
theorem Rc.newc (w:World) (cs:Array Value):Rc (w.alloc (.cells cs 53)) w.heap.size cs:=heap_alloc_new w _
theorem yWb (s:ByteArray):(rl s).length≤s.size:=by
 unfold rl
 split
 ·have:=eX s 0;omega
 ·simp
theorem zH0 (s:ByteArray) (w:World) (hs:s.size≤1000000000) :
  Calls Tryz.prog 29 #[.string s] w (mS s w):=by
 by_cases hbig:16384<s.size
 ·have hz:(16384:Int)<(s.size:Int):=by omega
  go_enter Tryz.func29,Tryz.ntmps29
  go_wp2
  go_ret2
  exact zP4 hbig (Below.refl _ _)
 ·have hz:¬(16384:Int)<(s.size:Int):=by omega
  go_enter Tryz.func29,Tryz.ntmps29
  go_wp2
  go_loop [4] (fun i=>∃p:Nat,i = .int .i64 p∧p≤s.size∧ck s p=ck s 0) (fun i=>s.size-(intOf i).toNat)
  case atStart=>exact⟨0,rfl,Nat.zero_le _,rfl⟩
  case round=>
   obtain⟨p,rfl,hp,hc⟩:=hrel;have HC:=Lib.hid hc;clear hc
   by_cases hlt:p<s.size
   ·by_cases hb:bad s p=true
    ·have hnx:=fI hb
     have HB:=Lib.hid hb;clear hb;have cN:∀W,Calls Tryz.prog 65 #[.string s,.int .i64 p] W _:=fun W=>aW W hlt (by omega) hnx
     clear hnx
     go_wp2_with (go_at_call 65;refine(cN _).mono ?_;rintro e w' ⟨rfl,rfl⟩)
     go_ret2
     exact eZ hbig (by rw[←HC.out];exact aE hlt (by rw[zX4 HB.out];rfl)) (Below.refl _ _)
    ·have hb':bad s p=false:=by simpa using hb
     clear hb;have hnx:=nW hb';clear hb';have hw1:=kT s p;have hw2:=eU s p hlt;have HS:=Lib.hid (aE (s:=s) hlt);have HN:=Lib.hid (aF (s:=s) hlt);obtain⟨r,k,hrk⟩:∃r k,dc s p=(r,k):=⟨_,_,rfl⟩;rw[hrk] at hnx hw1 hw2 HS HN
     dsimp only at hw1 hw2 HS HN
     clear hrk;have cN:∀W,Calls Tryz.prog 65 #[.string s,.int .i64 p] W _:=fun W=>aW W hlt (by omega) hnx
     clear hnx;have hk0:((k:Int)==0)=false:=by simp;omega
     go_wp2_with (go_at_call 65;refine(cN _).mono ?_;rintro e w' ⟨rfl,rfl⟩)
     all_goals first
      | (go_ret2
         exact eZ hbig (by rw[←HC.out];exact HS.out (zX3 _ _ (by simp only[beq_iff_eq,beq_eq_false_iff_ne,ne_eq,Bool.false_eq_true,false_iff] at *;omega))) (Below.refl _ _))
      | (go_round
         case rel=>exact⟨p+k,by go_num,hw2,by rw[←HN.out (zX3 _ _ (by simp only[beq_eq_false_iff_ne,ne_eq,true_iff] at *;omega))];exact HC.out⟩
         case measure=>simp[intOf];omega)
   ·have e1:=zX5 hlt
    have hc:=HC.out;rw[e1] at hc;have HC2:=Lib.hid hc;clear hc e1
    go_wp2
    go_ret2
    exact eZ hbig HC2.out.symm (Below.refl _ _)
theorem rX (n:Nat) (w:World):Calls Tryz.prog 133 #[.int .i32 (n:Int)] w fun e w'=>e = .returned (.bool (inr n))∧w=w':=by
 obtain⟨c,hc⟩:∃c,inr n=c:=⟨_,rfl⟩;have cC:∀W,Calls Tryz.prog 32 #[.int .i32 (n:Int)] W _:=fun W=>gC (n:Int) W
 obtain⟨k,hk⟩:∃k,cls (n:Int)=k:=⟨_,rfl⟩;have hin:decide (k=1∨k=2∨(n:Int)=39)=c:=by
  rw[←hc,←hk];unfold inr;rw[decide_eq_decide];omega
 rw[hk] at cC;rw[hc];have HC:=Lib.hid hin;clear hc hk hin;obtain⟨r,hr⟩:∃r:Int,(n:Int)=r:=⟨_,rfl⟩;rw[hr] at cC HC ⊢;clear hr
 go_enter Tryz.func133,Tryz.ntmps133
 go_wp2_with (go_at_call 32;refine(cC _).mono ?_;rintro e w' ⟨rfl,rfl⟩)
 all_goals go_ret
 all_goals
  refine⟨kN (HC.out.symm.trans ?_),rfl⟩
  first
   | (rw[decide_eq_true_iff];omega)
   | (rw[Bool.eq_iff_iff];simp only[decide_eq_true_iff,Bool.or_eq_true,beq_iff_eq];omega)
def pI (n:Nat) (W:World) (e:Ending) (w':World):Prop:=e = .returned (.int .i64 (n:Int))∧W=w'
theorem tM {n:Nat} {z:Int} {W:World} (h:z=(n:Int)):pI n W (.returned (.int .i64 z)) W:=⟨by rw[h],rfl⟩
theorem iU {f:Nat→Bool} {l:List Nat} {i r:Nat} (h:l[i]? = some r):cnt f (l.drop i)=if f r then cnt f (l.drop (i+1))+1 else 0:=by
 have hi:i<l.length:=(List.getElem?_eq_some_iff.1 h).1;have hr:=(List.getElem?_eq_some_iff.1 h).2;rw[List.drop_eq_getElem_cons hi,hr]
 rfl
theorem zMr (v:Value) (l:List Nat) (B i:Nat) (w:World) (h:Sl w B v l) (hi:i≤l.length) (hl:l.length≤1000000) :
  Calls Tryz.prog 130 #[v,.int .i64 (i:Int)] w (pI (cnt inr (l.drop i)) w):=by
 obtain⟨A,c,rfl,hlc,hA⟩:=h;have HA:=Lib.hid hA;obtain⟨ANS,hans⟩:∃n,cnt inr (l.drop i)=n:=⟨_,rfl⟩;rw[hans];have HANS:=Lib.hid hans;obtain⟨n,hn⟩:∃n,l.length=n:=⟨_,rfl⟩;rw[hn] at hl hi hlc ⊢;have HN:=Lib.hid hn;clear hA hans hn
 go_enter Tryz.func130,Tryz.ntmps130
 go_wp2
 go_loop [5] (fun x=>∃k:Nat,x = .int .i64 k∧i+k≤n∧k+cnt inr (l.drop (i+k))=ANS) (fun x=>n-(intOf x).toNat)
 case atStart=>exact⟨0,rfl,hi,by rw[Nat.zero_add];exact HANS.out⟩
 case round=>
  obtain⟨k,rfl,hk,hc⟩:=hrel;have HC:=Lib.hid hc;clear hc
  by_cases hlt:i+k<n
  ·obtain⟨r,hr⟩:∃r,l[i+k]? = some r:=⟨_,List.getElem?_eq_getElem (by rw[HN.out];exact hlt)⟩
   obtain⟨ad,rfl,_,hcell⟩:=HA.out _ _ hr;have HAT:=Lib.hid (iU (f:=inr) hr);have hz:(i:Int)+(k:Int)<(n:Int):=by omega
   have cI:=fun W=>rX r W
   obtain⟨b,hb⟩:∃b,inr r=b:=⟨_,rfl⟩;rw[hb] at cI HAT;clear hr hb
   cases b
   ·go_wp2_with (go_at_call 133;refine(cI _).mono ?_;rintro e w' ⟨rfl,rfl⟩)
    go_ret
    exact tM (by have h1:=HC.out;have h2:=HAT.out;simp at h2;omega)
   ·go_wp2_with (go_at_call 133;refine(cI _).mono ?_;rintro e w' ⟨rfl,rfl⟩)
    go_round
    case rel=>exact⟨k+1,by go_num,by omega,by have h1:=HC.out;have h2:=HAT.out;simp at h2;rw[←Nat.add_assoc];omega⟩
    case measure=>simp[intOf];omega
  ·have hz:¬(i:Int)+(k:Int)<(n:Int):=by omega
   go_wp2
   go_ret
   exact tM (by
    have h1:=HC.out;rw[List.drop_eq_nil_of_le (by rw[HN.out];omega)] at h1;have h2:cnt inr []=0:=rfl
    omega)
def vL (s:ByteArray) (W:World) (e:Ending) (w':World):Prop:=e = .returned (.string s)∧W=w'
theorem zH1 {s t:ByteArray} {W:World} (h:t=s):vL s W (.returned (.string t)) W:=⟨by rw[h],rfl⟩
theorem zBc {r:Nat} (h:ok r):ByteArray.empty++Utf8.encode (r:Int)=T [r]:=by
 have h':r<55296∨(57343<r∧r≤1114111):=h;rw[yW9 r h']
 apply jK
 rw[ByteArray.data_append,Array.toList_append,yX]
 show[]++Lib.encodeRune (r:Int)=en r++[]
 rw[List.append_nil]
 rfl
theorem zH2 (l:List Nat):sz l≤4*l.length:=by
 induction l with
 | nil=>exact Nat.le_refl _
 | cons r t ih=>
  have:=(mU r).2;rw[zO,List.length_cons];omega
theorem iV (v:Value) (l:List Nat) (B i j:Nat) (w:World) (h:Sl w B v l) (ho:okl l) (hi:i≤j) (hj:j≤l.length) (hl:l.length≤1000000) :
  Calls Tryz.prog 31 #[v,.int .i64 (i:Int),.int .i64 (j:Int)] w (vL (T ((l.drop i).take (j-i))) w):=by
 obtain⟨A,c,rfl,hlc,hA⟩:=h;have HA:=Lib.hid hA;obtain⟨n,hn⟩:∃n,l.length=n:=⟨_,rfl⟩;rw[hn] at hl hj hlc ⊢;have HN:=Lib.hid hn;obtain⟨ANS,hans⟩:∃s,T ((l.drop i).take (j-i))=s:=⟨_,rfl⟩;rw[hans];have HANS:=Lib.hid hans;clear hA hn hans
 go_enter Tryz.func31,Tryz.ntmps31
 go_wp2
 go_loop [7,8] (fun s x=>∃k:Nat,x = .int .i64 (i+k:Nat)∧i+k≤j∧s = .string (T ((l.drop i).take k))) (fun _ x=>j-(intOf x).toNat)
 case atStart=>exact⟨0,by simp,by omega,rfl⟩
 case round=>
  obtain⟨k,rfl,hk,rfl⟩:=hrel;obtain⟨p,hp⟩:∃p,i+k=p:=⟨_,rfl⟩;have HP:=Lib.hid hp;rw[hp] at hk ⊢;have hpi:i≤p:=by omega
  clear hp
  by_cases hlt:p<j
  ·obtain⟨r,hr⟩:∃r,l[p]? = some r:=⟨_,List.getElem?_eq_getElem (by rw[HN.out];omega)⟩
   obtain⟨ad,rfl,_,hcell⟩:=HA.out _ _ hr;have hor:ok r:=ho r (List.mem_of_getElem? hr);have hcv:∀(cap:Nat) (W:World),w=W→(convert 68 9 (.slice (some (ad.add p)) 1 cap)).run Tryz.prog W = .ok (.string (T [r])) W:=by
    intro cap W hW;subst hW;have:=run_convert_runes (P:=Tryz.prog) w 68 9 21 (ad.add p) 1 cap [(r:Int)] (Nat.le_refl _) Tryz.underlying68 Tryz.underlying21 Tryz.underlying9 (fun q hq=>by
     have:q=0:=by simp at hq;exact hq
     subst this;rw[yWa];exact hcell)
    rw[this];have e:runesBytes (List.take 1 [(r:Int)])=ByteArray.empty++Utf8.encode (r:Int):=rfl;rw[e,zBc hor]
   have hcw:=fun cap=>hcv cap w rfl
   have HST:Hid (T ((l.drop i).take k)++T [r]=T ((l.drop i).take (k+1))):=Lib.hid (by
    rw[←zPo,List.take_add_one,List.getElem?_drop,HP.out,hr]
    rfl)
   have b1:(T ((l.drop i).take k)).size≤4000000:=by
    rw[qO];have h1:=zH2 ((l.drop i).take k);have h2:((l.drop i).take k).length≤l.length:=by rw[List.length_take,List.length_drop];omega
    have h3:=HN.out;omega
   have b2:(T [r]).size≤4:=by rw[qO,zO,yY];exact(mU r).2
   obtain⟨S1,hS1⟩:∃S,T ((l.drop i).take k)=S:=⟨_,rfl⟩;obtain⟨S2,hS2⟩:∃S,T [r]=S:=⟨_,rfl⟩;rw[hS1] at b1 HST ⊢;rw[hS2] at b2 HST hcw;clear hr hcv hcell hS1 hS2
   go_wp2
   go_round
   case rel=>exact⟨k+1,by rw[←Nat.add_assoc,HP.out];go_num,by rw[←Nat.add_assoc,HP.out];omega,by rw[HST.out]⟩
   case measure=>simp[intOf];omega
  ·go_wp2
   go_ret
   exact zH1 (by rw[←HANS.out];have:=HP.out;rw[show k=j-i by omega])
theorem rZ {w:World} {ad:Addr} {p:Nat} {v:Value} (h:w.cell? (ad.add (p+1))=some v):w.cell? ⟨ad.block,ad.off+(p+1),none⟩=some v:=by
 unfold Addr.add at h;rw[if_neg (by omega)] at h;exact h
theorem yWc (d:Int) {l:List Nat} (h:l.length≤1):cm d 32 l=none:=by
 match l,h with
 | [],_=>rfl
 | [r],_=>simp[cm]
theorem zBd (d:Int) (hd:d+1≠0) (t:List Nat):cm d 32 (40::42::t)=(cm (d+1) 32 t).map (· + 2):=by
 rw[cm,if_neg (by decide),if_neg (by decide),cm,if_pos (by decide),if_neg hd,Option.map_map]
 rfl
theorem zH3 (d:Int) (t:List Nat):cm d 32 (42::41::t)=if d-1=0 then some 2 else (cm (d-1) 32 t).map (· + 2):=by
 rw[cm,if_neg (by decide),if_neg (by decide),cm,if_neg (by decide),if_pos (by decide)]
 split
 ·rfl
 ·rw[Option.map_map];rfl
theorem zBe (d:Int) {r q:Nat} (t:List Nat) (h1:¬(r=40∧q=42)) (h2:¬(r=42∧q=41)):cm d 32 (r::q::t)=(cm d 32 (q::t)).map (· + 1):=by
 rw[cm,if_neg (by omega),if_neg (by omega),cm,if_neg h1,if_neg h2]
 conv=>rhs;rw[cm]
 rw[if_neg (by omega),if_neg (by omega)]
theorem iW {l:List Nat} {p r q:Nat} (h:l[p]? = some r) (h':l[p+1]? = some q):l.drop p=r::q::l.drop (p+2):=by
 have h1:=(List.getElem?_eq_some_iff.1 h).1;have h2:=(List.getElem?_eq_some_iff.1 h).2;have h3:=(List.getElem?_eq_some_iff.1 h').1;have h4:=(List.getElem?_eq_some_iff.1 h').2;rw[List.drop_eq_getElem_cons h1,h2,List.drop_eq_getElem_cons h3,h4]
theorem xE {l:List Nat} {p r:Nat} (h:l[p]? = some r):l.drop p=r::l.drop (p+1):=by
 have h1:=(List.getElem?_eq_some_iff.1 h).1;have h2:=(List.getElem?_eq_some_iff.1 h).2;rw[List.drop_eq_getElem_cons h1,h2]
def cmAt (l:List Nat) (i:Nat):Nat:=match cm 0 32 (l.drop i) with | none=>0 | some k=>i+k
def CmRel (l:List Nat) (i:Nat) (d:Int) (p:Nat):Prop:=cm 0 32 (l.drop i)=(cm d 32 (l.drop p)).map (· + (p-i))
theorem sM {l:List Nat} {i p:Nat} {d d':Int} {m:Nat} (h:CmRel l i d p) (hp:i≤p) (e:cm d 32 (l.drop p)=(cm d' 32 (l.drop (p+m))).map (· + m)):CmRel l i d' (p+m):=by
 unfold CmRel at h ⊢;rw[h,e,Option.map_map]
 congr 1
 funext x
 show x+m+(p-i)=x+(p+m-i)
 omega
theorem zU4 (v:Value) (l:List Nat) (B i:Nat) (w:World) (h:Sl w B v l) (hl:l.length≤1000000) (hi:i≤l.length) (hop:opens (l.drop i)=true) :
  Calls Tryz.prog 33 #[v,.int .i64 (i:Int)] w (pI (cmAt l i) w):=by
 obtain⟨A,c,rfl,hlc,hA⟩:=h;have HA:=Lib.hid hA;obtain⟨n,hn⟩:∃n,l.length=n:=⟨_,rfl⟩;rw[hn] at hl hlc hi ⊢;have HN:=Lib.hid hn;obtain⟨ANS,hans⟩:∃s,cmAt l i=s:=⟨_,rfl⟩;rw[hans];have HANS:=Lib.hid hans;clear hA hn hans
 go_enter Tryz.func33,Tryz.ntmps33
 go_wp2
 go_loop [1,5] (fun x y=>∃(p:Nat) (d:Int),x = .int .i64 p∧y = .int .i64 d∧i≤p∧p≤n∧d≤p∧CmRel l i d p∧(1≤d∨(p=i∧d=0))) (fun x _=>n-(intOf x).toNat)
 case atStart=>exact⟨i,0,rfl,rfl,Nat.le_refl _,hi,by omega,by unfold CmRel;rw[Nat.sub_self];cases cm 0 32 (l.drop i)<;>rfl,.inr ⟨rfl,rfl⟩⟩
 case round=>
  obtain⟨p,d,rfl,rfl,hip,hpn,hd2,hr,hd0⟩:=hrel;have HR:=Lib.hid hr;have HD0:=Lib.hid hd0;clear hr hd0
  by_cases hlt:p+1<n
  ·have hz:(p:Int)+1<(n:Int):=by omega
   obtain⟨r,hr⟩:∃r,l[p]? = some r:=⟨_,List.getElem?_eq_getElem (by rw[HN.out];omega)⟩;obtain⟨q,hq⟩:∃q,l[p+1]? = some q:=⟨_,List.getElem?_eq_getElem (by rw[HN.out];omega)⟩;obtain⟨ad,rfl,_,hc1⟩:=HA.out _ _ hr;obtain⟨ad',had,_,hc2'⟩:=HA.out _ _ hq;injection had with had;subst had;have hc2:=rZ hc2';clear hc2';have HOP:Hid (p=i→r=40∧q=42):=Lib.hid (fun hpi=>by
    subst hpi;rw[iW hr hq] at hop;obtain⟨t,ht⟩:=List.isPrefixOf_iff_prefix.1 hop;injection ht with h1 h2;injection h2 with h2 h3;exact⟨h1.symm,h2.symm⟩)
   have HD2:=Lib.hid (iW hr hq);have HD1:=Lib.hid (xE hq);clear hr hq
   by_cases c1:r=40∧q=42
   ·obtain⟨rfl,rfl⟩:=c1
    have hdge:0≤d:=by have:=HD0.out;omega
    have HE:=Lib.hid (zBd d (by omega) (l.drop (p+2)))
    go_wp2
    go_round
    case rel=>exact⟨p+2,d+1,by go_num,by go_num,by omega,by omega,by omega,sM HR.out hip (by rw[HD2.out];exact HE.out),.inl (by omega)⟩
    case measure=>simp[intOf];omega
   ·have hdge:1≤d:=by
     rcases HD0.out with h | ⟨h,_⟩
     ·exact h
     ·exact absurd (HOP.out h) c1
    have b1:(((r:Int)==40)&&((q:Int)==42))=false:=by
     rw[Bool.and_eq_false_iff,beq_eq_false_iff_ne,beq_eq_false_iff_ne];omega
    by_cases c2:r=42∧q=41
    ·obtain⟨rfl,rfl⟩:=c2
     have HE:=Lib.hid (zH3 d (l.drop (p+2)));clear b1 c1
     by_cases hd1:d=1
     ·subst hd1
      go_wp2
      go_ret
      exact tM (by
       have h1:=HR.out;unfold CmRel at h1;rw[HD2.out,HE.out,if_pos (by omega)] at h1;rw[←HANS.out];unfold cmAt;rw[h1]
       show _=((i+(2+(p-i)):Nat):Int)
       omega)
     ·have hd1':(d-1==0)=false:=by rw[beq_eq_false_iff_ne];omega
      have HD1N:=Lib.hid hd1;clear hd1
      go_wp2
      go_round
      case rel=>exact⟨p+2,d-1,by go_num,by go_num,by omega,by omega,by omega,sM HR.out hip (by rw[HD2.out,HE.out,if_neg (by have:=HD1N.out;omega)]),.inl (by have:=HD1N.out;omega)⟩
      case measure=>simp[intOf];omega
    ·have HE:=Lib.hid (zBe d (l.drop (p+2)) c1 c2)
     have b2:(((r:Int)==42)&&((q:Int)==41))=false:=by
      rw[Bool.and_eq_false_iff,beq_eq_false_iff_ne,beq_eq_false_iff_ne];omega
     have CA:=Lib.hid c1;have CB:=Lib.hid c2;clear c1 c2
     go_wp2
     all_goals first
      | (exfalso;have ca:=CA.out;have cb:=CB.out;simp only[beq_iff_eq,beq_eq_false_iff_ne,ne_eq] at *;omega)
      | (go_round
         case rel=>exact⟨p+1,d,by go_num,rfl,by omega,by omega,by omega,sM HR.out hip (by rw[HD2.out,HD1.out,HE.out]),.inl hdge⟩
         case measure=>simp[intOf];omega)
      | trace_state
  ·have hz:¬(p:Int)+1<(n:Int):=by omega
   go_wp2
   go_ret
   exact tM (by
    have h1:=HR.out;unfold CmRel at h1;rw[yWc d (by rw[List.length_drop,HN.out];omega)] at h1;rw[←HANS.out];unfold cmAt;rw[h1]
    rfl)
end Go.Proofs.YtbpijnalmakfaaaGreatDoor.B
namespace Go.Proofs.YtbpijnalmakfaaaGreatDoor.B
open Go.Lib
structure Txt (s:ByteArray) (L:List Nat):Prop where
 ok:okl L
 rd:∀r∈L,rdb (r:Int)=true
 txt:T L=s
 size:s.size≤16384
theorem zBf {s:ByteArray} (h:(ckr s).2=0):∃L,Txt s L∧rns s 0=L:=by
 unfold ckr at h
 by_cases hs:16384<s.size
 ·rw[if_pos hs] at h;exact absurd h (by decide)
 ·rw[if_neg hs] at h
  rcases yYt s 0 with ⟨h1,h2,h3,h4⟩ | h1
  ·exact⟨_,⟨aI h3,h4,zJo h3,by omega⟩,rfl⟩
  ·rw[h] at h1;exact absurd h1 (by decide)
theorem zH4 {s:ByteArray} {l:List (Tok×Nat)} {a b:Int} (h:lexR s=(l,a,b)):(b=0∧a=0∧∃L,Txt s L∧lexL L 0 = .inl l)∨(b≠0∧l=[]):=by
 unfold lexR at h
 by_cases hc:(ckr s).2=0
 ·rw[if_pos hc] at h
  obtain⟨L,hL,hr⟩:=zBf hc;rw[hr] at h
  cases e:lexL L 0 with
  | inl r=>
   rw[e] at h;injection h with h1 h2;injection h2 with h2 h3;subst h1;exact .inl ⟨h3.symm,h2.symm,L,hL,e⟩
  | inr q=>
   rw[e] at h;injection h with h1 h2;injection h2 with h2 h3;exact .inr ⟨by rw[←h3];decide,h1.symm⟩
 ·rw[if_neg hc] at h
  injection h with h1 h2;injection h2 with h2 h3;exact .inr ⟨by rw[←h3];exact hc,h1.symm⟩
theorem zBg:∀(n:Nat) (l:List Nat) (a e:Nat),l.length≤n→lexL l a = .inr e→e≤a+sz l
 | n,l,a,e,hn,h=>by
  by_cases he:l.drop (btw l)=[]
  ·rw[vJ he] at h;cases h
  ·have hs:sz l=sz (l.take (btw l))+sz (l.drop (btw l)):=by rw[←sz_app,List.take_append_drop]
   cases ht:tokT (l.drop (btw l)) with
   | none=>
    rw[wV he ht] at h;injection h with h;omega
   | some tn=>
    obtain⟨t,j⟩:=tn;have hj:=jD ht;have hj2:=hj.2;simp only[List.length_drop] at hj2;rw[jQ he ht] at h
    cases hx:lexL ((l.drop (btw l)).drop j) (a+sz (l.take (btw l))+sz ((l.drop (btw l)).take j)) with
    | inl r=>rw[hx] at h;cases h
    | inr q=>
     rw[hx] at h;injection h with h;subst h
     cases n with
     | zero=>omega
     | succ n=>
      have:=zBg n _ _ _ (by simp only[List.length_drop];omega) hx;have hs2:sz (l.drop (btw l))=sz ((l.drop (btw l)).take j)+sz ((l.drop (btw l)).drop j):=by rw[←sz_app,List.take_append_drop]
      omega
theorem zPu:∀(n:Nat) (l:List Nat) (a:Nat) (toks:List (Tok×Nat)),l.length≤n→lexL l a = .inl toks→toks.length≤l.length
 | n,l,a,toks,hn,h=>by
  by_cases he:l.drop (btw l)=[]
  ·rw[vJ he] at h
   injection h with h;subst h;exact Nat.zero_le _
  ·cases ht:tokT (l.drop (btw l)) with
   | none=>rw[wV he ht] at h;cases h
   | some tn=>
    obtain⟨t,j⟩:=tn;have hj:=jD ht;have hj2:=hj.2;simp only[List.length_drop] at hj2;rw[jQ he ht] at h
    cases hx:lexL ((l.drop (btw l)).drop j) (a+sz (l.take (btw l))+sz ((l.drop (btw l)).take j)) with
    | inr r=>rw[hx] at h;cases h
    | inl q=>
     rw[hx] at h;simp only[Sum.inl.injEq] at h;subst h
     cases n with
     | zero=>omega
     | succ n=>
      have:=zPu n _ _ _ (by simp only[List.length_drop];omega) hx;simp only[List.length_drop] at this;simp only[List.length_cons];omega
theorem zH5 {s:ByteArray} {L:List Nat} (hL:Txt s L) {toks:List (Tok×Nat)} (h:lexL L 0 = .inl toks):toks.length≤s.size:=by
 have h1:=zPu _ L 0 toks (Nat.le_refl _) h;have h2:=rO L;have h3:s.size=sz L:=by rw[←hL.txt,qO]
 omega
theorem zMs {d:List Nat} {t:Tok} {n:Nat} (h:tokT d=some (t,n)) :
  t.x=d.take n∨(t.x=numb t.n∧-1073741824≤t.n∧t.n≤1073741824):=by
 cases d with
 | nil=>cases h
 | cons r u=>
  have e2:tokT (r::u)=if cls r=1 then nameT (r::u) else if cls r=2∨r=126 then numT (r::u) else if opens (r::u) then none else signT (r::u):=rfl
  rw[e2] at h
  split at h
  ·left
   unfold nameT at h
   split at h
   ·injection h with h
    injection h with h1 h2;rw[←h1,←h2]
   ·split at h
    ·injection h with h
     injection h with h1 h2;rw[←h1,←h2]
    ·cases h
  ·split at h
   ·right
    unfold numT at h
    split at h
    ·exact(tL h).2
    ·exact(tL h).2
   ·split at h
    ·cases h
    ·left
     unfold signT at h;obtain⟨x,hx,he⟩:=Option.map_eq_some_iff.1 h;have hp:=(iE hx).2;injection he with h1 h2;rw[←h1,←h2];exact(List.prefix_iff_eq_take.1 hp)
theorem zH6 {d:List Nat} {t:Tok} {n:Nat} (h:tokT d=some (t,n)) (ho:okl d) (hr:∀r∈d,rdb (r:Int)=true) :
  okl t.x∧(∀r∈t.x,rdb (r:Int)=true)∧sz t.x≤sz (d.take n)+21:=by
 rcases zMs h with e | ⟨e,hv⟩
 ·rw[e]
  exact⟨iS ho n,fun r hr'=>hr r (List.mem_of_mem_take hr'),by omega⟩
 ·rw[e]
  refine⟨xK (sH _),fun r hr'=>pH (sL _ r hr'),?_⟩;have:=zVv t.n hv;omega
def tot:List (List Nat)→Nat
 | []=>0
 | x::r=>sz x+1+tot r
theorem zPv:∀(n:Nat) (l:List Nat) (a:Nat) (toks:List (Tok×Nat)),l.length≤n→okl l→(∀r∈l,rdb (r:Int)=true)→lexL l a = .inl toks→
  tot (toks.map (·.1.x))≤sz l+22*toks.length∧∀x∈toks,Made x.1∧okl x.1.x∧∀r∈x.1.x,rdb (r:Int)=true
 | n,l,a,toks,hn,ho,hr,h=>by
  by_cases he:l.drop (btw l)=[]
  ·rw[vJ he] at h
   injection h with h;subst h;exact⟨Nat.zero_le _,fun x hx=>by cases hx⟩
  ·cases ht:tokT (l.drop (btw l)) with
   | none=>rw[wV he ht] at h;cases h
   | some tn=>
    obtain⟨t,j⟩:=tn;have hj:=jD ht;have hj2:=hj.2;simp only[List.length_drop] at hj2;rw[jQ he ht] at h;have hod:=mT ho (btw l);have hrd:∀r∈l.drop (btw l),rdb (r:Int)=true:=fun r h=>hr r (List.mem_of_mem_drop h)
    obtain⟨k1,k2,k3⟩:=zH6 ht hod hrd
    cases hx:lexL ((l.drop (btw l)).drop j) (a+sz (l.take (btw l))+sz ((l.drop (btw l)).take j)) with
    | inr r=>rw[hx] at h;cases h
    | inl q=>
     rw[hx] at h;simp only[Sum.inl.injEq] at h;subst h
     cases n with
     | zero=>omega
     | succ n=>
      obtain⟨i1,i2⟩:=zPv n _ _ _ (by simp only[List.length_drop];omega) (mT hod j) (fun r h=>hrd r (List.mem_of_mem_drop h)) hx;have hs1:sz l=sz (l.take (btw l))+sz (l.drop (btw l)):=by rw[←sz_app,List.take_append_drop]
      have hs2:sz (l.drop (btw l))=sz ((l.drop (btw l)).take j)+sz ((l.drop (btw l)).drop j):=by rw[←sz_app,List.take_append_drop]
      refine⟨?_,?_⟩
      ·show sz t.x+1+tot (q.map (·.1.x))≤_
       rw[List.length_cons];omega
      ·intro x hx'
       rcases List.mem_cons.1 hx' with rfl | hx'
       ·exact⟨⟨_,_,ht⟩,k1,k2⟩
       ·exact i2 x hx'
end Go.Proofs.YtbpijnalmakfaaaGreatDoor.B
namespace Go.Proofs.YtbpijnalmakfaaaGreatDoor.B
open Go.RowKit
theorem qG {P:Program} {fn:Func} {p q u:Tmp} {ty:TypeId} (h:fn.results=#[.cell p ty,.tmp q,.tmp u]) (tmps:Array Value) (w:World) (g:Nat) (t:TypeId) (cs:Array Value) (fr:Nat×Nat) (d:TypeDesc)
  (hp:tmps.getD p undef = .pointer (some ⟨g,0,none⟩)) (hg:w.heap[g]? = some (.cells cs t fr))
  (hu:P.underlying ty=some d) (hd:(match d with | .struct _ | .array _ _=>true | _=>false)=true) (hi:(P.info? ty).map (·.size)=some cs.size) :
  (results fn tmps).run P w = .ok (.tuple #[.agg cs,tmps.getD q undef,tmps.getD u undef]) w:=by
 have hp':tmps[p]?.getD undef = .pointer (some ⟨g,0,none⟩):=by simpa using hp
 simp[results,h,hp',asAddr,run_loadVar_row w g t ty cs fr d hg hu hd hi]
def RT (r:Option (Tok×Nat)) (i:Nat) (W:World) (e:Ending) (w':World):Prop:=
 (∃(K:Int) (S:ByteArray) (M Z:Int),e = .returned (.tuple #[.agg #[.int .i64 K,.string S,.int .i64 M,.int .i64 0],.int .i64 Z,.bool r.isSome])∧∀t n,r=some (t,n)→K=t.k∧S=T t.x∧M=t.n∧Z=((i+n:Nat):Int))∧Below W.heap.size W w'
theorem xL {r:Option (Tok×Nat)} {i:Nat} {W w':World} {K M Z:Int} {S:ByteArray} (h:r=none) (hb:Below W.heap.size W w'):RT r i W (.returned (.tuple #[.agg #[.int .i64 K,.string S,.int .i64 M,.int .i64 0],.int .i64 Z,.bool false])) w':=by
 subst h;exact⟨⟨K,S,M,Z,rfl,fun t n h=>by cases h⟩,hb⟩
theorem wW {r:Option (Tok×Nat)} {i n:Nat} {W w':World} {K M Z:Int} {S:ByteArray} {x:List Nat} (h:r=some (⟨K,x,M⟩,n)) (hs:S=T x) (hz:Z=((i+n:Nat):Int)) (hb:Below W.heap.size W w') :
  RT r i W (.returned (.tuple #[.agg #[.int .i64 K,.string S,.int .i64 M,.int .i64 0],.int .i64 Z,.bool true])) w':=by
 subst h;subst hs;subst hz;exact⟨⟨K,_,M,_,rfl,fun t m h=>by injection h with h;injection h with h1 h2;subst h1;subst h2;exact⟨rfl,rfl,rfl,rfl⟩⟩,hb⟩
def vv (a:Nat) (e:List Nat):Nat:=val a (e.take (cnt dig e))
theorem yWd {a r:Nat} {t:List Nat} (h:dig r=true):vv a (r::t)=vv (10*a+(r-48)) t:=by
 unfold vv;simp[cnt,h];rfl
theorem zBh {a:Nat} {e:List Nat} (h:cnt dig e=0):vv a e=a:=by
 unfold vv;rw[h];rfl
theorem vv_ge (a:Nat) (e:List Nat):a≤vv a e:=zSz _ _
theorem zU5 {f:Nat→Bool} {l:List Nat} {i r:Nat} (h:l[i]? = some r) (hf:f r=false):cnt f (l.drop i)=0:=by
 rw[iU h,hf];rfl
structure xB (l:List Nat) (f0 p v:Nat):Prop where
 lo:f0≤p
 hi:p≤l.length
 cn:cnt dig (l.drop f0)=(p-f0)+cnt dig (l.drop p)
 va:vv v (l.drop p)=vv 0 (l.drop f0)
theorem xB.start {l:List Nat} {f0:Nat} (h:f0≤l.length):xB l f0 f0 0:=⟨Nat.le_refl _,h,by omega,rfl⟩
theorem xB.next {l:List Nat} {f0 p v r:Nat} (h:xB l f0 p v) (hr:l[p]? = some r) (hd:dig r=true):xB l f0 (p+1) (10*v+(r-48)):=by
 have hp:p<l.length:=(List.getElem?_eq_some_iff.1 hr).1;refine⟨by have:=h.lo;omega,hp,?_,?_⟩
 ·have h1:=h.cn
  have h2:=h.lo;rw[iU hr,hd] at h1
  simp at h1
  omega
 ·have h1:=h.va
  rw[xE hr,yWd hd] at h1;exact h1
theorem xB.big {l:List Nat} {f0 p v r:Nat} (h:xB l f0 p v) (hr:l[p]? = some r) (hd:dig r=true) (hb:1073741824<10*v+(r-48)) {b:Bool}:digT b (l.drop f0)=none:=by
 have h1:=(h.next hr hd).va;have h2:=vv_ge (10*v+(r-48)) (l.drop (p+1));exact rQ (by show _<vv 0 (l.drop f0);omega)
theorem xB.fin {l:List Nat} {f0 p v:Nat} (h:xB l f0 p v) (he:cnt dig (l.drop p)=0):cnt dig (l.drop f0)=p-f0∧(l.drop f0).drop (cnt dig (l.drop f0))=l.drop p∧val 0 ((l.drop f0).take (cnt dig (l.drop f0)))=v:=by
 have h1:=h.cn;have h2:=h.va;have h3:=h.lo;rw[zBh he] at h2;refine⟨by omega,?_,h2.symm⟩;rw[h1,he,List.drop_drop]
 congr 1
 omega
theorem aY {r:Nat}:dig r=decide (cls (r:Int)=2):=rfl
theorem yWe (v:Value) (l:List Nat) (B i:Nat) (w:World) (h:Sl w B v l) (hB:B≤w.heap.size) (hl:l.length≤1000000) (r0:Nat) (hr0:l[i]? = some r0) (h126:r0=126) :
  Calls Tryz.prog 67 #[v,.int .i64 (i:Int)] w (RT (digT true (l.drop (i+1)) |>.map fun x=>(x.1,x.2)) i w):=by
 have hmap:((digT true (l.drop (i+1))).map fun x=>(x.1,x.2))=digT true (l.drop (i+1)):=by cases digT true (l.drop (i+1))<;>rfl
 rw[hmap];clear hmap;obtain⟨A,c,rfl,hlc,hA⟩:=h;have hA0:∀(j u:Nat),l[j]? = some u→∃ad,A=some ad∧(w.alloc (.cells #[.int .i64 0,.string ⟨#[]⟩,.int .i64 0,.int .i64 0] 53)).cell? (ad.add j)=some (.int .i32 (u:Int)):=fun j u hu=>by
  obtain⟨ad,h1,h2,h3⟩:=hA j u hu;exact⟨ad,h1,by rw[World.cell?_alloc_lt w _ _ (by rw[vO];omega)];exact h3⟩
 have HA:=Lib.hid hA0;have hbn:Below w.heap.size w (w.alloc (.cells #[.int .i64 0,.string ⟨#[]⟩,.int .i64 0,.int .i64 0] 53)):=(Below.refl _ _).alloc (Nat.le_refl _) _;have hrc:=Rc.new_ w;have hi:i<l.length:=(List.getElem?_eq_some_iff.1 hr0).1;obtain⟨ad,rfl,hc0⟩:=hA0 i r0 hr0;obtain⟨a2,ha2,hbl,_⟩:=hA i r0 hr0;injection ha2 with ha2;subst ha2;have e126:((r0:Int)==126)=true:=by rw[beq_iff_eq];omega
 have hst:xB l (i+1) (i+1) 0:=xB.start (by omega);obtain⟨n,hn⟩:∃n,l.length=n:=⟨_,rfl⟩;rw[hn] at hl hlc hi ⊢;have HN:=Lib.hid hn;obtain⟨ANS,hans⟩:∃s,digT true (l.drop (i+1))=s:=⟨_,rfl⟩;rw[hans];have HANS:=Lib.hid hans;have HST:=Lib.hid hst;have hblk:(ad.add i).block<w.heap.size:=by rw[vO];omega
 have hc0':w.cell? (ad.add i)=some (.int .i32 (r0:Int)):=by rw[←World.cell?_alloc_lt w (.cells #[.int .i64 0,.string ⟨#[]⟩,.int .i64 0,.int .i64 0] 53) _ hblk];exact hc0
 clear hA hA0 hn hans hst hr0 h126 hc0
 go_enter Tryz.func67,Tryz.ntmps67
 go_wp2
 have HRC:=Lib.hid hrc;have HBN:=Lib.hid hbn;clear hrc hbn
 generalize w.alloc (.cells #[.int .i64 0,.string ⟨#[]⟩,.int .i64 0,.int .i64 0] 53)=W0 at HA HRC HBN ⊢
 go_loopw [7,9] (fun x y wr=>∃(p u:Nat),x = .int .i64 p∧y = .int .i64 u∧p≤n∧u≤1073741824∧wr=W0∧xB l (i+1) p u) (fun x _ _=>n-(intOf x).toNat)
 case atStart=>exact⟨i+1,0,by first | rfl | go_num,rfl,by omega,by omega,rfl,HST.out⟩
 case round=>
  obtain⟨p,u,rfl,rfl,hp,hu,rfl,hrel⟩:=hrel;have HR:=Lib.hid hrel;have hlo:=hrel.lo;clear hrel;obtain⟨⟨q0,q1,q2,q3⟩,f0,f1,f2,f3⟩:=HRC.out.cells
  by_cases hlt:p<n
  ·obtain⟨r,hr⟩:∃r,l[p]? = some r:=⟨_,List.getElem?_eq_getElem (by rw[HN.out];exact hlt)⟩
   obtain⟨a3,ha3,hcell⟩:=HA.out p r hr;injection ha3 with ha3;subst ha3;have hz:(p:Int)<(n:Int):=by omega
   have HRR:=Lib.hid hr;have cC:=fun W=>gC (r:Int) W
   by_cases hd:dig r=true
   ·have hrg:=(mV r).1 hd
    have hk:cls (r:Int)=2:=by rw[aY,decide_eq_true_iff] at hd;exact hd
    rw[hk] at cC;have HD:=Lib.hid hd;clear hd hr hk
    by_cases hbig:1073741824<10*u+(r-48)
    ·have hbz:(1073741824:Int)<10*(u:Int)+(r:Int)-48:=by omega
     have HB:=Lib.hid hbig;clear hbig
     go_wp2_with (go_at_call 32;refine(cC _).mono ?_;rintro e w' ⟨rfl,rfl⟩)
     refine bodyPost_ret (qG rfl _ _ w.heap.size _ _ (0,0) _ rfl (Rc.four HRC.out _ _ _ _) Tryz.underlying53 rfl (by kernel_rfl)) rfl ?_;exact xL (HANS.out.symm.trans (HR.out.big HRR.out HD.out HB.out)) (qJ HBN.out (Nat.le_refl _) _ _ _ _)
    ·have hbz:¬(1073741824:Int)<10*(u:Int)+(r:Int)-48:=by omega
     have hle:10*u+(r-48)≤1073741824:=by omega
     clear hbig
     go_wp2_with (go_at_call 32;refine(cC _).mono ?_;rintro e w' ⟨rfl,rfl⟩)
     go_roundw
     case rel=>exact⟨p+1,10*u+(r-48),by go_num,zV (by omega),by omega,hle,by trivial,HR.out.next HRR.out HD.out⟩
     case measure=>simp[intOf];omega
   ·have hd':dig r=false:=by simpa using hd
    have hk:cls (r:Int)≠2:=by rw[aY,decide_eq_false_iff_not] at hd';exact hd'
    have HE:=Lib.hid (zU5 hr hd');obtain⟨k,hkk⟩:∃k,cls (r:Int)=k:=⟨_,rfl⟩;rw[hkk] at cC hk;have hk2:(k==2)=false:=by rw[beq_eq_false_iff_ne];exact hk
    have cI:=fun W=>rX r W
    obtain⟨b,hb⟩:∃b,inr r=b:=⟨_,rfl⟩;rw[hb] at cI;have HI:=Lib.hid (iU (f:=inr) hr);rw[hb] at HI;clear hd hd' hk hkk hr hb
    by_cases hpf:p=i+1
    ·have hpz:((p:Int)==(i:Int)+1)=true:=by rw[beq_iff_eq];omega
     have HPF:=Lib.hid hpf;clear hpf
     go_wp2_with (go_at_call 32;refine(cC _).mono ?_;rintro e w' ⟨rfl,rfl⟩)
     refine bodyPost_ret (qG rfl _ _ w.heap.size _ _ (0,0) _ rfl (Rc.four HRC.out _ _ _ _) Tryz.underlying53 rfl (by kernel_rfl)) rfl ?_;exact xL (HANS.out.symm.trans (fZ (by have h1:=(HR.out.fin HE.out).1;have h2:=HPF.out;omega))) (qJ HBN.out (Nat.le_refl _) _ _ _ _)
    ·have hpz:((p:Int)==(i:Int)+1)=false:=by rw[beq_eq_false_iff_ne];omega
     have HPF:=Lib.hid hpf;clear hpf
     cases b
     ·have cN:=fun W=>xZ (-(u:Int)).natAbs (-(u:Int)) (Nat.le_refl _) (by omega) (by omega) W
      obtain⟨X,hX⟩:∃X,T (numb (-(u:Int)))=X:=⟨_,rfl⟩;rw[hX] at cN;have HX:=Lib.hid hX;have HI0:Hid (cnt inr (l.drop p)=0):=Lib.hid (by have h2:=HI.out;simpa using h2);clear hX;go_wp2_with fail;refine(cC _).mono ?_;rintro e w' ⟨rfl,rfl⟩;go_wp2_with fail;refine(cI _).mono ?_;rintro e w' ⟨rfl,rfl⟩;go_wp2_with fail;refine(cN _).mono ?_;rintro e w4 ⟨rfl,m4,rfl⟩
      go_wp2
      refine bodyPost_ret (qG rfl _ _ w.heap.size _ _ (0,0) _ rfl (Rc.four (HRC.out.below (qD (Below.refl _ _) m4)) _ _ _ _) Tryz.underlying53 rfl (by kernel_rfl)) rfl ?_;obtain⟨k1,k2,k3⟩:=HR.out.fin HE.out;obtain⟨n',hn'⟩:=gB (b:=true) (v:=-(u:Int)) (by rw[k2];exact HI0.out) (by have h1:=HPF.out;omega) (by rw[k3];exact hu) (by rw[k3];rfl);have hn2:=rR hn';exact wW (HANS.out.symm.trans hn') HX.out.symm (by rw[hn2,k1];simp;omega) (qJ (qD HBN.out m4) (Nat.le_refl _) _ _ _ _)
     ·go_wp2_with (first
       | (go_at_call 32;refine(cC _).mono ?_;rintro e w' ⟨rfl,rfl⟩)
       | (go_at_call 133;refine(cI _).mono ?_;rintro e w' ⟨rfl,rfl⟩))
      refine bodyPost_ret (qG rfl _ _ w.heap.size _ _ (0,0) _ rfl (Rc.four HRC.out _ _ _ _) Tryz.underlying53 rfl (by kernel_rfl)) rfl ?_;exact xL (HANS.out.symm.trans (rP (by rw[(HR.out.fin HE.out).2.1];have h2:=HI.out;simp at h2;omega))) (qJ HBN.out (Nat.le_refl _) _ _ _ _)
  ·have hz:¬(p:Int)<(n:Int):=by omega
   have hdr:l.drop p=[]:=List.drop_eq_nil_of_le (by rw[HN.out];omega);have HE:Hid (cnt dig (l.drop p)=0):=Lib.hid (by rw[hdr];rfl);have HI:Hid (cnt inr (l.drop p)=0):=Lib.hid (by rw[hdr];rfl);clear hdr
   by_cases hpf:p=i+1
   ·have hpz:((p:Int)==(i:Int)+1)=true:=by rw[beq_iff_eq];omega
    have HPF:=Lib.hid hpf;clear hpf
    go_wp2
    refine bodyPost_ret (qG rfl _ _ w.heap.size _ _ (0,0) _ rfl (Rc.four HRC.out _ _ _ _) Tryz.underlying53 rfl (by kernel_rfl)) rfl ?_;exact xL (HANS.out.symm.trans (fZ (by have h1:=(HR.out.fin HE.out).1;have h2:=HPF.out;omega))) (qJ HBN.out (Nat.le_refl _) _ _ _ _)
   ·have hpz:((p:Int)==(i:Int)+1)=false:=by rw[beq_eq_false_iff_ne];omega
    have HPF:=Lib.hid hpf;clear hpf;have cN:=fun W=>xZ (-(u:Int)).natAbs (-(u:Int)) (Nat.le_refl _) (by omega) (by omega) W
    obtain⟨X,hX⟩:∃X,T (numb (-(u:Int)))=X:=⟨_,rfl⟩;rw[hX] at cN;have HX:=Lib.hid hX;have HI0:=HI;clear hX;go_wp2_with fail;refine(cN _).mono ?_;rintro e w4 ⟨rfl,m4,rfl⟩
    go_wp2
    refine bodyPost_ret (qG rfl _ _ w.heap.size _ _ (0,0) _ rfl (Rc.four (HRC.out.below (qD (Below.refl _ _) m4)) _ _ _ _) Tryz.underlying53 rfl (by kernel_rfl)) rfl ?_;obtain⟨k1,k2,k3⟩:=HR.out.fin HE.out;obtain⟨n',hn'⟩:=gB (b:=true) (v:=-(u:Int)) (by rw[k2];exact HI0.out) (by have h1:=HPF.out;omega) (by rw[k3];exact hu) (by rw[k3];rfl);have hn2:=rR hn';exact wW (HANS.out.symm.trans hn') HX.out.symm (by rw[hn2,k1];simp;omega) (qJ (qD HBN.out m4) (Nat.le_refl _) _ _ _ _)
theorem yWf (v:Value) (l:List Nat) (B i:Nat) (w:World) (h:Sl w B v l) (hB:B≤w.heap.size) (hl:l.length≤1000000) (r0:Nat) (hr0:l[i]? = some r0) (h126:r0≠126) :
  Calls Tryz.prog 67 #[v,.int .i64 (i:Int)] w (RT (digT false (l.drop (i))) i w):=by
 have hmap:True:=trivial;clear hmap;obtain⟨A,c,rfl,hlc,hA⟩:=h;have hA0:∀(j u:Nat),l[j]? = some u→∃ad,A=some ad∧(w.alloc (.cells #[.int .i64 0,.string ⟨#[]⟩,.int .i64 0,.int .i64 0] 53)).cell? (ad.add j)=some (.int .i32 (u:Int)):=fun j u hu=>by
  obtain⟨ad,h1,h2,h3⟩:=hA j u hu;exact⟨ad,h1,by rw[World.cell?_alloc_lt w _ _ (by rw[vO];omega)];exact h3⟩
 have HA:=Lib.hid hA0;have hbn:Below w.heap.size w (w.alloc (.cells #[.int .i64 0,.string ⟨#[]⟩,.int .i64 0,.int .i64 0] 53)):=(Below.refl _ _).alloc (Nat.le_refl _) _;have hrc:=Rc.new_ w;have hi:i<l.length:=(List.getElem?_eq_some_iff.1 hr0).1;obtain⟨ad,rfl,hc0⟩:=hA0 i r0 hr0;obtain⟨a2,ha2,hbl,_⟩:=hA i r0 hr0;injection ha2 with ha2;subst ha2;have e126:((r0:Int)==126)=false:=by rw[beq_eq_false_iff_ne];omega
 have hst:xB l (i) (i) 0:=xB.start (by omega);obtain⟨n,hn⟩:∃n,l.length=n:=⟨_,rfl⟩;rw[hn] at hl hlc hi ⊢;have HN:=Lib.hid hn;obtain⟨ANS,hans⟩:∃s,digT false (l.drop (i))=s:=⟨_,rfl⟩;rw[hans];have HANS:=Lib.hid hans;have HST:=Lib.hid hst;have hblk:(ad.add i).block<w.heap.size:=by rw[vO];omega
 have hc0':w.cell? (ad.add i)=some (.int .i32 (r0:Int)):=by rw[←World.cell?_alloc_lt w (.cells #[.int .i64 0,.string ⟨#[]⟩,.int .i64 0,.int .i64 0] 53) _ hblk];exact hc0
 clear hA hA0 hn hans hst hr0 h126 hc0
 go_enter Tryz.func67,Tryz.ntmps67
 go_wp2
 have HRC:=Lib.hid hrc;have HBN:=Lib.hid hbn;clear hrc hbn
 generalize w.alloc (.cells #[.int .i64 0,.string ⟨#[]⟩,.int .i64 0,.int .i64 0] 53)=W0 at HA HRC HBN ⊢
 go_loopw [7,9] (fun x y wr=>∃(p u:Nat),x = .int .i64 p∧y = .int .i64 u∧p≤n∧u≤1073741824∧wr=W0∧xB l (i) p u) (fun x _ _=>n-(intOf x).toNat)
 case atStart=>exact⟨i,0,by first | rfl | go_num,rfl,by omega,by omega,rfl,HST.out⟩
 case round=>
  obtain⟨p,u,rfl,rfl,hp,hu,rfl,hrel⟩:=hrel;have HR:=Lib.hid hrel;have hlo:=hrel.lo;clear hrel;obtain⟨⟨q0,q1,q2,q3⟩,f0,f1,f2,f3⟩:=HRC.out.cells
  by_cases hlt:p<n
  ·obtain⟨r,hr⟩:∃r,l[p]? = some r:=⟨_,List.getElem?_eq_getElem (by rw[HN.out];exact hlt)⟩
   obtain⟨a3,ha3,hcell⟩:=HA.out p r hr;injection ha3 with ha3;subst ha3;have hz:(p:Int)<(n:Int):=by omega
   have HRR:=Lib.hid hr;have cC:=fun W=>gC (r:Int) W
   by_cases hd:dig r=true
   ·have hrg:=(mV r).1 hd
    have hk:cls (r:Int)=2:=by rw[aY,decide_eq_true_iff] at hd;exact hd
    rw[hk] at cC;have HD:=Lib.hid hd;clear hd hr hk
    by_cases hbig:1073741824<10*u+(r-48)
    ·have hbz:(1073741824:Int)<10*(u:Int)+(r:Int)-48:=by omega
     have HB:=Lib.hid hbig;clear hbig
     go_wp2_with (go_at_call 32;refine(cC _).mono ?_;rintro e w' ⟨rfl,rfl⟩)
     refine bodyPost_ret (qG rfl _ _ w.heap.size _ _ (0,0) _ rfl (Rc.four HRC.out _ _ _ _) Tryz.underlying53 rfl (by kernel_rfl)) rfl ?_;exact xL (HANS.out.symm.trans (HR.out.big HRR.out HD.out HB.out)) (qJ HBN.out (Nat.le_refl _) _ _ _ _)
    ·have hbz:¬(1073741824:Int)<10*(u:Int)+(r:Int)-48:=by omega
     have hle:10*u+(r-48)≤1073741824:=by omega
     clear hbig
     go_wp2_with (go_at_call 32;refine(cC _).mono ?_;rintro e w' ⟨rfl,rfl⟩)
     go_roundw
     case rel=>exact⟨p+1,10*u+(r-48),by go_num,zV (by omega),by omega,hle,by trivial,HR.out.next HRR.out HD.out⟩
     case measure=>simp[intOf];omega
   ·have hd':dig r=false:=by simpa using hd
    have hk:cls (r:Int)≠2:=by rw[aY,decide_eq_false_iff_not] at hd';exact hd'
    have HE:=Lib.hid (zU5 hr hd');obtain⟨k,hkk⟩:∃k,cls (r:Int)=k:=⟨_,rfl⟩;rw[hkk] at cC hk;have hk2:(k==2)=false:=by rw[beq_eq_false_iff_ne];exact hk
    have cI:=fun W=>rX r W
    obtain⟨b,hb⟩:∃b,inr r=b:=⟨_,rfl⟩;rw[hb] at cI;have HI:=Lib.hid (iU (f:=inr) hr);rw[hb] at HI;clear hd hd' hk hkk hr hb
    by_cases hpf:p=i
    ·have hpz:((p:Int)==(i:Int))=true:=by rw[beq_iff_eq];omega
     have HPF:=Lib.hid hpf;clear hpf
     go_wp2_with (go_at_call 32;refine(cC _).mono ?_;rintro e w' ⟨rfl,rfl⟩)
     refine bodyPost_ret (qG rfl _ _ w.heap.size _ _ (0,0) _ rfl (Rc.four HRC.out _ _ _ _) Tryz.underlying53 rfl (by kernel_rfl)) rfl ?_;exact xL (HANS.out.symm.trans (fZ (by have h1:=(HR.out.fin HE.out).1;have h2:=HPF.out;omega))) (qJ HBN.out (Nat.le_refl _) _ _ _ _)
    ·have hpz:((p:Int)==(i:Int))=false:=by rw[beq_eq_false_iff_ne];omega
     have HPF:=Lib.hid hpf;clear hpf
     cases b
     ·have cN:=fun W=>xZ ((u:Int)).natAbs ((u:Int)) (Nat.le_refl _) (by omega) (by omega) W
      obtain⟨X,hX⟩:∃X,T (numb ((u:Int)))=X:=⟨_,rfl⟩;rw[hX] at cN;have HX:=Lib.hid hX;have HI0:Hid (cnt inr (l.drop p)=0):=Lib.hid (by have h2:=HI.out;simpa using h2);clear hX;go_wp2_with fail;refine(cC _).mono ?_;rintro e w' ⟨rfl,rfl⟩;go_wp2_with fail;refine(cI _).mono ?_;rintro e w' ⟨rfl,rfl⟩;go_wp2_with fail;refine(cN _).mono ?_;rintro e w4 ⟨rfl,m4,rfl⟩
      go_wp2
      refine bodyPost_ret (qG rfl _ _ w.heap.size _ _ (0,0) _ rfl (Rc.four (HRC.out.below (qD (Below.refl _ _) m4)) _ _ _ _) Tryz.underlying53 rfl (by kernel_rfl)) rfl ?_;obtain⟨k1,k2,k3⟩:=HR.out.fin HE.out;obtain⟨n',hn'⟩:=gB (b:=false) (v:=(u:Int)) (by rw[k2];exact HI0.out) (by have h1:=HPF.out;omega) (by rw[k3];exact hu) (by rw[k3];rfl);have hn2:=rR hn';exact wW (HANS.out.symm.trans hn') HX.out.symm (by rw[hn2,k1];simp;omega) (qJ (qD HBN.out m4) (Nat.le_refl _) _ _ _ _)
     ·go_wp2_with (first
       | (go_at_call 32;refine(cC _).mono ?_;rintro e w' ⟨rfl,rfl⟩)
       | (go_at_call 133;refine(cI _).mono ?_;rintro e w' ⟨rfl,rfl⟩))
      refine bodyPost_ret (qG rfl _ _ w.heap.size _ _ (0,0) _ rfl (Rc.four HRC.out _ _ _ _) Tryz.underlying53 rfl (by kernel_rfl)) rfl ?_;exact xL (HANS.out.symm.trans (rP (by rw[(HR.out.fin HE.out).2.1];have h2:=HI.out;simp at h2;omega))) (qJ HBN.out (Nat.le_refl _) _ _ _ _)
  ·have hz:¬(p:Int)<(n:Int):=by omega
   have hdr:l.drop p=[]:=List.drop_eq_nil_of_le (by rw[HN.out];omega);have HE:Hid (cnt dig (l.drop p)=0):=Lib.hid (by rw[hdr];rfl);have HI:Hid (cnt inr (l.drop p)=0):=Lib.hid (by rw[hdr];rfl);clear hdr
   by_cases hpf:p=i
   ·have hpz:((p:Int)==(i:Int))=true:=by rw[beq_iff_eq];omega
    have HPF:=Lib.hid hpf;clear hpf
    go_wp2
    refine bodyPost_ret (qG rfl _ _ w.heap.size _ _ (0,0) _ rfl (Rc.four HRC.out _ _ _ _) Tryz.underlying53 rfl (by kernel_rfl)) rfl ?_;exact xL (HANS.out.symm.trans (fZ (by have h1:=(HR.out.fin HE.out).1;have h2:=HPF.out;omega))) (qJ HBN.out (Nat.le_refl _) _ _ _ _)
   ·have hpz:((p:Int)==(i:Int))=false:=by rw[beq_eq_false_iff_ne];omega
    have HPF:=Lib.hid hpf;clear hpf;have cN:=fun W=>xZ ((u:Int)).natAbs ((u:Int)) (Nat.le_refl _) (by omega) (by omega) W
    obtain⟨X,hX⟩:∃X,T (numb ((u:Int)))=X:=⟨_,rfl⟩;rw[hX] at cN;have HX:=Lib.hid hX;have HI0:=HI;clear hX;go_wp2_with fail;refine(cN _).mono ?_;rintro e w4 ⟨rfl,m4,rfl⟩
    go_wp2
    refine bodyPost_ret (qG rfl _ _ w.heap.size _ _ (0,0) _ rfl (Rc.four (HRC.out.below (qD (Below.refl _ _) m4)) _ _ _ _) Tryz.underlying53 rfl (by kernel_rfl)) rfl ?_;obtain⟨k1,k2,k3⟩:=HR.out.fin HE.out;obtain⟨n',hn'⟩:=gB (b:=false) (v:=(u:Int)) (by rw[k2];exact HI0.out) (by have h1:=HPF.out;omega) (by rw[k3];exact hu) (by rw[k3];rfl);have hn2:=rR hn';exact wW (HANS.out.symm.trans hn') HX.out.symm (by rw[hn2,k1];simp;omega) (qJ (qD HBN.out m4) (Nat.le_refl _) _ _ _ _)
theorem zRf (v:Value) (l:List Nat) (B i:Nat) (w:World) (h:Sl w B v l) (hB:B≤w.heap.size) (hl:l.length≤1000000) (hi:i<l.length) :
  Calls Tryz.prog 67 #[v,.int .i64 (i:Int)] w (RT (numT (l.drop i)) i w):=by
 obtain⟨r0,hr0⟩:∃r,l[i]? = some r:=⟨_,List.getElem?_eq_getElem hi⟩
 by_cases h126:r0=126
 ·have e:numT (l.drop i)=digT true (l.drop (i+1)):=by rw[xE hr0,h126];rfl
  have k:=yWe v l B i w h hB hl r0 hr0 h126;rw[e];have hm:((digT true (l.drop (i+1))).map fun x=>(x.1,x.2))=digT true (l.drop (i+1)):=by cases digT true (l.drop (i+1))<;>rfl
  rw[hm] at k;exact k
 ·have e:numT (l.drop i)=digT false (l.drop i):=iG fun d hd=>h126 (by rw[xE hr0] at hd;injection hd)
  rw[e];exact yWf v l B i w h hB hl r0 hr0 h126
theorem zPw (x z:List Nat):spl (x++46::z)=spl x++spl z:=by
 induction x with
 | nil=>show spl (46::z)=[[]]++spl z;rw[spl,if_pos rfl];rfl
 | cons a t ih=>
  by_cases ha:a=46
  ·subst ha
   show spl (46::(t++46::z))=_
   rw[spl,if_pos rfl,ih]
   conv=>rhs;rw[spl,if_pos rfl]
   rfl
  ·show spl (a::(t++46::z))=_
   rw[iI ha,ih,iI ha]
   cases hs:spl t with
   | nil=>have:=(zXh t).1;rw[hs] at this;simp at this
   | cons p q=>rfl
theorem inr46 {r:Nat} (h:inr r=true):r≠46:=by
 rintro rfl;exact absurd h (by decide)
theorem zU6 {x:List Nat} (h:∀r∈x,inr r=true):46∉x:=fun hm=>inr46 (h 46 hm) rfl
theorem zRg:∀x∈WORDS,46∉x:=by decide
theorem zU7:∀x∈WORDS,∀r∈x,r<128:=by decide
theorem zBi {x:List Nat} (ho:okl x) (h:46∈x):wrd (T x)=false:=by
 unfold wrd;rw[List.any_eq_false];intro y hy;rw[decide_eq_true_iff];intro e;have:=zIo ho (xK (zU7 y hy)) e;subst this;exact zRg x hy h
structure mZ (d:List Nat) (k:Nat) (b:Bool):Prop where
 le:k≤d.length
 ps:(spl (d.take k)).all pcs=b
 cn:k+lrest (d.drop k)=cnt lng d
theorem zMt {d:List Nat} {b:Bool} (hb:pcs (d.take (cnt inr d))=b):mZ d (cnt inr d) b:=by
 refine⟨kZ _ _,?_,?_⟩
 ·rw[iH (zU6 (mW d))]
  simpa using hb
 ·rw[aN d];rfl
theorem zH7 {d t:List Nat} {k:Nat} (h:mZ d k true) (ht:d.drop k=46::t) {b:Bool} (hb:pcs (t.take (cnt inr t))=b):mZ d (k+1+cnt inr t) b:=by
 have hle:=h.le;have hl:(d.drop k).length=t.length+1:=by rw[ht];simp
 rw[List.length_drop] at hl;have hc:=kZ inr t;have htk:d.take (k+1+cnt inr t)=d.take k++46::t.take (cnt inr t):=by
  rw[Nat.add_assoc,List.take_add,ht,Nat.add_comm 1,List.take_succ_cons]
 refine⟨by omega,?_,?_⟩
 ·rw[htk,zPw,List.all_append,h.ps,Bool.true_and,iH (zU6 (mW t))]
  simpa using hb
 ·have h1:=h.cn
  rw[ht,zZl] at h1;have h2:d.drop (k+1+cnt inr t)=t.drop (cnt inr t):=by
   rw[Nat.add_assoc,←List.drop_drop,ht,Nat.add_comm 1]
   rfl
  rw[h2];omega
theorem zBj {d:List Nat} {k:Nat} (h:mZ d k false) (hw:wrd (T (d.take (cnt lng d)))=false):nameT d=none:=by
 unfold nameT;rw[if_neg (by rw[hw];simp),if_neg];intro hl;unfold yK at hl;rw[Bool.and_eq_true] at hl;have h1:=h.ps;have hall:=hl.2;have hcn:=h.cn;have hle:=h.le;have hlc:=kZ lng d;have e:d.take (cnt lng d)=d.take k++(d.drop k).take (lrest (d.drop k)):=by rw[←hcn,List.take_add]
 rw[e] at hall;have hpc:(fun y=>!wrd (T y)&&nm (T y))=pcs:=rfl;rw[hpc] at hall
 cases hd:d.drop k with
 | nil=>rw[hd] at hall;simp at hall;rw[List.all_eq_false] at h1;obtain⟨y,hy,hp⟩:=h1;exact hp (hall y hy)
 | cons r t=>
  by_cases hr:r=46
  ·subst hr
   rw[hd] at hall;have e2:(46::t).take (lrest (46::t))=46::t.take (cnt lng t):=by
    show(46::t).take (1+cnt lng t)=_
    rw[Nat.add_comm,List.take_succ_cons]
   rw[e2,zPw,List.all_append,Bool.and_eq_true] at hall;rw[h1] at hall;exact absurd hall.1 (by simp)
  ·rw[hd] at hall
   have e2:lrest (r::t)=0:=iK (by
    cases hb:List.isPrefixOf [46] (r::t)
    ·rfl
    ·obtain⟨u,hu⟩:=List.isPrefixOf_iff_prefix.1 hb
     injection hu with h3 h4;exact absurd h3.symm hr)
   rw[e2] at hall
   simp at hall
   rw[List.all_eq_false] at h1;obtain⟨y,hy,hp⟩:=h1;exact hp (hall y hy)
end Go.Proofs.YtbpijnalmakfaaaGreatDoor.B
