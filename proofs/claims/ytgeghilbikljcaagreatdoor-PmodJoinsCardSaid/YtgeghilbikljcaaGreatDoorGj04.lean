/-
  The lexer's number: what it tells.
-/
import Derived.Test.YtgeghilbikljcaaGreatDoorGj03
import Derived.Laws.Tables
import Derived.Lib.Split
set_option maxHeartbeats 40000000
set_option maxRecDepth 100000
namespace Go.Proofs.YtgeghilbikljcaaGreatDoor.B
open Go.RowKit
theorem qJ {P:Program} {fn:Func} {p q:Tmp} {ty:TypeId} (h:fn.results=#[.cell p ty,.tmp q]) (tmps:Array Value) (w:World) (g:Nat) (t:TypeId) (cs:Array Value) (fr:Nat×Nat) (d:TypeDesc)
  (hp:tmps.getD p undef = .pointer (some ⟨g,0,none⟩)) (hg:w.heap[g]? = some (.cells cs t fr))
  (hu:P.underlying ty=some d) (hd:(match d with | .struct _ | .array _ _=>true | _=>false)=true) (hi:(P.info? ty).map (·.size)=some cs.size) :
  (results fn tmps).run P w = .ok (.tuple #[.agg cs,tmps.getD q undef]) w:=by
 have hp':tmps[p]?.getD undef = .pointer (some ⟨g,0,none⟩):=by simpa using hp
 simp[results,h,hp',asAddr,run_loadVar_row w g t ty cs fr d hg hu hd hi]
def Rc (w:World) (B:Nat) (cs:Array Value):Prop:=w.heap[B]? = some (.cells cs 47 (0,0))
theorem Rc.below {w w':World} {B:Nat} {cs:Array Value} (h:Rc w B cs) (hb:Below w.heap.size w w'):Rc w' B cs:=zC h hb
theorem Rc.cells {w:World} {B:Nat} {a b c d:Value} (h:Rc w B #[a,b,c,d]) :
  (w.cell? ⟨B,0,none⟩=some a/\w.cell? ⟨B,1,none⟩=some b/\w.cell? ⟨B,2,none⟩=some c/\w.cell? ⟨B,3,none⟩=some d)/\
  (w.frozen? ⟨B,0,none⟩=false/\w.frozen? ⟨B,1,none⟩=false/\w.frozen? ⟨B,2,none⟩=false/\w.frozen? ⟨B,3,none⟩=false):=
 ⟨⟨cell_of_row w B 0 _ _ _ h,cell_of_row w B 1 _ _ _ h,cell_of_row w B 2 _ _ _ h,cell_of_row w B 3 _ _ _ h⟩,⟨frozen_of_row w B 0 _ _ h,frozen_of_row w B 1 _ _ h,frozen_of_row w B 2 _ _ h,frozen_of_row w B 3 _ _ h⟩⟩
theorem Rc.st {w:World} {B:Nat} {cs:Array Value} (h:Rc w B cs) (i:Nat) (u:Value):Rc (w.setCell ⟨B,i,none⟩ u) B (cs.setIfInBounds i u):=by
 unfold Rc at h ⊢
 simp[World.setCell,Array.getElem?_modify,h]
def four (w:World) (B:Nat) (x y z u:Value):World:=(((w.setCell ⟨B,0,none⟩ x).setCell ⟨B,1,none⟩ y).setCell ⟨B,2,none⟩ z).setCell ⟨B,3,none⟩ u
theorem Rc.four {w:World} {B:Nat} {a b c d:Value} (h:Rc w B #[a,b,c,d]) (x y z u:Value):Rc (four w B x y z u) B #[x,y,z,u]:=(((h.st 0 x).st 1 y).st 2 z).st 3 u
theorem zH {B g:Nat} {w w':World} (h:Below B w w') (hg:B<=g) (x y z u:Value):Below B w (four w' g x y z u):=(((h.setCell hg _).setCell hg _).setCell hg _).setCell hg _
theorem Rc.new_ (w:World):Rc (w.alloc (.cells #[.int .i64 0,.string ⟨#[]⟩,.int .i64 0,.int .i64 0] 47)) w.heap.size #[.int .i64 0,.string ⟨#[]⟩,.int .i64 0,.int .i64 0]:=heap_alloc_new w _
def fY (d:List Nat) (b:Nat) (W:World) (e:Ending) (w':World):Prop:=
 e = .returned (.tuple #[(match digT (decide (b=1)) d with | none=>tv0 | some (t,_)=>tv t 0),.int .i64 ((match digT (decide (b=1)) d with | none=>0 | some _=>b+cnt dig d):Nat)])/\Below W.heap.size W w'
theorem tE {d:List Nat} {b:Nat} {W w':World} (h:digT (decide (b=1)) d=none) (hb:Below W.heap.size W w'):fY d b W (.returned (.tuple #[.agg #[.int .i64 0,.string ⟨#[]⟩,.int .i64 0,.int .i64 0],.int .i64 0])) w':=by
 unfold fY;rw[h];exact⟨rfl,hb⟩
theorem oG {d:List Nat} {b:Nat} {W w':World} {v z:Int} {s:ByteArray} {t:Tok×Nat} (h:digT (decide (b=1)) d=some t) (h1:t.1=⟨2,numb v,v⟩) (hs:s=T (numb v)) (hz:z=(b+cnt dig d:Nat)) (hb:Below W.heap.size W w') :
  fY d b W (.returned (.tuple #[.agg #[.int .i64 2,.string s,.int .i64 v,.int .i64 0],.int .i64 z])) w':=by
 unfold fY;rw[h,hs,hz];obtain⟨t1,t2⟩:=t;simp only at h1;subst h1;exact⟨rfl,hb⟩
theorem zV2 {b:Bool} {d:List Nat} (h:cnt inr (d.drop (cnt dig d))≠0):digT b d=none:=by
 unfold digT;rw[if_pos (by omega)]
theorem zV3 {b:Bool} {d:List Nat} (h:cnt dig d=0):digT b d=none:=by
 unfold digT
 by_cases h1:cnt inr (d.drop (cnt dig d)) > 0
 ·rw[if_pos h1]
 ·rw[if_neg h1,if_pos h]
theorem dP {b:Bool} {d:List Nat} (h:1073741824<val 0 (d.take (cnt dig d))):digT b d=none:=by
 unfold digT
 by_cases h1:cnt inr (d.drop (cnt dig d)) > 0
 ·rw[if_pos h1]
 ·rw[if_neg h1]
  by_cases h2:cnt dig d=0
  ·rw[if_pos h2]
  ·rw[if_neg h2,if_pos h]
theorem oH {b:Bool} {d:List Nat} {v:Int} (h1:cnt inr (d.drop (cnt dig d))=0) (h2:cnt dig d≠0) (h3:val 0 (d.take (cnt dig d))<=1073741824) (hv:v=if b then -(val 0 (d.take (cnt dig d)):Int) else (val 0 (d.take (cnt dig d)):Int)) :
  ∃n,digT b d=some (⟨2,numb v,v⟩,n):=by
 unfold digT;rw[if_neg (by omega),if_neg h2,if_neg (by omega),hv]
 cases b
 ·exact⟨_,rfl⟩
 ·exact⟨_,rfl⟩
theorem dQ (S:ByteArray) (d:List Nat) (b:Nat) (hb:b<=1) (ho:okl d) (hsz:sz d<=100000000) (hS:S.size=b+sz d) (w:World) (hL:Lx w)
  (cT:∀W,Calls Tryz.prog 137 #[.string S,.string ⟨#[126]⟩] W fun e w'=>e = .returned (.string (T d))/\W=w') :
  Calls Tryz.prog 96 #[.string S] w (fY d b w):=by
 obtain⟨k,hk⟩:∃k,cnt dig d=k:=⟨_,rfl⟩;have hkl:=kC dig d;have hdg:=dL d;rw[hk] at hkl hdg;have hsk:sz (d.take k)=k:=by rw[sW (fE hdg),List.length_take];omega
 have hdk:d=d.take k++d.drop k:=(List.take_append_drop _ _).symm;have hszk:k<=sz d:=by have:=mN d;omega
 have E1:Hid ((T d).extract k (T d).size=T (d.drop k)):=Lib.hid (by
  have:=fX (d.take k) (d.drop k);rw[hsk,<- hdk] at this;rw[qO];exact this)
 have E2:Hid ((T d).extract 0 k=T (d.take k)):=Lib.hid (by
  have:=zT2 (d.take k) (d.drop k);rw[hsk,<- hdk] at this;exact this)
 have c1:=fun W=>iZ (T d) W
 rw[iT dig ho,hk,hsk] at c1;have c2:=fun W=>fC (T (d.drop k)) W
 rw[iT inr (sU ho k)] at c2;have HK:=Lib.hid hk;have hTs:(T d).size=sz d:=qO d;obtain⟨j,hj⟩:∃j,sz ((d.drop k).take (cnt inr (d.drop k)))=j:=⟨_,rfl⟩;have HJ:Hid (j=0↔cnt inr (d.drop k)=0):=Lib.hid (by
  have h1:=mN ((d.drop k).take (cnt inr (d.drop k)));have h2:=kC inr (d.drop k);rw[List.length_take] at h1
  constructor
  ·intro h;omega
  ·intro h;rw[<- hj,h];rfl)
 have hjl:j<=100000000:=by
  have h1:sz d=sz (d.take k)+sz (d.drop k):=by rw[<- sz_app,<- hdk]
  have h2:sz (d.drop k)=sz ((d.drop k).take (cnt inr (d.drop k)))+sz ((d.drop k).drop (cnt inr (d.drop k))):=by rw[<- sz_app,List.take_append_drop]
  omega
 rw[hj] at c2;clear hj hk hdk hsk;obtain⟨D,hD⟩:∃D,T d=D:=⟨_,rfl⟩;rw[hD] at cT c1 hTs E1 E2;have HD:=Lib.hid hD;have hTs1:D.size<=sz d:=by omega
 have hTs2:sz d<=D.size:=by omega
 have hS1:S.size<=b+D.size:=by omega
 have hS2:b+D.size<=S.size:=by omega
 clear hD hTs hS
 by_cases hj0:j=0
 ·have HJ0:=Lib.hid (HJ.out.1 hj0)
  have hj0':¬(0:Int)<(j:Int):=by omega
  clear hj0
  go_enter Tryz.func96,Tryz.ntmps96
  go_wp2_with fail;refine(cT _).mono ?_;rintro e w' ⟨rfl,rfl⟩;go_wp2_with fail;refine(c1 _).mono ?_;rintro e w1 ⟨rfl,hb1⟩;go_wp2_with fail;rw[E1.out];refine(c2 _).mono ?_;rintro e w2 ⟨rfl,hb2⟩;have hr2:=((Rc.new_ w).below hb1).below hb2;have hb3:=((Below.refl _ _).alloc (Nat.le_refl _) _).trans ((hb1.mono (by simp)).trans (hb2.mono (by have:=hb1.size;simp at this;omega)));have HR2:=Lib.hid hr2;clear hr2
  by_cases hval:k≠0/\val 0 (d.take k)<9223372036854775808
  ·obtain⟨v,hv⟩:∃v,val 0 (d.take k)=v:=⟨_,rfl⟩
   have hsk1:sz (d.take k)<=1000000000:=by
    have h1:sz d=sz (d.take k)+sz (d.drop k):=by rw[<- sz_app,List.take_append_drop]
    omega
   have hne:d.take k≠[]:=fun h=>hval.1 (by have:=congrArg List.length h;rw[List.length_take] at this;simp only[List.length_nil] at this;omega)
   have c3:=fun W=>zPq (d:=d.take k) hdg hne hval.2 hsk1 W
   clear hsk1 hne;rw[hv] at c3 hval;have HV:=Lib.hid hv;have hv63:=hval.2;have HK0:=Lib.hid hval.1;clear hv hval;go_wp2_with fail;rw[E2.out];refine(c3 _).mono ?_;rintro e w3 ⟨rfl,hb3'⟩;have hr3:=HR2.out.below hb3';have hb4:=hb3.trans (hb3'.mono hb3.size);obtain⟨⟨q0,q1,q2,q3⟩,f0,f1,f2,f3⟩:=hr3.cells;have HR:=Lib.hid hr3;clear hr3
   by_cases hbig:1073741824<v
   ·have hbig':(1073741824:Int)<(v:Int):=by omega
    go_wp2
    refine bodyPost_ret (qJ rfl _ _ w.heap.size _ _ (0,0) _ rfl (Rc.four HR.out _ _ _ _) Tryz.underlying47 rfl (by kernel_rfl)) rfl ?_;exact tE (dP (by rw[HK.out,HV.out];exact hbig)) (zH hb4 (Nat.le_refl _) _ _ _ _)
   ·have hbig':¬(1073741824:Int)<(v:Int):=by omega
    clear q0 q1 q2 q3 f0 f1 f2 f3
    rcases(show b=0\/b=1 by omega) with rfl | rfl
    ·have hdif:(S.size:Int)-(D.size:Int)=0:=by omega
     have cN:=fun W hL=>tD ((v:Int)) (by omega) (by omega) W hL
     obtain⟨X,hX⟩:∃X,T (numb ((v:Int)))=X:=⟨_,rfl⟩;rw[hX] at cN;have HX:=Lib.hid hX;have CN:=Lib.hid cN;clear cN hX;go_wp2_with fail;refine(CN.out w3 (hL.below hb4)).mono ?_;rintro e w4 ⟨rfl,hb5⟩;have hr4:=HR.out.below hb5;have hb6:=hb4.trans (hb5.mono hb4.size);obtain⟨⟨q0,q1,q2,q3⟩,f0,f1,f2,f3⟩:=hr4.cells;have HR4:=Lib.hid hr4;clear hr4
     go_wp2
     refine bodyPost_ret (qJ rfl _ _ w.heap.size _ _ (0,0) _ rfl (Rc.four HR4.out _ _ _ _) Tryz.underlying47 rfl (by kernel_rfl)) rfl ?_;obtain⟨n,hn⟩:=oH (b:=decide (0=1)) (v:=(v:Int)) (by rw[HK.out];exact HJ0.out) (by rw[HK.out];exact HK0.out) (by rw[HK.out,HV.out];omega) (by rw[HK.out,HV.out];rfl);exact oG hn rfl HX.out.symm (by rw[HK.out];first | rfl | omega | go_num) (zH hb6 (Nat.le_refl _) _ _ _ _)
    ·have hdif:(S.size:Int)-(D.size:Int)=1:=by omega
     have cN:=fun W hL=>tD (-(v:Int)) (by omega) (by omega) W hL
     obtain⟨X,hX⟩:∃X,T (numb (-(v:Int)))=X:=⟨_,rfl⟩;rw[hX] at cN;have HX:=Lib.hid hX;have CN:=Lib.hid cN;clear cN hX;go_wp2_with fail;refine(CN.out w3 (hL.below hb4)).mono ?_;rintro e w4 ⟨rfl,hb5⟩;have hr4:=HR.out.below hb5;have hb6:=hb4.trans (hb5.mono hb4.size);obtain⟨⟨q0,q1,q2,q3⟩,f0,f1,f2,f3⟩:=hr4.cells;have HR4:=Lib.hid hr4;clear hr4
     go_wp2
     refine bodyPost_ret (qJ rfl _ _ w.heap.size _ _ (0,0) _ rfl (Rc.four HR4.out _ _ _ _) Tryz.underlying47 rfl (by kernel_rfl)) rfl ?_;obtain⟨n,hn⟩:=oH (b:=decide (1=1)) (v:=-(v:Int)) (by rw[HK.out];exact HJ0.out) (by rw[HK.out];exact HK0.out) (by rw[HK.out,HV.out];omega) (by rw[HK.out,HV.out];rfl);exact oG hn rfl HX.out.symm (by rw[HK.out];first | rfl | omega | go_num) (zH hb6 (Nat.le_refl _) _ _ _ _)
  ·have hsk1:sz (d.take k)<=1000000000:=by
    have h1:sz d=sz (d.take k)+sz (d.drop k):=by rw[<- sz_app,List.take_append_drop]
    omega
   have c3:=fun W hL=>zPr (d:=d.take k) hdg (by
    by_cases h:k=0
    ·left;rw[h];rfl
    ·right;exact fun hv=>hval ⟨h,hv⟩) hsk1 W hL
   have C3:=Lib.hid c3;have HV:Hid (k=0\/1073741824<val 0 (d.take k)):=Lib.hid (by omega);clear hsk1 hval c3;go_wp2_with fail;rw[E2.out];refine(C3.out w2 (hL.below hb3)).mono ?_;rintro e w3 ⟨z,ty,p,rfl,hb3'⟩;have hr3:=HR2.out.below hb3';have hb4:=hb3.trans (hb3'.mono hb3.size);obtain⟨⟨q0,q1,q2,q3⟩,f0,f1,f2,f3⟩:=hr3.cells;have HR:=Lib.hid hr3;clear hr3
   go_wp2
   refine bodyPost_ret (qJ rfl _ _ w.heap.size _ _ (0,0) _ rfl (Rc.four HR.out _ _ _ _) Tryz.underlying47 rfl (by kernel_rfl)) rfl ?_;refine tE ?_ (zH hb4 (Nat.le_refl _) _ _ _ _)
   rcases HV.out with h | h
   ·exact zV3 (by rw[HK.out];exact h)
   ·exact dP (by rw[HK.out];exact h)
 ·have HJ0:=Lib.hid (fun h=>hj0 (HJ.out.2 h))
  have hj0':(0:Int)<(j:Int):=by omega
  clear hj0
  go_enter Tryz.func96,Tryz.ntmps96
  go_wp2_with fail;refine(cT _).mono ?_;rintro e w' ⟨rfl,rfl⟩;go_wp2_with fail;refine(c1 _).mono ?_;rintro e w1 ⟨rfl,hb1⟩;go_wp2_with fail;rw[E1.out];refine(c2 _).mono ?_;rintro e w2 ⟨rfl,hb2⟩;have hr2:=((Rc.new_ w).below hb1).below hb2;have hb3:=((Below.refl _ _).alloc (Nat.le_refl _) _).trans ((hb1.mono (by simp)).trans (hb2.mono (by have:=hb1.size;simp at this;omega)));obtain⟨⟨q0,q1,q2,q3⟩,f0,f1,f2,f3⟩:=hr2.cells;have HR:=Lib.hid hr2;clear hr2
  go_wp2
  refine bodyPost_ret (qJ rfl _ _ w.heap.size _ _ (0,0) _ rfl (Rc.four HR.out _ _ _ _) Tryz.underlying47 rfl (by kernel_rfl)) rfl ?_;exact tE (zV2 (by rw[HK.out];exact HJ0.out)) (zH hb3 (Nat.le_refl _) _ _ _ _)
theorem zTh {b:Bool} {d:List Nat} {t:Tok} {n:Nat} (h:digT b d=some (t,n)):n=(if b then 1 else 0)+cnt dig d:=by
 unfold digT at h
 split at h
 ·cases h
 split at h
 ·cases h
 split at h
 ·cases h
 ·cases b
  ·simp at h;simp;omega
  ·simp at h;simp;omega
theorem nW (d:List Nat):sz (d.take (cnt dig d))=cnt dig d:=by
 have:=kC dig d;rw[sW (fE (dL d)),List.length_take];omega
theorem zZi (d:List Nat):numT (126::d)=digT true d:=rfl
theorem zZj {l:List Nat} (h:∀d,l≠126::d):numT l=digT false l:=by
 unfold numT
 split
 ·rename_i d;exact absurd rfl (h d)
 ·rfl
theorem tF (l:List Nat) (ho:okl l) (hsz:sz l<=100000000) (w:World) (hL:Lx w) :
  Calls Tryz.prog 96 #[.string (T l)] w (vC l (numT l) w):=by
 by_cases h:∃d,l=126::d
 ·obtain⟨d,rfl⟩:=h
  have h1:sz (126::d)=1+sz d:=by rw[zG,(yH (r:=126) (by omega)).1]
  have hd:=(yS.1 ho).2;refine(dQ (T (126::d)) d 1 (by omega) hd (by omega) (by rw[qO,h1]) w hL fun W=>(Tryz.strings_TrimPrefix _ _ W).mono fun _ _ k=>⟨?_,k.2.symm⟩).mono fun e w' k=>?_
  ·rw[k.1,yL]
   exact congrArg (fun x=>Ending.returned (.string x)) (zMt (zPo d))
  ·obtain⟨k1,k2⟩:=k
   refine⟨?_,k2⟩;rw[k1,zZi,show decide (1=1)=true from rfl]
   cases hr:digT true d with
   | none=>rfl
   | some r=>
    obtain⟨t,n⟩:=r;have hn:=zTh hr;have e1:(126::d).take n=126::d.take (cnt dig d):=by
     rw[hn,if_pos rfl,Nat.add_comm,List.take_succ_cons]
    simp only[e1,zG,nW,(yH (r:=126) (by omega)).1]
 ·have h':∀d,l≠126::d:=fun d hd=>h ⟨d,hd⟩
  refine(dQ (T l) l 0 (by omega) ho hsz (by rw[qO];omega) w hL fun W=>(Tryz.strings_TrimPrefix _ _ W).mono fun _ _ k=>⟨?_,k.2.symm⟩).mono fun e w' k=>?_
  ·rw[k.1,yL]
   exact congrArg (fun x=>Ending.returned (.string x)) (zMt (zPp ho h'))
  ·obtain⟨k1,k2⟩:=k
   refine⟨?_,k2⟩;rw[k1,zZj h',show decide (0=1)=false from rfl]
   cases hr:digT false l with
   | none=>rfl
   | some r=>
    obtain⟨t,n⟩:=r;have hn:=zTh hr;have e1:n=cnt dig l:=by rw[hn];simp
    simp only[e1,nW,Nat.zero_add]
end Go.Proofs.YtgeghilbikljcaaGreatDoor.B
namespace Go.Proofs.YtgeghilbikljcaaGreatDoor.B
open Go.Lib
theorem zMv {r:Nat} (h:ok r) {b:UInt8} (hb:b∈en r):(r<128/\b=UInt8.ofNat r)\/128<=b.toNat:=by
 unfold ok at h
 rcases zT3 h with ⟨h1,e⟩ | ⟨h1,h2,e⟩ | ⟨h1,h2,e⟩ | ⟨h1,e⟩
 ·rw[e] at hb;simp only[List.mem_singleton] at hb;exact .inl ⟨h1,hb⟩
 all_goals
  rw[e] at hb;simp only[List.mem_cons,List.not_mem_nil,or_false] at hb
  right
  rcases hb with rfl | rfl | rfl | rfl
  all_goals (rw[u8n _ (by omega)];omega)
theorem eA {l:List Nat} (ho:okl l) {c:Nat} (hc:c<128) (h:UInt8.ofNat c∈enc l):c∈l:=by
 induction l with
 | nil=>cases h
 | cons r t ih=>
  obtain⟨h1,h2⟩:=yS.1 ho;have h':UInt8.ofNat c∈en r++enc t:=h
  rcases List.mem_append.1 h' with h3 | h3
  ·rcases zMv h1 h3 with ⟨h4,h5⟩ | h4
   ·have:=congrArg UInt8.toNat h5
    rw[u8n _ (by omega),u8n _ (by omega)] at this;rw[this]
    simp
   ·rw[u8n _ (by omega)] at h4
    omega
  ·exact List.mem_cons_of_mem _ (ih h2 h3)
theorem zPs {x:List UInt8} {c:UInt8} (h:c∉x):indexByte x c = -1:=by
 induction x with
 | nil=>rfl
 | cons b t ih=>
  simp only[List.mem_cons,not_or] at h;unfold indexByte;rw[if_neg (by simp;exact fun e=>h.1 e.symm),ih h.2]
  rfl
theorem ib_at {x y:List UInt8} {c:UInt8} (h:c∉x):indexByte (x++c::y) c=(x.length:Int):=by
 induction x with
 | nil=>simp[indexByte]
 | cons b t ih=>
  simp only[List.mem_cons,not_or] at h
  show indexByte (b::(t++c::y)) c=_
  unfold indexByte;rw[if_neg (by simp;exact fun e=>h.1 e.symm),ih h.2,if_neg (by simp)]
  simp
def D46:ByteArray:=⟨#[46]⟩
theorem zTi {l:List Nat} (ho:okl l) (h:46∉l):indexB (T l) D46 = -1:=by
 show index (enc l) [46] = -1
 rw[index_one];exact zPs fun hm=>h (eA (c:=46) ho (by omega) hm)
theorem zTj {a r:List Nat} (ho:okl a) (h:46∉a):indexB (T (a++46::r)) D46=((sz a:Nat):Int):=by
 show index (enc (a++46::r)) [46]=_
 rw[index_one,fW]
 show indexByte (enc a++(en 46++enc r)) 46=_
 rw[(yH (r:=46) (by omega)).2];exact ib_at fun hm=>h (eA (c:=46) ho (by omega) hm)
theorem zTk {l:List Nat} (h:46∉l):spl l=[l]:=by
 induction l with
 | nil=>rfl
 | cons r t ih=>
  simp only[List.mem_cons,not_or] at h;unfold spl;rw[if_neg (fun e=>h.1 e.symm),ih h.2]
theorem zZk {x:Nat} {t:List Nat} (h:x≠46):spl (x::t)=(match spl t with | []=>[[x]] | a::b=>(x::a)::b):=by
 rw[spl,if_neg h]
 cases spl t<;>rfl
theorem zMw {a r:List Nat} (h:46∉a):spl (a++46::r)=a::spl r:=by
 induction a with
 | nil=>show spl (46::r)=_;simp[spl]
 | cons x t ih=>
  simp only[List.mem_cons,not_or] at h
  show spl (x::(t++46::r))=_
  rw[zZk (fun e=>h.1 e.symm),ih h.2]
theorem zMx (l:List Nat):46∉l\/∃a r,l=a++46::r/\46∉a:=by
 induction l with
 | nil=>left;simp
 | cons x t ih=>
  by_cases hx:x=46
  ·right;exact⟨[],t,by rw[hx];rfl,by simp⟩
  ·rcases ih with h | ⟨a,r,rfl,h⟩
   ·left;simp;exact⟨fun e=>hx e.symm,h⟩
   ·right;exact⟨x::a,r,rfl,by simp;exact⟨fun e=>hx e.symm,h⟩⟩
theorem zXm:∀(n:Nat) (l:List Nat),l.length<=n->okl l->splitB D46 0 (countB (T l) D46) (T l)=(spl l).map T/\countB (T l) D46+1=(spl l).length
 | n,l,hn,ho=>by
  rcases zMx l with h | ⟨a,r,rfl,h⟩
  ·rw[countB_miss _ _ (zTi ho h),zTk h]
   exact⟨rfl,rfl⟩
  ·obtain⟨h1,h2⟩:=xB.1 ho
   obtain⟨h2,h3⟩:=yS.1 h2
   cases n with
   | zero=>simp at hn
   | succ n=>
    have hl:r.length<=n:=by simp at hn;omega
    have ih:=zXm n r hl h3;have e1:(T (a++46::r)).extract (sz a+D46.size) (T (a++46::r)).size=T r:=by
     have:=fX (a++[46]) r;rw[List.append_assoc] at this;rw[qO];have e2:sz (a++[46])=sz a+D46.size:=by rw[sz_app,zG,(yH (r:=46) (by omega)).1];rfl
     rw[e2] at this;exact this
    have e3:countB (T (a++46::r)) D46=countB (T r) D46+1:=by
     rw[countB_hit _ _ (sz a) (by decide) (zTj h1 h),e1,Nat.add_comm]
    rw[e3,splitB_hit _ _ _ _ (sz a) (zTj h1 h),e1,zMw h,Nat.add_zero,zT2,ih.1,ih.2];exact⟨rfl,rfl⟩
end Go.Proofs.YtgeghilbikljcaaGreatDoor.B
namespace Go.Proofs.YtgeghilbikljcaaGreatDoor.B
open Go.RowKit
theorem zZl (l:List Nat) (ho:okl l) (hsz:sz l<=100000000) (w:World) (hL:Lx w) :
  Calls Tryz.prog 165 #[.string (T l),.string ⟨#[46]⟩] w fun e w'=>e = .returned (.slice (some ⟨w.heap.size,0,none⟩) (spl l).length (spl l).length)/\w'=w.alloc (.cells ((spl l).map fun y=>Value.string (T y)).toArray 9):=by
 obtain⟨m,hm⟩:=hL.2.2.1;obtain⟨h1,h2⟩:=zXm l.length l (Nat.le_refl _) ho;refine(Tryz.strings_Split (T l) ⟨#[46]⟩ m w (by rw[qO];omega) hm (by decide)).mono fun e w' k=>?_
 have h1':Lib.splitB ⟨#[46]⟩ 0 (Lib.countB (T l) ⟨#[46]⟩) (T l)=(spl l).map T:=h1;have h2':Lib.countB (T l) ⟨#[46]⟩+1=(spl l).length:=h2;rw[h1',h2',List.map_map] at k;exact k
def pcs (y:List Nat):Bool:=!wrd (T y)&&nm (T y)
theorem zV4 {l:List (List Nat)} (h:∀(j:Nat) y,j<l.length->l[j]? = some y->pcs y=true):(l.all pcs)=true:=by
 rw[List.all_eq_true];intro y hy;obtain⟨j,hj,rfl⟩:=List.getElem_of_mem hy;exact h j _ hj (List.getElem?_eq_getElem hj)
theorem oI {l:List (List Nat)} {j:Nat} {y:List Nat} (h:l[j]? = some y) (hp:pcs y=false):(l.all pcs)=false:=by
 rw[List.all_eq_false];exact⟨y,List.mem_of_getElem? h,by rw[hp];simp⟩
theorem zV5 {l:List Nat} (h:¬sz l<=128):vB l=false:=by
 unfold vB;rw[decide_eq_false h,Bool.false_and]
theorem tG {l:List Nat} {b:Bool} (h:sz l<=128) (hb:(spl l).all pcs=b):vB l=b:=by
 unfold vB;rw[decide_eq_true h,Bool.true_and];exact hb
theorem zXn:∀l:List Nat,1<=(spl l).length/\(spl l).length<=l.length+1
 | []=>by simp[spl]
 | x::t=>by
  have ih:=zXn t
  by_cases hx:x=46
  ·rw[spl,if_pos hx];simp;exact ih.2
  ·rw[zZk hx]
   cases hs:spl t with
   | nil=>simp
   | cons a b=>rw[hs] at ih;simp at ih ⊢;omega
theorem zTl:∀(l:List Nat),∀y∈spl l,sz y<=sz l
 | [],y,hy=>by simp[spl] at hy;subst hy;exact Nat.le_refl _
 | x::t,y,hy=>by
  have ih:=zTl t;rw[zG]
  by_cases hx:x=46
  ·rw[spl,if_pos hx] at hy
   rcases List.mem_cons.1 hy with rfl | hy
   ·exact Nat.zero_le _
   ·have:=ih y hy;omega
  ·rw[zZk hx] at hy
   cases hs:spl t with
   | nil=>rw[hs] at hy;simp at hy;subst hy;rw[zG,yT];omega
   | cons a b=>
    rw[hs] at hy ih
    rcases List.mem_cons.1 hy with rfl | hy
    ·rw[zG];have:=ih a (by simp);omega
    ·have:=ih y (by simp[hy]);omega
theorem zZm (l:List Nat) (ho:okl l) (hsz:sz l<=100000000) (w:World) (hL:Lx w) :
  Calls Tryz.prog 136 #[.string (T l)] w (sY (vB l) w):=by
 have hTs:=qO l
 by_cases hbig:sz l<=128
 ·have cS:=zZl l ho hsz w hL
  have hlen:=zXn l;have hll:=mN l;obtain⟨ps,hps⟩:∃ps,spl l=ps:=⟨_,rfl⟩;have hpz:=zTl l;rw[hps] at cS hlen hpz;obtain⟨S,hS⟩:∃S,T l=S:=⟨_,rfl⟩;rw[hS] at cS hTs ⊢;have hz:¬(128:Int)<(S.size:Int):=by omega
  have HB:=Lib.hid hbig;have HPS:=Lib.hid hps;have hn1:ps.length<=129:=by omega
  have HPZ:Hid (∀y∈ps,sz y<=128):=Lib.hid fun y hy=>by have:=hpz y hy;omega
  clear hpz hbig hps hS hTs hsz hll
  go_enter Tryz.func136,Tryz.ntmps136
  go_wp2_with fail;refine cS.mono ?_;rintro e w1 ⟨rfl,rfl⟩
  go_wp2
  obtain⟨n,hn⟩:∃n,ps.length=n:=⟨_,rfl⟩;have hblk:(w.alloc (.cells (ps.map fun y=>Value.string (T y)).toArray 9)).heap[w.heap.size]? = some (.cells (ps.map fun y=>Value.string (T y)).toArray 9 (0,0)):=heap_alloc_new w _;have hb0:Below w.heap.size w (w.alloc (.cells (ps.map fun y=>Value.string (T y)).toArray 9)):=(Below.refl _ _).alloc (Nat.le_refl _) _;rw[hn] at hn1 ⊢;have HN:=Lib.hid hn
  generalize (w.alloc (.cells (ps.map fun y=>Value.string (T y)).toArray 9))=W0 at hblk hb0 ⊢
  clear hn hlen
  go_loopw [4,11] (fun _ i wr=>∃k:Nat,k<=n/\i = .int .i64 k/\Below w.heap.size w wr/\wr.heap[w.heap.size]? = some (.cells (ps.map fun y=>Value.string (T y)).toArray 9 (0,0))/\(∀(j:Nat) y,j<k->ps[j]? = some y->pcs y=true)) (fun _ i _=>n-(intOf i).toNat)
  case atStart=>exact⟨0,Nat.zero_le _,rfl,hb0,hblk,fun j y hj=>absurd hj (Nat.not_lt_zero _)⟩
  case round=>
   obtain⟨k,hk,rfl,hbw,hblk,hall⟩:=hrel;have HALL:=Lib.hid hall;clear hall
   by_cases hlt:k<n
   ·obtain⟨y,hy⟩:∃y,ps[k]? = some y:=⟨_,List.getElem?_eq_getElem (by rw[HN.out];exact hlt)⟩
    have hcell:wr.cell? ⟨w.heap.size,k,none⟩=some (.string (T y)):=by
     rw[cell_of_row wr _ k _ _ _ hblk]
     simp[hy]
    have HBLK:=Lib.hid hblk;have HY:=Lib.hid hy;have hyz:=HPZ.out y (List.mem_of_getElem? hy);have cN:=fun W=>iS (T y) W (by rw[qO];omega)
    have cW:=fun W=>sZ (T y) W
    have HP:Hid (pcs y=(!wrd (T y)&&nm (T y))):=Lib.hid rfl;obtain⟨X,hX⟩:∃X,T y=X:=⟨_,rfl⟩;rw[hX] at hcell cN cW HP;clear hblk hy hX hyz;obtain⟨b1,hb1⟩:∃b,wrd X=b:=⟨_,rfl⟩;obtain⟨b2,hb2⟩:∃b,nm X=b:=⟨_,rfl⟩;rw[hb1] at cW HP;rw[hb2] at cN HP;clear hb1 hb2
    cases b1
    ·cases b2
     ·go_wp2_with fail
      refine(cW _).mono ?_;rintro e w' ⟨rfl,rfl⟩;go_wp2_with fail;refine(cN _).mono ?_;rintro e w2 ⟨rfl,hb2⟩;have hfin:=hbw.trans (hb2.mono hbw.size)
      go_wp2
      go_ret
      exact⟨jS (tG HB.out (by rw[HPS.out];exact oI HY.out HP.out)),hfin⟩
     ·go_wp2_with fail
      refine(cW _).mono ?_;rintro e w' ⟨rfl,rfl⟩;go_wp2_with fail;refine(cN _).mono ?_;rintro e w2 ⟨rfl,hb2⟩;have hfin:=hbw.trans (hb2.mono hbw.size);have HB2:=Lib.hid (zC HBLK.out hb2)
      go_wp2
      go_roundw
      case rel=>exact⟨k+1,by omega,by go_num,hfin,HB2.out,fun j z hj hz=>by
       rcases Nat.lt_or_ge j k with h | h
       ·exact HALL.out j z h hz
       ·have hjk:j=k:=by omega
        subst hjk;rw[HY.out] at hz;injection hz with hz;subst hz;exact HP.out⟩
      case measure=>simp[intOf];omega
    ·go_wp2_with fail
     refine(cW _).mono ?_;rintro e w' ⟨rfl,rfl⟩
     go_wp2
     go_ret
     exact⟨jS (tG HB.out (by rw[HPS.out];exact oI HY.out (by rw[HP.out];rfl))),hbw⟩
   ·have hkn:k=n:=by omega
    subst hkn
    go_wp2
    go_ret
    exact⟨jS (tG HB.out (by rw[HPS.out];exact zV4 (by rw[HN.out];exact HALL.out))),hbw⟩
 ·have hz:(128:Int)<((T l).size:Int):=by omega
  have HB:=Lib.hid hbig;clear hbig hTs
  go_enter Tryz.func136,Tryz.ntmps136
  go_wp2
  go_ret
  exact⟨jS (zV5 HB.out),Below.refl _ _⟩
theorem zXo (l:List Nat):cnt lng l=cnt inr l+(match l.drop (cnt inr l) with | 46::t=>1+cnt lng t | _=>0):=by
 induction l with
 | nil=>rfl
 | cons r t ih=>
  cases hr:inr r
  ·by_cases h46:r=46
   ·subst h46
    have h1:cnt lng (46::t)=cnt lng t+1:=by simp[cnt,lng]
    have h2:cnt inr (46::t)=0:=by simp[cnt,hr]
    rw[h1,h2,List.drop_zero]
    show _=0+(1+cnt lng t)
    omega
   ·have h1:cnt lng (r::t)=0:=by simp[cnt,lng,hr,h46]
    have h2:cnt inr (r::t)=0:=by simp[cnt,hr]
    rw[h1,h2,List.drop_zero]
    split
    ·rename_i u e
     injection e with e1 e2;exact absurd e1 h46
    ·rfl
  ·have h1:cnt lng (r::t)=cnt lng t+1:=by simp[cnt,lng,hr]
   have h2:cnt inr (r::t)=cnt inr t+1:=by simp[cnt,hr]
   rw[h1,h2,List.drop_succ_cons,ih];omega
def lrest (b:List Nat):Nat:=match b with | 46::t=>1+cnt lng t | _=>0
theorem zV6 (t:List Nat):lrest (46::t)=1+cnt inr t+lrest (t.drop (cnt inr t)):=by
 show 1+cnt lng t=_
 rw[zXo t];unfold lrest;omega
theorem zTm {b:List Nat} (h:List.isPrefixOf [46] b=false):lrest b=0:=by
 unfold lrest
 split
 ·simp at h
 ·rfl
theorem zTn (l:List Nat) (ho:okl l) (hsz:sz l<=100000000) (w:World) (hL:Lx w) :
  Calls Tryz.prog 95 #[.string (T l)] w (vC l (nameT l) w):=by
 have hTs:=qO l;have c1:=fun W=>fC (T l) W
 rw[iT inr ho] at c1;obtain⟨N,hN⟩:∃N,cnt lng l=N:=⟨_,rfl⟩;obtain⟨S,hS⟩:∃S,T l=S:=⟨_,rfl⟩;rw[hS] at hTs c1 ⊢;have HS:=Lib.hid hS;have HNN:=Lib.hid hN;have HZ:=Lib.hid hTs;have hzS:S.size<=100000000:=by omega
 have H0:Hid (l=l.take (cnt inr l)++l.drop (cnt inr l)/\sz (l.take (cnt inr l))<=S.size/\(l.take (cnt inr l)).length+lrest (l.drop (cnt inr l))=N):=Lib.hid (by
  refine⟨(List.take_append_drop _ _).symm,?_,?_⟩
  ·rw[hTs]
   have:sz l=sz (l.take (cnt inr l))+sz (l.drop (cnt inr l)):=by rw[<- sz_app,List.take_append_drop]
   omega
  ·rw[<- hN,zXo l,List.length_take]
   have:=kC inr l;unfold lrest
   omega)
 obtain⟨z0,hz0⟩:∃z,sz (l.take (cnt inr l))=z:=⟨_,rfl⟩;have hz1:z0<=S.size:=by rw[<- hz0];exact H0.out.2.1
 rw[hz0] at c1;have HZ0:=Lib.hid hz0;clear hS hN hTs hz0
 go_enter Tryz.func95,Tryz.ntmps95
 go_wp2_with fail;refine(c1 _).mono ?_;rintro e w1 ⟨rfl,hb1⟩;have hr1:=(Rc.new_ w).below hb1;have hbb:=((Below.refl _ _).alloc (Nat.le_refl _) _).trans (hb1.mono (by simp));clear hb1 c1
 go_wp2
 go_loopw [4] (fun v wr=>∃a b:List Nat,l=a++b/\v = .int .i64 (sz a:Nat)/\Below w.heap.size w wr/\sz a<=S.size/\a.length+lrest b=N/\Rc wr w.heap.size #[.int .i64 0,.string ⟨#[]⟩,.int .i64 0,.int .i64 0]) (fun v _=>S.size-(intOf v).toNat)
 case atStart=>exact⟨_,_,H0.out.1,by rw[HZ0.out],hbb,H0.out.2.1,H0.out.2.2,hr1⟩
 case round=>
  obtain⟨a,b,hl,rfl,hbw,hle,hans,hrc⟩:=hrel;have hob:=(xB.1 (hl▸ho)).2;have E1:Hid (S.extract (sz a) S.size=T b):=Lib.hid (by rw[<- HS.out,qO,hl];exact fX a b);have hp0:Lib.hasPrefix (T b).data.toList (ByteArray.mk #[46]).data.toList=List.isPrefixOf [46] b:=zXe (p:=[46]) (by decide) hob;obtain⟨h46,hh46⟩:∃h,List.isPrefixOf [46] b=h:=⟨_,rfl⟩;have cH:=fun W=>aV (hp0.trans hh46) W
  have HRC:=Lib.hid hrc;clear hp0 hrc
  cases h46
  ·have hlr:=zTm hh46
   have ha:l.take N=a:=by rw[hl,<- hans,hlr,Nat.add_zero];exact List.take_left
   have E2:Hid (S.extract 0 (sz a)=T a):=Lib.hid (by rw[<- HS.out,hl];exact zT2 a b);have HA:=Lib.hid ha;have hoa:=(xB.1 (hl▸ho)).1;have hza:sz a<=100000000:=by omega
   have cW:=fun W=>sZ (T a) W
   have cL:=fun W hL=>zZm a hoa hza W hL
   have HT1:Hid (wrd (T a)=true->nameT l=some (⟨3,a,0⟩,N)):=Lib.hid (fun h=>by unfold nameT;rw[HNN.out,ha,if_pos h]);have HT2:Hid (wrd (T a)=false->vB a=true->nameT l=some (⟨1,a,0⟩,N)):=Lib.hid (fun h h2=>by unfold nameT;rw[HNN.out,ha,if_neg (by rw[h];simp),if_pos h2]);have HT3:Hid (wrd (T a)=false->vB a=false->nameT l=none):=Lib.hid (fun h h2=>by unfold nameT;rw[HNN.out,ha,if_neg (by rw[h];simp),if_neg (by rw[h2];simp)]);clear hl hans hh46 hlr ha hob;obtain⟨b1,hb1⟩:∃b,wrd (T a)=b:=⟨_,rfl⟩;obtain⟨b2,hb2⟩:∃b,vB a=b:=⟨_,rfl⟩;rw[hb1] at cW HT1 HT2 HT3;rw[hb2] at cL HT2 HT3;have CL:=Lib.hid cL;obtain⟨X,hX⟩:∃X,T a=X:=⟨_,rfl⟩;rw[hX] at cW CL E2;have HX:=Lib.hid hX;clear hb1 hb2 cL hX;go_wp2_with fail;rw[E1.out];refine(cH _).mono ?_;rintro e w' ⟨rfl,rfl⟩;go_wp2_with fail;rw[E2.out];refine(cW _).mono ?_;rintro e w' ⟨rfl,rfl⟩
   cases b1
   ·go_wp2_with fail
    refine(CL.out wr (hL.below hbw)).mono ?_;rintro e w2 ⟨rfl,hb2⟩;have hfin:=hbw.trans (hb2.mono hbw.size);have HR:=Lib.hid (HRC.out.below hb2);obtain⟨⟨q0,q1,q2,q3⟩,f0,f1,f2,f3⟩:=HR.out.cells
    cases b2
    ·go_wp2
     refine bodyPost_ret (qJ rfl _ _ w.heap.size _ _ (0,0) _ rfl (Rc.four HR.out _ _ _ _) Tryz.underlying47 rfl (by kernel_rfl)) rfl ?_;exact aW (HT3.out (by simp) (by simp)) (zH hfin (Nat.le_refl _) _ _ _ _)
    ·go_wp2
     refine bodyPost_ret (qJ rfl _ _ w.heap.size _ _ (0,0) _ rfl (Rc.four HR.out _ _ _ _) Tryz.underlying47 rfl (by kernel_rfl)) rfl ?_;exact aX (HT2.out (by simp) (by simp)) HX.out.symm (by rw[HA.out]) (zH hfin (Nat.le_refl _) _ _ _ _)
   ·obtain⟨⟨q0,q1,q2,q3⟩,f0,f1,f2,f3⟩:=HRC.out.cells
    go_wp2
    refine bodyPost_ret (qJ rfl _ _ w.heap.size _ _ (0,0) _ rfl (Rc.four HRC.out _ _ _ _) Tryz.underlying47 rfl (by kernel_rfl)) rfl ?_;exact aX (HT1.out (by simp)) HX.out.symm (by rw[HA.out]) (zH hbw (Nat.le_refl _) _ _ _ _)
  ·obtain⟨t,rfl⟩:∃t,b=46::t:=by
    obtain⟨t,ht⟩:=List.isPrefixOf_iff_prefix.1 hh46;exact⟨t,by rw[<- ht];rfl⟩
   have hot:=(yS.1 hob).2;have e46:sz (46::t)=1+sz t:=by rw[zG,(yH (r:=46) (by omega)).1]
   have hz2:S.size=sz a+(1+sz t):=by rw[HZ.out,hl,sz_app,e46]
   have E2:Hid (S.extract (sz a+1) S.size=T t):=Lib.hid (by
    have:=fX (a++[46]) t;rw[List.append_assoc] at this;have e2:sz (a++[46])=sz a+1:=by rw[sz_app,zG,(yH (r:=46) (by omega)).1,yT]
    rw[e2] at this;rw[<- HS.out,qO,hl];exact this)
   have c2:=fun W=>fC (T t) W
   rw[iT inr hot] at c2;obtain⟨c,hc⟩:∃c,t.take (cnt inr t)=c:=⟨_,rfl⟩;obtain⟨d,hd⟩:∃d,t.drop (cnt inr t)=d:=⟨_,rfl⟩;have htcd:t=c++d:=by rw[<- hc,<- hd];exact(List.take_append_drop _ _).symm
   have hzt:sz t=sz c+sz d:=by rw[htcd,sz_app]
   rw[hc] at c2;have HNEW:Hid (l=(a++(46::c))++d/\sz (a++(46::c))=sz a+(1+sz c)/\(a++(46::c)).length+lrest d=N):=Lib.hid (by
    refine⟨by rw[hl,htcd];simp,by rw[sz_app,zG,(yH (r:=46) (by omega)).1],?_⟩;have h1:=zV6 t;have h2:=kC inr t;have h3:c.length=cnt inr t:=by rw[<- hc,List.length_take];omega
    rw[hd] at h1;rw[<- hans,List.length_append,List.length_cons,h1,h3]
    omega)
   have hzn:sz a+(1+sz c)<=S.size:=by omega
   have hzn2:sz a+1<=S.size:=by omega
   clear hl hans hh46 hc hd htcd hzt hz2 e46;go_wp2_with fail;rw[E1.out];refine(cH _).mono ?_;rintro e w' ⟨rfl,rfl⟩;go_wp2_with fail;rw[E2.out];refine(c2 _).mono ?_;rintro e w2 ⟨rfl,hb2⟩;have hfin:=hbw.trans (hb2.mono hbw.size);have HR:=Lib.hid (HRC.out.below hb2)
   go_wp2
   go_roundw
   case rel=>exact⟨_,_,HNEW.out.1,by rw[HNEW.out.2.1];go_num,hfin,by rw[HNEW.out.2.1];exact hzn,HNEW.out.2.2,HR.out⟩
   case measure=>simp[intOf];omega
theorem zZn (r:Nat) (l:List Nat) (ho:okl (r::l)) (w:World) (hL:Lx w) :
  Calls Tryz.prog 94 #[.string (T (r::l))] w fun e w'=>e = .returned (.tuple #[.int .i32 (r:Int),.int .i64 ((wd r:Nat):Int)])/\Below w.heap.size w w':=by
 have he:Lib.decodeGo (T (r::l))=(r,wd r):=by
  have h0:=zMp [] r l;have hd:=zM9 (yS.1 ho).1 l;unfold Lib.decodeGo;rw[List.nil_append] at h0
  first
   | (rw[if_neg (by omega)];exact hd)
   | (rw[if_pos (by omega)];exact hd)
   | exact hd
 refine(Tryz.utf8_DecodeRuneInString (T (r::l)) w hL.1).mono fun e w' k=>?_
 rw[he] at k;exact k
theorem vC.form {l:List Nat} {r:Option (Tok×Nat)} {W w':World} {e:Ending} (h:vC l r W e w') :
  ∃(K:Int) (S:ByteArray) (M Z:Int),e = .returned (.tuple #[.agg #[.int .i64 K,.string S,.int .i64 M,.int .i64 0],.int .i64 Z])/\Below W.heap.size W w'/\
   Hid (∀W2 w2,Below W2.heap.size W2 w2->vC l r W2 (.returned (.tuple #[.agg #[.int .i64 K,.string S,.int .i64 M,.int .i64 0],.int .i64 Z])) w2):=by
 obtain⟨h1,h2⟩:=h
 cases r with
 | none=>exact⟨0,⟨#[]⟩,0,0,h1,h2,Lib.hid fun W2 w2 hb=>⟨rfl,hb⟩⟩
 | some x=>
  obtain⟨t,n⟩:=x;exact⟨t.k,T t.x,t.n,_,h1,h2,Lib.hid fun W2 w2 hb=>⟨rfl,hb⟩⟩
theorem zV7 (r:Nat) (u:List Nat) (ho:okl (r::u)) (hsz:sz (r::u)<=100000000) (w:World) (hL:Lx w) :
  Calls Tryz.prog 57 #[.string (T (r::u))] w (vC (r::u) (tokT (r::u)) w):=by
 have cD:=fun W hL=>zZn r u ho W hL
 have cC:=fun W=>jM (r:Int) W
 have cN:=fun W hL=>zTn (r::u) ho hsz W hL
 have cM:=fun W hL=>tF (r::u) ho hsz W hL
 have cS:=fun W hL=>zTb (r::u) ho W hL
 have hpo:Lib.hasPrefix (T (r::u)).data.toList (ByteArray.mk #[40,42]).data.toList=opens (r::u):=zXi ho;have ht:tokT (r::u)=if cls r=1 then nameT (r::u) else if cls r=2\/r=126 then numT (r::u) else if opens (r::u) then none else signT (r::u):=rfl
 obtain⟨l,hl⟩:∃l,r::u=l:=⟨_,rfl⟩;rw[hl] at cD cN cM cS hpo ht ⊢;obtain⟨S,hS⟩:∃S,T l=S:=⟨_,rfl⟩;rw[hS] at cD cN cM cS hpo ⊢;obtain⟨c,hc⟩:∃c,cls (r:Int)=c:=⟨_,rfl⟩;rw[hc] at cC ht;obtain⟨o,hoo⟩:∃o,opens l=o:=⟨_,rfl⟩;have cP:=fun W=>aV (hpo.trans hoo) W
 rw[hoo] at ht;have CD:=Lib.hid cD;have CN:=Lib.hid cN;have CM:=Lib.hid cM;have CS:=Lib.hid cS;clear hl hS hc hoo hpo cD cN cM cS
 by_cases h1:c=1
 ·subst h1
  rw[if_pos rfl] at ht;rw[ht];clear ht
  go_enter Tryz.func57,Tryz.ntmps57
  go_wp2_with fail;refine(CD.out _ (hL.below ((Below.refl _ _).alloc (Nat.le_refl _) _))).mono ?_;rintro e w1 ⟨rfl,hb1⟩;have hr1:=Lib.hid ((Rc.new_ w).below hb1);have hbb:=((Below.refl _ _).alloc (Nat.le_refl _) _).trans (hb1.mono (by simp));clear hb1;go_wp2_with fail;refine(cC _).mono ?_;rintro e w' ⟨rfl,rfl⟩;go_wp2_with fail;refine(CN.out w1 (hL.below hbb)).mono ?_;rintro e w2 hk;obtain⟨K,X,M,Z,rfl,hb2,HF⟩:=hk.form;clear hk;have HR:=Lib.hid (hr1.out.below hb2);obtain⟨⟨q0,q1,q2,q3⟩,f0,f1,f2,f3⟩:=HR.out.cells;have hfin:=hbb.trans (hb2.mono hbb.size)
  go_wp2
  refine bodyPost_ret (qJ rfl _ _ w.heap.size _ _ (0,0) _ rfl (Rc.four HR.out _ _ _ _) Tryz.underlying47 rfl (by kernel_rfl)) rfl ?_;exact HF.out _ _ (zH hfin (Nat.le_refl _) _ _ _ _)
 ·have e1:(c==1)=false:=by rw[beq_eq_false_iff_ne];exact h1
  rw[if_neg h1] at ht;clear h1
  by_cases h2:c=2
  ·subst h2
   rw[if_pos (.inl rfl)] at ht;rw[ht];clear ht e1
   go_enter Tryz.func57,Tryz.ntmps57
   go_wp2_with fail;refine(CD.out _ (hL.below ((Below.refl _ _).alloc (Nat.le_refl _) _))).mono ?_;rintro e w1 ⟨rfl,hb1⟩;have hr1:=Lib.hid ((Rc.new_ w).below hb1);have hbb:=((Below.refl _ _).alloc (Nat.le_refl _) _).trans (hb1.mono (by simp));clear hb1;go_wp2_with fail;refine(cC _).mono ?_;rintro e w' ⟨rfl,rfl⟩;go_wp2_with fail;refine(CM.out w1 (hL.below hbb)).mono ?_;rintro e w2 hk;obtain⟨K,X,M,Z,rfl,hb2,HF⟩:=hk.form;clear hk;have HR:=Lib.hid (hr1.out.below hb2);obtain⟨⟨q0,q1,q2,q3⟩,f0,f1,f2,f3⟩:=HR.out.cells;have hfin:=hbb.trans (hb2.mono hbb.size)
   go_wp2
   refine bodyPost_ret (qJ rfl _ _ w.heap.size _ _ (0,0) _ rfl (Rc.four HR.out _ _ _ _) Tryz.underlying47 rfl (by kernel_rfl)) rfl ?_;exact HF.out _ _ (zH hfin (Nat.le_refl _) _ _ _ _)
  ·have e2:(c==2)=false:=by rw[beq_eq_false_iff_ne];exact h2
   by_cases h3:r=126
   ·rw[if_pos (.inr h3)] at ht
    rw[ht];have e3:((r:Int)==126)=true:=by rw[beq_iff_eq];omega
    clear ht h2 h3
    go_enter Tryz.func57,Tryz.ntmps57
    go_wp2_with fail;refine(CD.out _ (hL.below ((Below.refl _ _).alloc (Nat.le_refl _) _))).mono ?_;rintro e w1 ⟨rfl,hb1⟩;have hr1:=Lib.hid ((Rc.new_ w).below hb1);have hbb:=((Below.refl _ _).alloc (Nat.le_refl _) _).trans (hb1.mono (by simp));clear hb1;go_wp2_with fail;refine(cC _).mono ?_;rintro e w' ⟨rfl,rfl⟩;go_wp2_with fail;refine(CM.out w1 (hL.below hbb)).mono ?_;rintro e w2 hk;obtain⟨K,X,M,Z,rfl,hb2,HF⟩:=hk.form;clear hk;have HR:=Lib.hid (hr1.out.below hb2);obtain⟨⟨q0,q1,q2,q3⟩,f0,f1,f2,f3⟩:=HR.out.cells;have hfin:=hbb.trans (hb2.mono hbb.size)
    go_wp2
    refine bodyPost_ret (qJ rfl _ _ w.heap.size _ _ (0,0) _ rfl (Rc.four HR.out _ _ _ _) Tryz.underlying47 rfl (by kernel_rfl)) rfl ?_;exact HF.out _ _ (zH hfin (Nat.le_refl _) _ _ _ _)
   ·rw[if_neg (fun h=>h.elim h2 h3)] at ht
    have e3:((r:Int)==126)=false:=by rw[beq_eq_false_iff_ne];omega
    rw[ht];clear ht h2 h3
    cases o
    ·rw[if_neg (by simp)]
     go_enter Tryz.func57,Tryz.ntmps57
     go_wp2_with fail;refine(CD.out _ (hL.below ((Below.refl _ _).alloc (Nat.le_refl _) _))).mono ?_;rintro e w1 ⟨rfl,hb1⟩;have hr1:=Lib.hid ((Rc.new_ w).below hb1);have hbb:=((Below.refl _ _).alloc (Nat.le_refl _) _).trans (hb1.mono (by simp));clear hb1;go_wp2_with fail;refine(cC _).mono ?_;rintro e w' ⟨rfl,rfl⟩;go_wp2_with fail;refine(cP _).mono ?_;rintro e w' ⟨rfl,rfl⟩;go_wp2_with fail;refine(CS.out w1 (hL.below hbb)).mono ?_;rintro e w2 hk;obtain⟨K,X,M,Z,rfl,hb2,HF⟩:=hk.form;clear hk;have HR:=Lib.hid (hr1.out.below hb2);obtain⟨⟨q0,q1,q2,q3⟩,f0,f1,f2,f3⟩:=HR.out.cells;have hfin:=hbb.trans (hb2.mono hbb.size)
     go_wp2
     refine bodyPost_ret (qJ rfl _ _ w.heap.size _ _ (0,0) _ rfl (Rc.four HR.out _ _ _ _) Tryz.underlying47 rfl (by kernel_rfl)) rfl ?_;exact HF.out _ _ (zH hfin (Nat.le_refl _) _ _ _ _)
    ·rw[if_pos rfl]
     go_enter Tryz.func57,Tryz.ntmps57
     go_wp2_with fail;refine(CD.out _ (hL.below ((Below.refl _ _).alloc (Nat.le_refl _) _))).mono ?_;rintro e w1 ⟨rfl,hb1⟩;have hr1:=Lib.hid ((Rc.new_ w).below hb1);have hbb:=((Below.refl _ _).alloc (Nat.le_refl _) _).trans (hb1.mono (by simp));clear hb1;go_wp2_with fail;refine(cC _).mono ?_;rintro e w' ⟨rfl,rfl⟩;obtain⟨⟨q0,q1,q2,q3⟩,f0,f1,f2,f3⟩:=hr1.out.cells;go_wp2_with fail;refine(cP _).mono ?_;rintro e w' ⟨rfl,rfl⟩
     go_wp2
     refine bodyPost_ret (qJ rfl _ _ w.heap.size _ _ (0,0) _ rfl (Rc.four hr1.out _ _ _ _) Tryz.underlying47 rfl (by kernel_rfl)) rfl ?_;exact aW rfl (zH hbb (Nat.le_refl _) _ _ _ _)
end Go.Proofs.YtgeghilbikljcaaGreatDoor.B
