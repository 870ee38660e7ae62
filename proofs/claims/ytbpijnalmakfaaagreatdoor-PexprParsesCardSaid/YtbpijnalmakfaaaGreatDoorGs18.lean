/-
  Layer 5, the program's small checks: number, plain, texts, named, long: what they tell of a node; the table's rows by category and kind.
-/
import Derived.Test.YtbpijnalmakfaaaGreatDoorGs17
import Derived.Deep.Onto
import Derived.Laws.OwnMore
set_option maxHeartbeats 40000000
set_option maxRecDepth 100000
namespace Go.Proofs.YtbpijnalmakfaaaGreatDoor
open Go.RowKit
section
variable {nk lg:ByteArray→Bool}
def hdB (nk lg:ByteArray→Bool) (x:Nod) (nm mr:List UInt8) (fr upto:Int):Bool:=wordR nk lg x.a nm&&wordR nk lg x.m mr&&decide (fr≤x.n)&&decide (x.n≤upto)
def zXl (c k:Int):List Rw:=RWS.filter fun r=>decide (r.cat=c)&&decide (r.kind=k)
theorem zHx (x:Nod) (l:List Inf) (c:Int):isX nk lg x l c=(zXl c x.k).any fun r=>hdB nk lg x r.nm r.mr r.fr r.toF&&seqOk l r.ks:=by
 unfold isX zXl;rw[List.any_filter]
 congr 1
 funext r
 unfold fitR hdB
 cases decide (r.cat=c)<;>cases decide (r.kind=x.k)<;>cases wordR nk lg x.a r.nm<;>cases wordR nk lg x.m r.mr<;>cases decide (r.fr≤x.n)<;>cases decide (x.n≤r.toF)<;>rfl
theorem yB {x:Nod} {l:List Inf} {c k:Int} {nm mr ks:List UInt8} {fr upto:Int} (hk:x.k=k) (h:zXl c k=[⟨c,k,nm,mr,fr,upto,ks⟩]):isX nk lg x l c=(hdB nk lg x nm mr fr upto&&seqOk l ks):=by
 rw[zHx,hk,h];simp only[List.any_cons,List.any_nil,Bool.or_false]
theorem tZ {x:Nod} {l:List Inf} {c:Int} (h:∀r∈RWS,r.cat=c→r.kind≠x.k):isX nk lg x l c=false:=by
 rw[zHx];unfold zXl;rw[List.any_eq_false];intro r hr;rw[List.mem_filter] at hr;simp only[Bool.and_eq_true,decide_eq_true_eq] at hr;exact absurd hr.2.2 (h r hr.1 hr.2.1)
def numB (x:Nod) (a b:Int):Bool:=decide (a≤x.n)&&decide (x.n≤b)&&isEmp x.a&&isEmp x.m
def texB (x:Nod) (A M:ByteArray→Bool):Bool:=decide (x.n=0)&&A x.a&&M x.m
theorem jR (x:Nod) (fr upto:Int):hdB nk lg x [] [] fr upto=numB x fr upto:=by
 unfold hdB numB wordR;simp only[List.nil_eq,reduceCtorEq,if_false]
 cases isEmp x.a<;>cases isEmp x.m<;>cases decide (fr≤x.n)<;>cases decide (x.n≤upto)<;>rfl
theorem zMo (n:Int):(decide (0≤n)&&decide (n≤0))=decide (n=0):=by
 by_cases h:n=0
 ·subst h;rfl
 ·rw[decide_eq_false h]
  by_cases h1:0≤n
  ·rw[decide_eq_false (by omega:¬n≤0),Bool.and_false]
  ·rw[decide_eq_false h1];rfl
theorem sJ {x:Nod} {nm mr:List UInt8} {A M:ByteArray→Bool} (ha:∀s,wordR nk lg s nm=A s) (hm:∀s,wordR nk lg s mr=M s):hdB nk lg x nm mr 0 0=texB x A M:=by
 unfold hdB texB;rw[ha,hm,←zMo]
 cases A x.a<;>cases M x.m<;>cases decide (0≤x.n)<;>cases decide (x.n≤0)<;>rfl
end
def TelB (b:Bool) (w:World) (e:Ending) (w':World):Prop:=e = .returned (.bool b)∧Up w w'
theorem qI {a b:Bool} {w w':World} (h:a=b) (u:Up w w'):TelB a w (.returned (.bool b)) w':=⟨by rw[h],u⟩
theorem vE (x:Nod) (f:Fr) (a b:Int) (w:World) (v:Value) (hv:HasT w v (some (x,f))) :
  Calls Tryz.prog 102 #[v,.int .i64 a,.int .i64 b] w (TelB (numB x a b) w):=by
 obtain⟨q,p,A,c,rfl,hq,c0,c1,c2,c3,c4,hc,hkid⟩:=InT.open hv;have e1:=zXj x.a;have e2:=zXj x.m;have HB:Hid (numB x a b=(decide (a≤x.n)&&decide (x.n≤b)&&isEmp x.a&&isEmp x.m)):=Lib.hid rfl;rw[HB.out];obtain⟨d1,h1⟩:∃d,decide (a≤x.n)=d:=⟨_,rfl⟩;obtain⟨d2,h2⟩:∃d,decide (x.n≤b)=d:=⟨_,rfl⟩;obtain⟨d3,h3⟩:∃d,isEmp x.a=d:=⟨_,rfl⟩;obtain⟨d4,h4⟩:∃d,isEmp x.m=d:=⟨_,rfl⟩;rw[h1,h2,h3,h4];rw[h3] at e1;rw[h4] at e2;clear hkid hc hq h3 h4 hv HB
 cases d1
 ·have g1:¬a≤x.n:=of_decide_eq_false h1
  go_enter Tryz.func102,Tryz.ntmps102
  go_wp2_with fail
  go_ret
  exact qI rfl (Up.refl _)
 ·have g1:a≤x.n:=of_decide_eq_true h1
  cases d2
  ·have g2:¬x.n≤b:=of_decide_eq_false h2
   go_enter Tryz.func102,Tryz.ntmps102
   go_wp2_with fail
   go_ret
   exact qI rfl (Up.refl _)
  ·have g2:x.n≤b:=of_decide_eq_true h2
   cases d3
   ·go_enter Tryz.func102,Tryz.ntmps102
    go_wp2_with fail
    go_ret
    exact qI rfl (Up.refl _)
   ·cases d4
    all_goals
     go_enter Tryz.func102,Tryz.ntmps102
     go_wp2_with fail
     go_ret
     exact qI rfl (Up.refl _)
theorem yV (x:Nod) (f:Fr) (w:World) (v:Value) (hv:HasT w v (some (x,f))) :
  Calls Tryz.prog 104 #[v] w (TelB (numB x 0 0) w):=by
 have cN:=vE x f 0 0 w v hv;obtain⟨b,hb⟩:∃b,numB x 0 0=b:=⟨_,rfl⟩;rw[hb] at cN ⊢;clear hb hv
 go_enter Tryz.func104,Tryz.ntmps104
 go_wp2_with fail;refine cN.mono ?_;rintro e w1 ⟨rfl,u1⟩;go_wp2_with fail
 go_ret
 exact qI rfl u1
theorem zZf (s:ByteArray) (w:World):Calls Tryz.prog 161 #[.string s] w (TelB (isEmp s) w):=by
 have e1:=zXj s;obtain⟨b,hb⟩:∃b,isEmp s=b:=⟨_,rfl⟩;rw[hb] at e1 ⊢
 go_enter Tryz.func161,Tryz.ntmps161
 go_wp2_with fail
 go_ret
 exact qI rfl (Up.refl _)
def Ent (k:FuncId):Prop:=∀(args:Array Value) (w:World),(callFunc k args).run Tryz.prog w = .ok (.enter k args) w
theorem dK:Ent 162:=fun _ _=>by kernel_rfl
theorem zHy:Ent 160:=fun _ _=>by kernel_rfl
theorem zZg:Ent 161:=fun _ _=>by kernel_rfl
theorem dL (x:Nod) (f:Fr) (kf mf:FuncId) (F M:ByteArray→Bool) (w:World) (v:Value) (hv:HasT w v (some (x,f))) (ek:Ent kf) (em:Ent mf)
  (ck:∀w',Up w w'→Calls Tryz.prog kf #[.string x.a] w' (TelB (F x.a) w')) (cm:∀w',Up w w'→Calls Tryz.prog mf #[.string x.m] w' (TelB (M x.m) w')) :
  Calls Tryz.prog 159 #[v,.func (.func kf) #[] #[],.func (.func mf) #[] #[]] w (TelB (texB x F M) w):=by
 obtain⟨q,p,A,c,rfl,hq,c0,c1,c2,c3,c4,hc,hkid⟩:=InT.open hv;have HB:Hid (texB x F M=(decide (x.n=0)&&F x.a&&M x.m)):=Lib.hid rfl;rw[HB.out];obtain⟨d1,h1⟩:∃d,decide (x.n=0)=d:=⟨_,rfl⟩;obtain⟨d2,h2⟩:∃d,F x.a=d:=⟨_,rfl⟩;obtain⟨d3,h3⟩:∃d,M x.m=d:=⟨_,rfl⟩;have c3':∀u:Upw w,u.w.cell? ⟨q,p+3,none⟩=some (.string x.m):=Upw.cell c3;rw[h1,h2,h3];rw[h2] at ck;rw[h3] at cm;clear hkid hc hq h2 h3 hv HB
 cases d1
 ·have g1:¬x.n=0:=of_decide_eq_false h1
  go_enter Tryz.func159,Tryz.ntmps159
  go_wp2_with fail
  go_ret
  exact qI rfl (Up.refl _)
 ·have g1:x.n=0:=of_decide_eq_true h1
  cases d2
  ·go_enter Tryz.func159,Tryz.ntmps159
   go_wp2_with fail;rw[ek,Oper.upon_enter];refine(ck _ (Up.refl _)).mono ?_;rintro e w1 ⟨rfl,u1⟩;go_wp2_with fail
   go_ret
   exact qI rfl u1
  ·go_enter Tryz.func159,Tryz.ntmps159
   go_wp2_with fail;rw[ek,Oper.upon_enter];refine(ck _ (Up.refl _)).mono ?_;rintro e w1 ⟨rfl,u1⟩;have c3'':=c3' ⟨w1,u1⟩;simp only at c3'';go_wp2_with fail;rw[em,Oper.upon_enter];refine(cm _ u1).mono ?_;rintro e w2 ⟨rfl,u2⟩;go_wp2_with fail
   go_ret
   exact qI (by cases d3<;>rfl) (u1.trans u2)
theorem zXm {b:Bool} {w:World} {P:Program} {k:FuncId} {args:Array Value} (h:Calls P k args w (B.fM b w)):Calls P k args w (TelB b w):=h.mono fun _ _ h=>h
theorem pE (x:Nod) (f:Fr) (w:World) (v:Value) (hv:HasT w v (some (x,f))) (ha:x.a.size≤1000000000) :
  Calls Tryz.prog 106 #[v] w (TelB (texB x B.nck isEmp) w):=by
 have cT:=dL x f 162 161 B.nck isEmp w v hv dK zZg (fun w' _=>zXm (B.wL _ w' ha)) (fun w' _=>zZf _ w');obtain⟨b,hb⟩:∃b,texB x B.nck isEmp=b:=⟨_,rfl⟩;rw[hb] at cT ⊢;clear hb hv
 go_enter Tryz.func106,Tryz.ntmps106
 go_wp2_with fail;refine cT.mono ?_;rintro e w1 ⟨rfl,u1⟩;go_wp2_with fail
 go_ret
 exact qI rfl u1
theorem zZh (x:Nod) (f:Fr) (w:World) (v:Value) (hv:HasT w v (some (x,f))) (ha:x.a.size≤1000000000) (hx:B.Nx w) :
  Calls Tryz.prog 105 #[v] w (TelB (texB x B.long isEmp) w):=by
 have cT:=dL x f 160 161 B.long isEmp w v hv zHy zZg (fun w' u=>zXm (B.zVf _ w' ha (B.Nx.below hx u))) (fun w' _=>zZf _ w');obtain⟨b,hb⟩:∃b,texB x B.long isEmp=b:=⟨_,rfl⟩;rw[hb] at cT ⊢;clear hb hv
 go_enter Tryz.func105,Tryz.ntmps105
 go_wp2_with fail;refine cT.mono ?_;rintro e w1 ⟨rfl,u1⟩;go_wp2_with fail
 go_ret
 exact qI rfl u1
theorem zR9 (x:Nod) (f:Fr) (w:World) (v:Value) (hv:HasT w v (some (x,f))) (ha:x.a.size≤1000000000) (hm:x.m.size≤1000000000) :
  Calls Tryz.prog 159 #[v,.func (.func 162) #[] #[],.func (.func 162) #[] #[]] w (TelB (texB x B.nck B.nck) w):=
 dL x f 162 162 B.nck B.nck w v hv dK dK (fun w' _=>zXm (B.wL _ w' ha)) (fun w' _=>zXm (B.wL _ w' hm))
theorem addAt (b o j:Nat):(⟨b,o,none⟩:Addr).add j=⟨b,o+j,none⟩:=by unfold Addr.add;split<;>simp_all
theorem zU5 (w:World) (a:Addr):(binOp .eql 24 (.pointer (some a)) (.pointer none)).run Tryz.prog w = .ok (.bool false) w:=by
 have h:∀d:Nat,(Op.equalIn (d+1) 24 (.pointer (some a)) (.pointer none)).run Tryz.prog w = .ok false w:=fun d=>by simp[Op.equalIn,run_underlying Tryz.underlying24]
 simp only[binOp]
 simp[Op.equal,Op.maxDepth,h 9999]
theorem InF.vals {w:World} {S:Nat→Prop}:∀{f:Fr} {b o:Nat},InF w S f b o→∃us,PtF w S us f∧∀(j:Nat) u,us[j]? = some u→w.cell? ⟨b,o+j,none⟩=some u
 | .nil,b,o,_=>⟨[],trivial,fun j u h=>by simp at h⟩
 | .cons x k r,b,o,⟨⟨v,hv,hn⟩,hr⟩=>by
  obtain⟨us,h1,h2⟩:=InF.vals (f:=r) hr;refine⟨v::us,⟨hn,h1⟩,fun j u hu=>?_⟩
  cases j with
  | zero=>simp at hu;subst hu;exact hv
  | succ j=>
   have:=h2 j u (by simpa using hu);rw[show o+(j+1)=o+1+j by omega];exact this
theorem Kid.vals {w:World} {S:Nat→Prop} {A:Option Addr} {f:Fr} (h:Kid w S A f 0) (hS:Bel S w.heap.size):∃us,PtF w S us f∧(0<f.len→∃b o,A=some ⟨b,o,none⟩∧b<w.heap.size∧∀(j:Nat) u,us[j]? = some u→w.cell? ⟨b,o+j,none⟩=some u):=by
 rcases Nat.eq_zero_or_pos f.len with h0 | h0
 ·have:f = .nil:=by
   cases f with
   | nil=>rfl
   | cons x k r=>simp[Fr.len] at h0
  subst this;exact⟨[],trivial,fun h=>by omega⟩
 ·obtain⟨kb,ko,hA,h1,h2⟩:=h h0
  obtain⟨us,h3,h4⟩:=InF.vals h2;exact⟨us,h3,fun _=>⟨kb,ko,hA,hS _ h1,h4⟩⟩
theorem dM {w:World} {base:Nat} {e:TypeId} {v:Value} {n:Nat} {xs:List Value} (h:w.ownsRow base e 1 v n xs):∃A c,v = .slice A n c:=by
 rcases h.2 with ⟨h1,h2⟩ | ⟨g,cap,cur,h1,_⟩
 ·exact⟨none,0,by rw[h1,h2]⟩
 ·exact⟨_,_,h1⟩
theorem PtF.kid {w:World} {S:Nat→Prop}:∀{vs:List Value} {f:Fr} {m:Nat} {t:Tr},PtF w S vs f→f.get m=some t→∃v,vs[m]? = some v∧InT w S v t
 | [],.nil,m,t,_,hg=>by cases m<;>cases hg
 | v::vs,.cons x k r,0,t,h,hg=>by injection hg with hg;subst hg;exact⟨v,rfl,h.1⟩
 | v::vs,.cons x k r,m+1,t,h,hg=>PtF.kid (vs:=vs) (f:=r) (m:=m) h.2 hg
def Fns (w:World) (X:Option Nat) (A:Option Addr) (fs:List (FuncId×Array Value)):Prop:=
 ∀(j:Nat) k cap,fs[j]? = some (k,cap)→∃g o,A=some ⟨g,o,none⟩∧X≠some g∧w.cell? ⟨g,o+j,none⟩=some (.func (.func k) #[] cap)
def allB (n:Nat) (bs:Nat→Bool):Bool:=(List.range n).all bs
theorem zHz {n:Nat} {bs:Nat→Bool} (h:∀j,j<n→bs j=true):allB n bs=true:=by
 unfold allB;rw[List.all_eq_true];intro j hj;exact h j (List.mem_range.1 hj)
theorem zBk {n j:Nat} {bs:Nat→Bool} (hj:j<n) (h:bs j=false):allB n bs=false:=by
 unfold allB;rw[List.all_eq_false];exact⟨j,List.mem_range.2 hj,by rw[h];exact Bool.false_ne_true⟩
def TelX (b:Bool) (X:Option Nat) (w:World) (e:Ending) (w':World):Prop:=e = .returned (.bool b)∧w.grownBy w' X
theorem xX {a b:Bool} {X:Option Nat} {w w':World} (h:a=b) (u:w.grownBy w' X):TelX a X w (.returned (.bool b)) w':=⟨by rw[h],u⟩
theorem zG0 {w w':World} {X:Option Nat} (h:w.grownBy w' X) {p:Addr} {v:Value} (hc:w.cell? p=some v) (hne:X≠some p.block):w'.cell? p=some v:=h.cell hc (Ne.symm hne)
theorem zO2 {W w w':World} {X:Option Nat} (hu:Up W w) (h:w.grownBy w' X) (hX:∀m,X=some m→W.heap.size≤m):Up W w':=hu.grown h hu.size fun g hg=>hX g hg
theorem zZi (W w0:World) (v:Value) (x:Nod) (f:Fr) (hv:HasT W v (some (x,f))) (hu:Up W w0) (hf:f.len≤1000000)
  (A:Option Addr) (c:Nat) (fs:List (FuncId×Array Value)) (hfl:fs.length≤1000000) (X:Option Nat) (hA:Fns w0 X A fs) (hX:∀m,X=some m→W.heap.size≤m)
  (bs:Nat→Bool) (J:Nat→World→Prop) (hJ:J 0 w0)
  (hc:∀(i:Nat) (t:Tr) (kv:Value) (w:World) k cap,f.get i=some t→fs[i]? = some (k,cap)→HasT W kv (some t)→Up W w→J i w→
   Ent k∧Calls Tryz.prog k (#[kv]++cap) w fun e w'=>TelX (bs i) X w e w'∧(bs i=true→J (i+1) w')) :
  Calls Tryz.prog 103 #[v,.slice A fs.length c] w0 (TelX (decide (f.len=fs.length)&&allB fs.length bs) X w0):=by
 obtain⟨q,p,A',c',rfl,hq,c0,c1,c2,c3,c4,hcc,hkid⟩:=InT.open hv;obtain⟨us,hus,hcells⟩:=Kid.vals hkid HasT.bel;have hlen:=hus.len;have HU:=Lib.hid hu;have HA:=Lib.hid hA;have HX:=Lib.hid hX;have HC:=Lib.hid hc;have HUS:=Lib.hid hus;have HCE:=Lib.hid hcells;have c4':=hu.cell c4;have C4:=Lib.hid c4;obtain⟨M,hM⟩:∃M,f.len=M:=⟨_,rfl⟩;obtain⟨n,hn⟩:∃n,fs.length=n:=⟨_,rfl⟩;rw[hM] at hf hlen hcc c4' ⊢;rw[hn] at hfl ⊢;have HM:=Lib.hid hM;have HN:=Lib.hid hn;clear hM hn hc hA hX hu hkid hus hcells c0 c1 c2 c3 c4 hv
 by_cases hmn:M=n
 ·subst hmn
  have HB:Hid ((decide (M=M)&&allB M bs)=allB M bs):=Lib.hid (by rw[decide_eq_true rfl];rfl);rw[HB.out]
  go_enter Tryz.func103,Tryz.ntmps103
  go_wp2_with fail;clear c4'
  go_loopw [5,6,17] (fun _ _ i wr=>∃k:Nat,k≤M∧i = .int .i64 k∧w0.grownBy wr X∧J k wr∧(∀j:Nat,j<k→bs j=true)) (fun _ _ i _=>M-(intOf i).toNat)
  case atStart=>exact⟨0,Nat.zero_le _,rfl,jK _ _,hJ,fun j hj=>absurd hj (Nat.not_lt_zero _)⟩
  case round=>
   obtain⟨k,hk,rfl,hg,hj,hall⟩:=hrel;have HG:=Lib.hid hg;have HJ:=Lib.hid hj;have HALL:=Lib.hid hall;clear hg hj hall hJ
   by_cases hlt:k<M
   ·obtain⟨⟨kf,cap⟩,hfs⟩:∃y,fs[k]? = some y:=⟨_,List.getElem?_eq_getElem (by rw[HN.out];exact hlt)⟩
    obtain⟨g,o,rfl,hXg,hcf0⟩:=HA.out k kf cap hfs;have hcf:=zG0 HG.out hcf0 hXg;obtain⟨t,ht⟩:=Fr.get_some (f:=f) (i:=k) (by rw[HM.out];exact hlt);obtain⟨b,o',rfl,hb,hcs⟩:=HCE.out (by rw[HM.out];omega);obtain⟨kv,hkv,hint⟩:=PtF.kid HUS.out ht;have uw:=zO2 HU.out HG.out HX.out;have hck:=uw.cell (hcs k kv hkv);have hc4:=uw.cell C4.out;rw[HM.out] at hc4;obtain⟨ek,cK⟩:=HC.out k t kv wr kf cap ht hfs hint uw HJ.out;have UW:=Lib.hid uw;clear hcf0 hkv hint hcs hfs ht uw;obtain⟨d,hd⟩:∃d,bs k=d:=⟨_,rfl⟩;rw[hd] at cK;have HD:=Lib.hid hd;clear hd
    cases d
    ·go_wp2_with fail
     rw[ek,Oper.upon_enter];refine cK.mono ?_;rintro e w2 ⟨⟨rfl,g2⟩,-⟩;go_wp2_with fail
     go_ret
     exact xX (zBk hlt HD.out) (yY HG.out g2)
    ·go_wp2_with fail
     rw[ek,Oper.upon_enter];refine cK.mono ?_;rintro e w2 ⟨⟨rfl,g2⟩,hj2⟩;go_wp2_with fail
     go_roundw
     case rel=>exact⟨k+1,by omega,by go_num,yY HG.out g2,hj2 (by simp),fun j hj=>by
      rcases Nat.lt_succ_iff_lt_or_eq.1 hj with h | h
      ·exact HALL.out j h
      ·rw[h];exact HD.out⟩
     case measure=>simp[intOf];omega
   ·have hkm:k=M:=by omega
    subst hkm;go_wp2_with fail
    go_ret
    exact xX (zHz HALL.out) HG.out
 ·have HB:Hid ((decide (M=n)&&allB n bs)=false):=Lib.hid (by rw[decide_eq_false hmn];rfl)
  have hmn':¬(M:Int)=(n:Int):=by omega
  rw[HB.out]
  go_enter Tryz.func103,Tryz.ntmps103
  go_wp2_with fail
  go_ret
  exact xX rfl (jK _ _)
def Wr (bw:Nat) (w:World) (ts:List ByteArray):Prop:=∃v,w.heap[bw]? = some (.cells #[v] 215 (0,0))∧w.ownsRow (bw+1) 9 1 v ts.length (ts.map Value.string)
def WrP (W:World) (bw:Nat) (ts:List ByteArray) (e:Ending) (w':World):Prop:=(∃u,e = .returned u)∧Up W w'∧Wr bw w' ts
theorem Wr.up {bw:Nat} {w w':World} {ts:List ByteArray} (h:Wr bw w ts) (u:Up w w'):Wr bw w' ts:=by
 obtain⟨v,h1,h2⟩:=h;exact⟨v,u.row h1,vH h2 (Gs.of (S:=fun _=>False) u) fun _ h=>h.elim⟩
theorem zBl (W:World) (bw:Nat) (hB:W.heap.size≤bw) (w:World) (hu:Up W w) (ts news:List ByteArray) (hw:Wr bw w ts) (hts:ts.length≤1000000) (hn:news.length≤10) (hn0:0<news.length) (H:Nat) (hc:∀(j:Nat) u,(news.map Value.string)[j]? = some u→w.cell? ⟨H,0+j,none⟩=some u) :
  Calls Tryz.prog 235 #[.pointer (some ⟨bw,0,none⟩),.slice (some ⟨H,0,none⟩) news.length news.length] w (WrP W bw (ts++news)):=by
 obtain⟨v,h1,h2⟩:=hw;have c0:w.cell? ⟨bw,0,none⟩=some v:=cell_of_row w bw 0 _ _ _ h1;have hBw:=qC h1;have HROW:=Lib.hid h1;have HOWN:=Lib.hid h2;have HU:=Lib.hid hu;have HC:Hid (∀(j:Nat) u,(news.map Value.string)[j]? = some u→w.cell? ((⟨H,0,none⟩:Addr).add j)=some u):=Lib.hid fun j u h=>by
  have e1:(⟨H,0,none⟩:Addr).add j=⟨H,0+j,none⟩:=by unfold Addr.add;split<;>simp_all
  rw[e1];exact hc j u h
 obtain⟨i0,hi0,hz0,hz1,hz2⟩:=info_parts B.bZ;obtain⟨n,hnn⟩:∃n,ts.length=n:=⟨_,rfl⟩;obtain⟨m,hmm⟩:∃m,news.length=m:=⟨_,rfl⟩;rw[hnn] at hts HOWN;rw[hmm] at hn hn0 ⊢;have HN:=Lib.hid hnn;have HM:=Lib.hid hmm;clear h1 h2 hu hc hnn hmm
 go_enter Tryz.func235,Tryz.ntmps235
 go_wp2_with (at_builtin;refine wpList_append_lies _ rfl _ _ 80 rfl (bw+1) 9 i0 _ 1 16 Tryz.underlying80 hi0 hz0 hz1 hz2 rfl (by omega) v n (ts.map Value.string) rfl HOWN.out ⟨H,0,none⟩ m m (news.map Value.string) rfl (by rw[List.length_map,HM.out,Nat.mul_one]) HC.out (by intro u hu;obtain⟨s,_,rfl⟩:=List.mem_map.1 hu;rfl) (by omega) (by unfold maxLen;omega) (by omega) (by omega) w.heap.size rfl ?_;intro g6 cap6 w6 ho6 hg6 hat6 hlt6;have r6:w6.heap[bw]? = some (.cells #[v] 215 (0,0)):=(hg6.block bw hBw (fun e=>by have:=(World.ownsRow.lt HOWN.out bw e.symm).1;omega)).trans HROW.out;have c6:=cell_of_row w6 bw 0 _ _ _ r6;have f6:=frozen_of_row w6 bw 0 _ _ r6;have hb6:=qC r6;have HO6:=Lib.hid ho6;have HG6:=Lib.hid hg6;have HAT:=Lib.hid hat6;have R6:=Lib.hid r6;clear ho6 hg6 hat6 r6)
 go_end0;have hzz:=HU.out.size;refine⟨⟨_,rfl⟩,?_,.slice (some ⟨g6,0,none⟩) (n+m) cap6,?_,?_⟩
 ·exact(zO2 HU.out HG6.out fun g e=>by have:=(World.ownsRow.lt HOWN.out g e).1;omega).setCell (p:=⟨bw,0,none⟩) hB _
 ·exact Boxed.set _ R6.out
 ·have e:(ts++news).map Value.string=ts.map Value.string++news.map Value.string:=List.map_append
  rw[e,List.length_append,HN.out,HM.out];refine zG HO6.out _ _ fun g e=>?_
  injection e with e;have e:g6=g:=e;subst e
  rcases HAT.out with h | h
  ·have:=(World.ownsRow.lt HOWN.out g6 h).1;simp only;omega
  ·simp only;omega
def txt (l:List Tk):List ByteArray:=l.map (·.s)
theorem aQ {W:World} {bw:Nat} {w:World} {ts:List ByteArray} (news:List ByteArray) (hB:W.heap.size≤bw) (hu:Up W w) (hw:Wr bw w ts) (hts:ts.length≤1000000) (hn:news.length≤10) (hn0:0<news.length) :
  Calls Tryz.prog 235 #[.pointer (some ⟨bw,0,none⟩),.slice (some ⟨w.heap.size,0,none⟩) news.length news.length] (w.alloc (.cells (news.map Value.string).toArray 9)) (WrP W bw (ts++news)):=
 zBl W bw hB _ (hu.alloc _) ts news (hw.up ((Up.refl w).alloc _)) hts hn hn0 w.heap.size fun j u h=>by
  rw[Nat.zero_add,cell_of_row _ w.heap.size j _ _ _ (heap_alloc_new w _),List.getElem?_toArray];exact h
def ruT (k:Int):Int:=if k=5 then 0 else if k=6 then 1 else 2
theorem vI {W w:World} {v:Value} {x:Nod} {f:Fr} (hv:HasT W v (some (x,f))) (hu:Up W w):Calls Tryz.prog 234 #[v] w fun e w'=>e = .returned (.int .i64 (ruT x.k))∧Up w w':=by
 obtain⟨q,p,A,c,rfl,hq,c0,-⟩:=InT.open hv;have k0:=hu.cell c0;clear c0 hv
 by_cases h5:x.k=5
 ·have HE:Hid (ruT x.k=0):=Lib.hid (if_pos h5)
  rw[HE.out];rw[h5] at k0
  go_enter Tryz.func234,Tryz.ntmps234
  go_wp2_with fail
  go_ret
  exact⟨rfl,Up.refl _⟩
 ·by_cases h6:x.k=6
  ·have HE:Hid (ruT x.k=1):=Lib.hid (by unfold ruT;rw[if_neg h5,if_pos h6])
   rw[HE.out];rw[h6] at k0
   go_enter Tryz.func234,Tryz.ntmps234
   go_wp2_with fail
   go_ret
   exact⟨rfl,Up.refl _⟩
  ·have HE:Hid (ruT x.k=2):=Lib.hid (by unfold ruT;rw[if_neg h5,if_neg h6])
   rw[HE.out]
   go_enter Tryz.func234,Tryz.ntmps234
   go_wp2_with fail
   go_ret
   exact⟨rfl,Up.refl _⟩
theorem iU {W:World} {bw:Nat} {w:World} {ts:List ByteArray} (k:Nat) (hk:k<3) (hB:W.heap.size≤bw) (hu:Up W w) (hw:Wr bw w ts) (hts:ts.length≤1000000) (hp:Pl W) :
  Calls Tryz.prog 237 #[.pointer (some ⟨bw,0,none⟩),.int .i64 ((k+1:Nat):Int)] w (WrP W bw (ts++[plS k])):=by
 obtain⟨tp,zp,hpl⟩:=hp.up hu;have HW:=Lib.hid hw;have HU:=Lib.hid hu;obtain⟨kk,hkk⟩:∃kk,((k+1:Nat):Int)=kk:=⟨_,rfl⟩;have HKK:=Lib.hid hkk;rw[hkk];clear hw hu hkk
 go_enter Tryz.func237,Tryz.ntmps237
 go_wp2_with (refine wpList_load_row rfl 258 (.global 7) rfl 7 rfl tp plV zp _ hpl Tryz.underlying258 rfl (by kernel_rfl) ?_)
 generalize hA:plV=AR
 have HAR:=Lib.hid hA;clear hA hpl
 go_loopw [7] (fun x wr=>∃j:Nat,j≤3∧x = .int .i64 (j:Int)∧Up W wr∧Wr bw wr (if k<j then ts++[plS k] else ts)) (fun x _=>4-(intOf x).toNat)
 case atStart=>exact⟨0,Nat.zero_le _,rfl,HU.out,by rw[if_neg (by omega)];exact HW.out⟩
 case round=>
  obtain⟨j,hj,rfl,hur,hwr⟩:=hrel;have HUR:=Lib.hid hur;have HWR:=Lib.hid hwr;clear hur hwr
  by_cases hlt:j<3
  ·have hix:∀W,(Instr.index 258 (.agg AR) (.int .i64 (j:Int))).run Tryz.prog W = .ok (.agg #[.string (plS j),.int .i64 ((j+1:Nat):Int)]) W:=fun W=>by rw[←HAR.out];exact dH j hlt W
   have hw1:IntKind.i64.wrap ((j:Int)+1)=((j+1:Nat):Int):=by rw[IntKind.wrap_i64];omega
   have hjz:(j:Int)<3:=by omega
   obtain⟨X,hX⟩:∃X,plS j=X:=⟨_,rfl⟩;obtain⟨ka,hka⟩:∃ka,((j+1:Nat):Int)=ka:=⟨_,rfl⟩;rw[hX,hka] at hix;rw[hka] at hw1;have HX:=Lib.hid hX;have HKA:=Lib.hid hka;obtain⟨Wr1,hWr1⟩:∃Wr1,wr.alloc (.cells #[.string X,.int .i64 ka] 257)=Wr1:=⟨_,rfl⟩;have ur:Up wr Wr1:=by rw[←hWr1];exact(Up.refl wr).alloc _
   have UR:=Lib.hid ur;have HW1:=Lib.hid hWr1
   by_cases he:ka=kk
   ·have hjk:j=k:=by have:=HKK.out;omega
    have hw2:Wr bw wr ts:=by have h:=HWR.out;rwa [if_neg (by omega)] at h
    have cP:Calls Tryz.prog 235 #[.pointer (some ⟨bw,0,none⟩),.slice (some ⟨Wr1.heap.size,0,none⟩) 1 1] (Wr1.alloc (.cells #[.string X] 9)) (WrP W bw (ts++[X])):=aQ (W:=W) [X] hB (HUR.out.trans ur) (hw2.up ur) hts (by show 1≤10;omega) Nat.one_pos;have hz1:Wr1.heap.size=wr.heap.size+1:=by rw[←hWr1];simp
    rw[hz1] at cP;have cX:Wr1.cell? ⟨wr.heap.size,0,none⟩=some (.string X):=by rw[←hWr1];exact cell_of_row _ wr.heap.size 0 _ _ _ (heap_alloc_new wr _)
    subst he;have HJK:=Lib.hid hjk;clear hX hka hWr1 ur hw2 hjk hz1;go_wp2_with fail;rw[HW1.out];refine cP.mono ?_;rintro en w2 ⟨⟨u,rfl⟩,u2,h2⟩;have h2':=Lib.hid h2;clear h2;go_wp2_with fail
    go_roundw
    case rel=>exact⟨j+1,by omega,yG (by have:=HKA.out;omega),u2,by have hjk:=HJK.out;rw[if_pos (by omega),←hjk,HX.out];exact h2'.out⟩
    case measure=>simp[intOf];have:=HKA.out;omega
   ·have hne:¬j=k:=fun e=>he (by rw[←HKA.out,←HKK.out,e])
    clear hX hka hWr1 ur;go_wp2_with fail
    go_roundw
    case rel=>exact⟨j+1,by omega,yG (by have:=HKA.out;omega),by rw[HW1.out];exact HUR.out.trans UR.out,by
     rw[HW1.out];have h:=HWR.out
     by_cases hkj:k<j
     ·rw[if_pos hkj] at h;rw[if_pos (by omega)];exact h.up UR.out
     ·rw[if_neg hkj] at h;rw[if_neg (by omega)];exact h.up UR.out⟩
    case measure=>simp[intOf];have:=HKA.out;omega
  ·obtain rfl:j=3:=by omega
   go_wp2_with fail;go_end0;have h:=HWR.out;rw[if_pos (by omega)] at h;exact⟨⟨_,rfl⟩,HUR.out,h⟩
def wiR (r:Int) (t:Tr):List Tk:=wi (decide (ruT t.1.k<r)) (tkT t)
theorem pU (t:Tr):wiR 0 t=tkT t:=by
 unfold wiR;have h:¬ruT t.1.k<0:=by unfold ruT;split<;>(try split)<;>omega
 rw[decide_eq_false h]
 rfl
theorem yYl (t:Tr):wiR 1 t=wi (is5 t.1) (tkT t):=by
 unfold wiR is5
 congr 1
 have h:ruT t.1.k<1↔t.1.k=5:=by unfold ruT;split<;>(try split)<;>omega
 exact decide_eq_decide.2 h
theorem wiR_2 (t:Tr):wiR 2 t=wi (nD t.1) (tkT t):=by
 unfold wiR nD
 congr 1
 have h:ruT t.1.k<2↔(t.1.k=5∨t.1.k=6):=by unfold ruT;split<;>(try split)<;>omega
 rw[decide_eq_decide.2 h,Bool.decide_or]
theorem iV {r:Int} {t:Tr} (h:¬ruT t.1.k<r):wiR r t=tkT t:=by unfold wiR;rw[decide_eq_false h];rfl
theorem lD (a b:List Tk):txt (a++b)=txt a++txt b:=List.map_append
theorem jM (a:List Tk):(txt a).length=a.length:=List.length_map _
def WriAt (W:World) (bw:Nat) (t:Tr) (r:Int):Prop:=∀(w:World) (ts:List ByteArray) (v:Value),HasT W v (some t)→Up W w→Wr bw w ts→ts.length+(wiR r t).length≤1000000→Calls Tryz.prog 205 #[.pointer (some ⟨bw,0,none⟩),v,.int .i64 r] w (WrP W bw (ts++txt (wiR r t)))
section
variable {W:World} {bw:Nat}
theorem iW {w:World} {ts:List ByteArray} (x:ByteArray) (hB:W.heap.size≤bw) (hu:Up W w) (hw:Wr bw w ts) (hts:ts.length≤1000000) :
  Calls Tryz.prog 235 #[.pointer (some ⟨bw,0,none⟩),.slice (some ⟨w.heap.size,0,none⟩) 1 1] (w.alloc (.cells #[.string x] 9)) (WrP W bw (ts++[x])):=aQ [x] hB hu hw hts (by show 1≤10;omega) Nat.one_pos
theorem zU6 (t:Tr) (r:Int) (hB:W.heap.size≤bw) (h:ruT t.1.k<r) (c0:WriAt W bw t 0):WriAt W bw t r:=fun w ts v hv hu hw hz=>by
 obtain⟨x,f⟩:=t;have he:wiR r (x,f)=ky kOpen::(tkT (x,f)++[ky kShut]):=by unfold wiR;rw[decide_eq_true h];rfl
 have hzl:ts.length+(tkT (x,f)).length+2≤1000000:=by rw[he] at hz;simp only[List.length_cons,List.length_append,List.length_nil] at hz;omega
 have HE:Hid (ts++txt (wiR r (x,f))=((ts++[kOpen])++txt (wiR 0 (x,f)))++[kShut]):=Lib.hid (by rw[he,pU];show ts++kOpen::txt (tkT (x,f)++[ky kShut])=_;rw[lD];simp[txt,ky]);rw[HE.out];have cR:=vI hv hu;have HV:=Lib.hid hv;have HU:=Lib.hid hu;have HW:=Lib.hid hw;have HC:=Lib.hid c0;have HZ:=Lib.hid hzl;have hq:(ruT x.k)<r:=h;obtain⟨q,hqq⟩:∃q,ruT x.k=q:=⟨_,rfl⟩;rw[hqq] at cR hq;clear hv hu hw c0 he hz hzl h hqq
 go_enter Tryz.func205,Tryz.ntmps205
 go_wp2_with fail;refine cR.mono ?_;rintro en w1 ⟨rfl,u1⟩;have cP:=iW (W:=W) kOpen hB (HU.out.trans u1) (HW.out.up u1) (by have:=HZ.out;omega);have U1:=Lib.hid (HU.out.trans u1);clear u1;go_wp2_with fail;refine cP.mono ?_;rintro en w2 ⟨⟨u,rfl⟩,u2,h2⟩;have cW:=HC.out w2 (ts++[kOpen]) v HV.out u2 h2 (by rw[pU,List.length_append];have:=HZ.out;simp only[List.length_cons,List.length_nil];omega);clear u2 h2 cP;go_wp2_with fail;refine cW.mono ?_;rintro en w3 ⟨⟨u,rfl⟩,u3,h3⟩;have cP:=iW (W:=W) kShut hB u3 h3 (by rw[pU];simp only[List.length_append,jM,List.length_cons,List.length_nil];have:=HZ.out;omega);clear u3 h3 cW;go_wp2_with fail;refine cP.mono ?_;rintro en w4 ⟨⟨u,rfl⟩,u4,h4⟩;have H4:=Lib.hid h4;clear h4;go_wp2_with fail;go_end0;exact⟨⟨_,rfl⟩,u4,H4.out⟩
theorem sK (k:Nat) (hk:k<3) (r:Int) (hB:W.heap.size≤bw) (hp:Pl W) (hr:¬ruT ((k+1:Nat):Int)<r):WriAt W bw (nd ((k+1:Nat):Int) nob .nil) r:=fun w ts v hv hu hw hz=>by
 have he:wiR r (nd ((k+1:Nat):Int) nob .nil)=tkT (nd ((k+1:Nat):Int) nob .nil):=iV hr;have ht:txt (tkT (nd ((k+1:Nat):Int) nob .nil))=[plS k]:=by obtain rfl | rfl | rfl:k=0∨k=1∨k=2:=(by omega)<;>rfl
 have HE:Hid (ts++txt (wiR r (nd ((k+1:Nat):Int) nob .nil))=ts++[plS k]):=Lib.hid (by rw[he,ht]);rw[HE.out];have cR:=vI hv hu;obtain⟨q,p,A,c,rfl,hq,k0,-⟩:=InT.open hv;have HU:=Lib.hid hu;have HW:=Lib.hid hw;have k0:W.cell? ⟨q,p,none⟩=some (.int .i64 ((k+1:Nat):Int)):=k0;have HK:=Lib.hid k0;have hrr:ruT ((k+1:Nat):Int)=2:=by unfold ruT;rw[if_neg (by omega),if_neg (by omega)]
 rw[hrr] at hr;have cR:Calls Tryz.prog 234 #[.pointer (some ⟨q,p,none⟩)] w fun e w'=>e = .returned (.int .i64 2)∧Up w w':=by
  refine cR.mono fun e w' ⟨h1,h2⟩=>⟨?_,h2⟩
  rw[h1];exact congrArg (fun z=>Ending.returned (.int .i64 z)) hrr
 have hz1:ts.length≤1000000:=by omega
 obtain⟨ka,hka⟩:∃ka,((k+1:Nat):Int)=ka:=⟨_,rfl⟩;have h4:¬ka=4:=by omega
 have h5:¬ka=5:=by omega
 have h6:¬ka=6:=by omega
 have h7:¬ka=7:=by omega
 have HKA:=Lib.hid hka;clear hv hu hw he ht hz hrr k0 hka HE
 go_enter Tryz.func205,Tryz.ntmps205
 go_wp2_with fail;refine cR.mono ?_;rintro en w1 ⟨rfl,u1⟩;have k1:w1.cell? ⟨q,p,none⟩=some (.int .i64 ka):=by rw[←HKA.out];exact(HU.out.trans u1).cell HK.out
 have cP:=iU (W:=W) (bw:=bw) k hk hB (HU.out.trans u1) (HW.out.up u1) hz1 hp;rw[HKA.out] at cP;clear u1 cR;go_wp2_with fail;refine cP.mono ?_;rintro en w2 ⟨⟨u,rfl⟩,u2,h2⟩;have H2:=Lib.hid h2;clear h2;go_wp2_with fail;go_end0;exact⟨⟨_,rfl⟩,u2,H2.out⟩
theorem zRa (s:ByteArray) (r:Int) (hB:W.heap.size≤bw) (hr:¬(2:Int)<r):WriAt W bw (nd 4 s .nil) r:=fun w ts v hv hu hw hz=>by
 have he:wiR r (nd 4 s .nil)=[nmT s]:=iV (t:=nd 4 s .nil) hr;have HE:Hid (ts++txt (wiR r (nd 4 s .nil))=ts++[s]):=Lib.hid (by rw[he];rfl);rw[HE.out];have cR:Calls Tryz.prog 234 #[v] w fun e w'=>e = .returned (.int .i64 2)∧Up w w':=vI hv hu
 obtain⟨q,p,A,c,rfl,hq,k0,k1,k2,-⟩:=InT.open hv;have HU:=Lib.hid hu;have HW:=Lib.hid hw;have HK:=Lib.hid k0;have HK2:=Lib.hid k2;have hz1:ts.length≤1000000:=by omega
 clear hv hu hw he hz k0 k1 k2 HE
 go_enter Tryz.func205,Tryz.ntmps205
 go_wp2_with fail;refine cR.mono ?_;rintro en w1 ⟨rfl,u1⟩;have k1:=(HU.out.trans u1).cell HK.out;have k2:=(HU.out.trans u1).cell HK2.out;have cP:=iW (W:=W) s hB (HU.out.trans u1) (HW.out.up u1) hz1;clear u1 cR;go_wp2_with fail;refine cP.mono ?_;rintro en w2 ⟨⟨u,rfl⟩,u2,h2⟩;have H2:=Lib.hid h2;clear h2;go_wp2_with fail;go_end0;exact⟨⟨_,rfl⟩,u2,H2.out⟩
theorem zBm (a b:Tr) (r:Int) (hB:W.heap.size≤bw) (hr:¬(0:Int)<r) (cA:WriAt W bw a 1) (cB:WriAt W bw b 0):WriAt W bw (nd 5 nob (fr2 a b)) r:=fun w ts v hv hu hw hz=>by
 have he:wiR r (nd 5 nob (fr2 a b))=wiR 1 a++(ky zM::wiR 0 b):=by rw[iV (t:=nd 5 nob (fr2 a b)) hr,fJ,←yYl,pU b]
 have HE:Hid (ts++txt (wiR r (nd 5 nob (fr2 a b)))=((ts++txt (wiR 1 a))++[zM])++txt (wiR 0 b)):=Lib.hid (by rw[he,lD];simp[txt,ky]);have hzl:ts.length+(wiR 1 a).length+(wiR 0 b).length+1≤1000000:=by rw[he] at hz;simp only[List.length_cons,List.length_append] at hz;omega
 rw[HE.out];obtain⟨Z,hZ⟩:∃Z,((ts++txt (wiR 1 a))++[zM])++txt (wiR 0 b)=Z:=⟨_,rfl⟩;rw[hZ];have HZZ:=Lib.hid hZ;clear hZ;have cR:Calls Tryz.prog 234 #[v] w fun e w'=>e = .returned (.int .i64 0)∧Up w w':=vI hv hu
 obtain⟨q,p,A,c,rfl,hq,k0,k1,k2,k3,k4,hc,hkid⟩:=InT.open hv;obtain⟨kb,ko,rfl,hkb,⟨va,ka,ia⟩,⟨vb,kb',ib⟩,-⟩:=hkid (by show 0<2;omega);obtain⟨qa,pa,rfl⟩:=InT.ptr ia;obtain⟨qb,pb,rfl⟩:=InT.ptr ib;have k4:W.cell? ⟨q,p+4,none⟩=some (.slice (some ⟨kb,ko,none⟩) 2 c):=k4;have ka:W.cell? ⟨kb,ko,none⟩=some (.pointer (some ⟨qa,pa,none⟩)):=ka;have kb':W.cell? ⟨kb,ko+1,none⟩=some (.pointer (some ⟨qb,pb,none⟩)):=kb';have HIA:Hid (HasT W (.pointer (some ⟨qa,pa,none⟩)) (some a)):=Lib.hid ia;have HIB:Hid (HasT W (.pointer (some ⟨qb,pb,none⟩)) (some b)):=Lib.hid ib;have HU:=Lib.hid hu;have HW:=Lib.hid hw;have HK:=Lib.hid k0;have HK4:=Lib.hid k4;have HKA:=Lib.hid ka;have HKB:=Lib.hid kb';have HZ:=Lib.hid hzl;have HCA:=Lib.hid cA;have HCB:=Lib.hid cB;clear hv hu hw he hz k0 k1 k2 k3 k4 hkid ia ib ka kb' hzl cA cB HE
 go_enter Tryz.func205,Tryz.ntmps205
 go_wp2_with fail;refine cR.mono ?_;rintro en w1 ⟨rfl,u1⟩;have k0:=(HU.out.trans u1).cell HK.out;have k4:=(HU.out.trans u1).cell HK4.out;have ka:=(HU.out.trans u1).cell HKA.out;have cWA:=HCA.out w1 ts _ HIA.out (HU.out.trans u1) (HW.out.up u1) (by have:=HZ.out;omega);clear u1 cR;go_wp2_with fail;refine cWA.mono ?_;rintro en w2 ⟨⟨u,rfl⟩,u2,h2⟩;have cP:=iW (W:=W) zM hB u2 h2 (by rw[List.length_append,jM];have:=HZ.out;omega);have U2:=Lib.hid u2;clear u2 h2 cWA k0 k4 ka;go_wp2_with fail;refine cP.mono ?_;rintro en w3 ⟨⟨u,rfl⟩,u3,h3⟩;have k4:=u3.cell HK4.out;have kb':=u3.cell HKB.out;have cWB:=HCB.out w3 _ _ HIB.out u3 h3 (by simp only[List.length_append,jM,List.length_cons,List.length_nil];have:=HZ.out;omega);clear u3 h3 cP;go_wp2_with fail;refine cWB.mono ?_;rintro en w4 ⟨⟨u,rfl⟩,u4,h4⟩;have H4:=Lib.hid h4;clear h4;go_wp2_with fail;go_end0;exact⟨⟨_,rfl⟩,u4,by rw[←HZZ.out];exact H4.out⟩
theorem zBn (a b:Tr) (r:Int) (hB:W.heap.size≤bw) (hr:¬(1:Int)<r) (cA:WriAt W bw a 2) (cB:WriAt W bw b 1):WriAt W bw (nd 6 nob (fr2 a b)) r:=fun w ts v hv hu hw hz=>by
 have he:wiR r (nd 6 nob (fr2 a b))=wiR 2 a++(ky kStar::wiR 1 b):=by rw[iV (t:=nd 6 nob (fr2 a b)) hr,fK,←wiR_2,←yYl]
 have HE:Hid (ts++txt (wiR r (nd 6 nob (fr2 a b)))=((ts++txt (wiR 2 a))++[kStar])++txt (wiR 1 b)):=Lib.hid (by rw[he,lD];simp[txt,ky]);have hzl:ts.length+(wiR 2 a).length+(wiR 1 b).length+1≤1000000:=by rw[he] at hz;simp only[List.length_cons,List.length_append] at hz;omega
 rw[HE.out];obtain⟨Z,hZ⟩:∃Z,((ts++txt (wiR 2 a))++[kStar])++txt (wiR 1 b)=Z:=⟨_,rfl⟩;rw[hZ];have HZZ:=Lib.hid hZ;clear hZ;have cR:Calls Tryz.prog 234 #[v] w fun e w'=>e = .returned (.int .i64 1)∧Up w w':=vI hv hu
 obtain⟨q,p,A,c,rfl,hq,k0,k1,k2,k3,k4,hc,hkid⟩:=InT.open hv;obtain⟨kb,ko,rfl,hkb,⟨va,ka,ia⟩,⟨vb,kb',ib⟩,-⟩:=hkid (by show 0<2;omega);obtain⟨qa,pa,rfl⟩:=InT.ptr ia;obtain⟨qb,pb,rfl⟩:=InT.ptr ib;have k4:W.cell? ⟨q,p+4,none⟩=some (.slice (some ⟨kb,ko,none⟩) 2 c):=k4;have ka:W.cell? ⟨kb,ko,none⟩=some (.pointer (some ⟨qa,pa,none⟩)):=ka;have kb':W.cell? ⟨kb,ko+1,none⟩=some (.pointer (some ⟨qb,pb,none⟩)):=kb';have HIA:Hid (HasT W (.pointer (some ⟨qa,pa,none⟩)) (some a)):=Lib.hid ia;have HIB:Hid (HasT W (.pointer (some ⟨qb,pb,none⟩)) (some b)):=Lib.hid ib;have HU:=Lib.hid hu;have HW:=Lib.hid hw;have HK:=Lib.hid k0;have HK4:=Lib.hid k4;have HKA:=Lib.hid ka;have HKB:=Lib.hid kb';have HZ:=Lib.hid hzl;have HCA:=Lib.hid cA;have HCB:=Lib.hid cB;clear hv hu hw he hz k0 k1 k2 k3 k4 hkid ia ib ka kb' hzl cA cB HE
 go_enter Tryz.func205,Tryz.ntmps205
 go_wp2_with fail;refine cR.mono ?_;rintro en w1 ⟨rfl,u1⟩;have k0:=(HU.out.trans u1).cell HK.out;have k4:=(HU.out.trans u1).cell HK4.out;have ka:=(HU.out.trans u1).cell HKA.out;have cWA:=HCA.out w1 ts _ HIA.out (HU.out.trans u1) (HW.out.up u1) (by have:=HZ.out;omega);clear u1 cR;go_wp2_with fail;refine cWA.mono ?_;rintro en w2 ⟨⟨u,rfl⟩,u2,h2⟩;have cP:=iW (W:=W) kStar hB u2 h2 (by rw[List.length_append,jM];have:=HZ.out;omega);have U2:=Lib.hid u2;clear u2 h2 cWA k0 k4 ka;go_wp2_with fail;refine cP.mono ?_;rintro en w3 ⟨⟨u,rfl⟩,u3,h3⟩;have k4:=u3.cell HK4.out;have kb':=u3.cell HKB.out;have cWB:=HCB.out w3 _ _ HIB.out u3 h3 (by simp only[List.length_append,jM,List.length_cons,List.length_nil];have:=HZ.out;omega);clear u3 h3 cP;go_wp2_with fail;refine cWB.mono ?_;rintro en w4 ⟨⟨u,rfl⟩,u4,h4⟩;have H4:=Lib.hid h4;clear h4;go_wp2_with fail;go_end0;exact⟨⟨_,rfl⟩,u4,by rw[←HZZ.out];exact H4.out⟩
end
theorem zZj:∀(l:List (List Tk)) (a:List Tk),bars (l++[a])=if l=[] then a else bars l++ky kBar::a
 | [],a=>rfl
 | [x],a=>rfl
 | x::y::r,a=>by
  show x++ky kBar::bars ((y::r)++[a])=_
  rw[zZj (y::r) a,if_neg (by simp),if_neg (by simp)]
  show _=(x++ky kBar::bars (y::r))++ky kBar::a
  simp
def segF (f:Fr):List (List Tk):=(tkF f).map (·.2)
theorem lE:∀(f:Fr),(segF f).length=f.len
 | .nil=>rfl
 | .cons x k r=>by show(segF r).length+1=r.len+1;rw[lE r]
theorem zU7:∀{f:Fr} {j:Nat} {t:Tr},f.get j=some t→(segF f)[j]? = some (tkT t)
 | .nil,_,_,h=>by cases h
 | .cons x k r,0,t,h=>by
  have h:(x,k)=t:=Option.some.inj h;subst h
  rfl
 | .cons x k r,j+1,t,h=>zU7 (f:=r) (j:=j) h
theorem pH {f:Fr} {j:Nat} {t:Tr} (h:f.get j=some t):bars ((segF f).take (j+1))=if j=0 then tkT t else bars ((segF f).take j)++ky kBar::tkT t:=by
 have hs:=zU7 h;have hl:j<(segF f).length:=by rw[lE];exact Fr.get_lt h
 have e:(segF f).take (j+1)=(segF f).take j++[tkT t]:=by rw[List.take_add_one,hs];rfl
 rw[e,zZj]
 cases j with
 | zero=>rfl
 | succ j=>
  rw[if_neg,if_neg (by omega)];intro h0;have:=congrArg List.length h0;rw[List.length_take] at this;simp only[List.length_nil] at this;omega
theorem gM:∀(l:List (List Tk)) (j:Nat),(bars (l.take j)).length≤(bars l).length
 | [],_=>by simp[bars]
 | [a],j=>by cases j with
  | zero=>simp[bars]
  | succ j=>simp[bars]
 | a::b::r,0=>by simp[bars]
 | a::b::r,1=>by simp[bars]
 | a::b::r,j+2=>by
  have ih:=gM (b::r) (j+1)
  show(a++ky kBar::bars ((b::r).take (j+1))).length≤(a++ky kBar::bars (b::r)).length
  simp only[List.length_append,List.length_cons];omega
section
variable {W:World} {bw:Nat}
theorem yYm {w:World} {ts:List ByteArray} (x y:ByteArray) (hB:W.heap.size≤bw) (hu:Up W w) (hw:Wr bw w ts) (hts:ts.length≤1000000) :
  Calls Tryz.prog 235 #[.pointer (some ⟨bw,0,none⟩),.slice (some ⟨w.heap.size,0,none⟩) 2 2] (w.alloc (.cells #[.string x,.string y] 9)) (WrP W bw (ts++[x,y])):=aQ [x,y] hB hu hw hts (by show 2≤10;omega) (by show 0<2;omega)
theorem put_3 {w:World} {ts:List ByteArray} (x y z:ByteArray) (hB:W.heap.size≤bw) (hu:Up W w) (hw:Wr bw w ts) (hts:ts.length≤1000000) :
  Calls Tryz.prog 235 #[.pointer (some ⟨bw,0,none⟩),.slice (some ⟨w.heap.size,0,none⟩) 3 3] (w.alloc (.cells #[.string x,.string y,.string z] 9)) (WrP W bw (ts++[x,y,z])):=aQ [x,y,z] hB hu hw hts (by show 3≤10;omega) (by show 0<3;omega)
theorem uK (f:Fr) (hB:W.heap.size≤bw) (hc:∀(j:Nat) t,f.get j=some t→∃s u,t=nd 8 s (fr1 u)∧WriAt W bw u 0) (kb ko c:Nat) (hf:InF W (fun q=>q<W.heap.size) f kb ko) (w:World) (ts:List ByteArray) (hu:Up W w) (hw:Wr bw w ts) (hz:ts.length+(bars (segF f)).length≤1000000) (hl:f.len≤100000) :
  Calls Tryz.prog 236 #[.pointer (some ⟨bw,0,none⟩),.slice (some ⟨kb,ko,none⟩) f.len c] w (WrP W bw (ts++txt (bars (segF f)))):=by
 obtain⟨n,hn⟩:∃n,f.len=n:=⟨_,rfl⟩;have HN:=Lib.hid hn;have HC:=Lib.hid hc;have HF:=Lib.hid hf;have HU:=Lib.hid hu;have HW:=Lib.hid hw;have HZ:=Lib.hid hz;rw[hn] at hl ⊢;have hend:Hid (bars ((segF f).take n)=bars (segF f)):=Lib.hid (by rw[List.take_of_length_le (by rw[lE];omega)]);obtain⟨Z,hZ⟩:∃Z,ts++txt (bars (segF f))=Z:=⟨_,rfl⟩;rw[hZ];have HZZ:=Lib.hid hZ;clear hn hc hf hu hw hz hZ
 go_enter Tryz.func236,Tryz.ntmps236
 go_wp2_with fail
 go_loopw [8] (fun x wr=>∃j:Nat,j≤n∧x = .int .i64 (j:Int)∧Up W wr∧Wr bw wr (ts++txt (bars ((segF f).take j)))) (fun x _=>n+1-(intOf x).toNat)
 case atStart=>exact⟨0,Nat.zero_le _,rfl,HU.out,by show Wr bw w (ts++txt []);rw[show txt []=[] from rfl,List.append_nil];exact HW.out⟩
 case round=>
  obtain⟨j,hj,rfl,hur,hwr⟩:=hrel;have HUR:=Lib.hid hur;have HWR:=Lib.hid hwr;clear hur hwr
  by_cases hlt:j<n
  ·have hjz:(j:Int)<(n:Int):=by omega
   have hw1:IntKind.i64.wrap ((j:Int)+1)=((j+1:Nat):Int):=by rw[IntKind.wrap_i64];omega
   obtain⟨t,ht⟩:=Fr.get_some (f:=f) (i:=j) (by rw[HN.out];exact hlt);obtain⟨s,u,rfl,cU⟩:=HC.out j t ht;obtain⟨vc,hvc,hTc⟩:=HF.out.at ht;obtain⟨q,p,A,c',rfl,hq,k0,k1,k2,k3,k4,hcc,hkid⟩:=InT.open hTc;obtain⟨kb2,ko2,rfl,hkb2,⟨va,ka,ia⟩,-⟩:=hkid (by show 0<1;omega);obtain⟨qa,pa,rfl⟩:=InT.ptr ia;have hb1:(bars ((segF f).take (j+1))).length≤(bars (segF f)).length:=gM _ _;have hb0:(bars ((segF f).take j)).length≤(bars (segF f)).length:=gM _ _;have hbt:=pH ht;have ka:W.cell? ⟨kb2,ko2,none⟩=some (.pointer (some ⟨qa,pa,none⟩)):=ka;have k2:W.cell? ⟨q,p+2,none⟩=some (.string s):=k2;have k4:W.cell? ⟨q,p+4,none⟩=some (.slice (some ⟨kb2,ko2,none⟩) 1 c'):=k4;have HVC:=Lib.hid hvc;have HK2:=Lib.hid k2;have HK4:=Lib.hid k4;have HKA:=Lib.hid ka;have HIA:Hid (HasT W (.pointer (some ⟨qa,pa,none⟩)) (some u)):=Lib.hid ia;have HBT:=Lib.hid hbt;have HB0:=Lib.hid hb0;have HB1:=Lib.hid hb1;have HCU:=Lib.hid cU;have hvr:=HUR.out.cell hvc;clear ht hTc k0 k1 k2 k3 k4 hkid ka ia hbt hb0 hb1 cU hvc
   by_cases hj0:0<j
   ·have hj1:(0:Int)<(j:Int):=by omega
    have cP:=iW (W:=W) kBar hB HUR.out HWR.out (by rw[List.length_append,jM];have:=HB0.out;have:=HZ.out;omega);go_wp2_with fail;refine cP.mono ?_;rintro en w2 ⟨⟨x2,rfl⟩,u2,h2⟩;have k2:=u2.cell HK2.out;have cQ:=yYm (W:=W) s kOf hB u2 h2 (by have h9:=congrArg List.length HBT.out;rw[if_neg (by omega)] at h9;simp only[List.length_append,List.length_cons] at h9;simp only[List.length_append,jM,List.length_cons,List.length_nil];have:=HB1.out;have:=HZ.out;omega);clear u2 h2 cP hvr;go_wp2_with fail;refine cQ.mono ?_;rintro en w3 ⟨⟨x3,rfl⟩,u3,h3⟩;have k4:=u3.cell HK4.out;have ka:=u3.cell HKA.out;have hlen:=HBT.out;rw[if_neg (by omega)] at hlen;have hln:=congrArg List.length hlen;simp only[List.length_append,List.length_cons,fP] at hln;have cW:=HCU.out w3 _ _ HIA.out u3 h3 (by rw[pU];simp only[List.length_append,jM,List.length_cons,List.length_nil];have:=HB1.out;have:=HZ.out;omega);have HLEN:=Lib.hid hlen;clear u3 h3 cQ k2 hlen hln;go_wp2_with fail;refine cW.mono ?_;rintro en w4 ⟨⟨x4,rfl⟩,u4,h4⟩;have H4:=Lib.hid h4;clear h4;go_wp2_with fail
    go_roundw
    case rel=>
     refine⟨j+1,by omega,rfl,u4,?_⟩;have h:=H4.out;rw[HLEN.out,lD];rw[pU] at h;have e:((ts++txt (bars ((segF f).take j))++[kBar])++[s,kOf])++txt (tkT u)=ts++(txt (bars ((segF f).take j))++txt (ky kBar::tkT (nd 8 s (fr1 u)))):=by rw[fP];simp[txt,ky,nmT]
     rw[e] at h;exact h
    case measure=>simp[intOf];omega
   ·obtain rfl:j=0:=by omega
    have hvr:wr.cell? ⟨kb,ko,none⟩=some (.pointer (some ⟨q,p,none⟩)):=hvr;have k2:=HUR.out.cell HK2.out;have h0:Wr bw wr ts:=by have h:=HWR.out;simpa [bars,txt] using h
    have cQ:=yYm (W:=W) s kOf hB HUR.out h0 (by have:=HZ.out;omega);clear h0;go_wp2_with fail;refine cQ.mono ?_;rintro en w3 ⟨⟨x3,rfl⟩,u3,h3⟩;have k4:=u3.cell HK4.out;have ka:=u3.cell HKA.out;have hlen:=HBT.out;rw[if_pos trivial] at hlen;have hln:=congrArg List.length hlen;simp only[List.length_cons,fP] at hln;have cW:=HCU.out w3 _ _ HIA.out u3 h3 (by rw[pU];simp only[List.length_append,List.length_cons,List.length_nil];have:=HB1.out;have:=HZ.out;omega);have HLEN:=Lib.hid hlen;clear u3 h3 cQ k2 hlen hln hvr;go_wp2_with fail;refine cW.mono ?_;rintro en w4 ⟨⟨x4,rfl⟩,u4,h4⟩;have H4:=Lib.hid h4;clear h4;go_wp2_with fail
    go_roundw
    case rel=>
     refine⟨1,by omega,rfl,u4,?_⟩;have h:=H4.out;rw[HLEN.out];rw[pU] at h;have e:(ts++[s,kOf])++txt (tkT u)=ts++txt (tkT (nd 8 s (fr1 u))):=by rw[fP];simp[txt,ky,nmT]
     rw[e] at h;exact h
    case measure=>first | (simp[intOf];omega) | simp[intOf]
  ·obtain rfl:j=n:=by omega
   have hjz:¬(j:Int)<(j:Int):=by omega
   go_wp2_with fail;go_end0;have h:=HWR.out;rw[hend.out,HZZ.out] at h;exact⟨⟨_,rfl⟩,HUR.out,h⟩
theorem zG1 (s:ByteArray) (f:Fr) (r:Int) (hB:W.heap.size≤bw) (hr:¬(2:Int)<r) (h0:0<f.len) (hl:f.len≤100000) (hc:∀(j:Nat) t,f.get j=some t→∃s u,t=nd 8 s (fr1 u)∧WriAt W bw u 0):WriAt W bw (nd 7 s f) r:=fun w ts v hv hu hw hz=>by
 have he:wiR r (nd 7 s f)=ky kMu::nmT s::ky kLeft::(bars (segF f)++[ky zY]):=by rw[iV (t:=nd 7 s f) hr,tN];rfl
 have HE:Hid (ts++txt (wiR r (nd 7 s f))=((ts++[kMu,s,kLeft])++txt (bars (segF f)))++[zY]):=Lib.hid (by rw[he];show ts++kMu::s::kLeft::txt (bars (segF f)++[ky zY])=_;rw[lD];simp[txt,ky]);have hzl:ts.length+(bars (segF f)).length+4≤1000000:=by rw[he] at hz;simp only[List.length_cons,List.length_append,List.length_nil] at hz;omega
 rw[HE.out];obtain⟨Z,hZ⟩:∃Z,((ts++[kMu,s,kLeft])++txt (bars (segF f)))++[zY]=Z:=⟨_,rfl⟩;rw[hZ];have HZZ:=Lib.hid hZ;clear hZ;have cR:Calls Tryz.prog 234 #[v] w fun e w'=>e = .returned (.int .i64 2)∧Up w w':=vI hv hu
 obtain⟨q,p,A,c,rfl,hq,k0,k1,k2,k3,k4,hcc,hkid⟩:=InT.open hv;obtain⟨kb,ko,rfl,hkb,hf⟩:=hkid h0;have k4:W.cell? ⟨q,p+4,none⟩=some (.slice (some ⟨kb,ko,none⟩) f.len c):=k4;have k2:W.cell? ⟨q,p+2,none⟩=some (.string s):=k2;have HF:=Lib.hid hf;have HU:=Lib.hid hu;have HW:=Lib.hid hw;have HK:=Lib.hid k0;have HK2:=Lib.hid k2;have HK4:=Lib.hid k4;have HZ:=Lib.hid hzl;have HC:=Lib.hid hc;clear hv hu hw he hz k0 k1 k2 k3 k4 hkid hf hzl hc HE
 go_enter Tryz.func205,Tryz.ntmps205
 go_wp2_with fail;refine cR.mono ?_;rintro en w1 ⟨rfl,u1⟩;have k0:=(HU.out.trans u1).cell HK.out;have k2:=(HU.out.trans u1).cell HK2.out;have cP:=put_3 (W:=W) kMu s kLeft hB (HU.out.trans u1) (HW.out.up u1) (by have:=HZ.out;omega);clear u1 cR;go_wp2_with fail;refine cP.mono ?_;rintro en w2 ⟨⟨u,rfl⟩,u2,h2⟩;have k4:=u2.cell HK4.out;have cC:=uK f hB HC.out kb ko c HF.out w2 _ u2 h2 (by simp only[List.length_append,List.length_cons,List.length_nil];have:=HZ.out;omega) hl;clear u2 h2 cP k0 k2;go_wp2_with fail;refine cC.mono ?_;rintro en w3 ⟨⟨u,rfl⟩,u3,h3⟩;have cP:=iW (W:=W) zY hB u3 h3 (by simp only[List.length_append,jM,List.length_cons,List.length_nil];have:=HZ.out;omega);clear u3 h3 cC k4;go_wp2_with fail;refine cP.mono ?_;rintro en w4 ⟨⟨u,rfl⟩,u4,h4⟩;have H4:=Lib.hid h4;clear h4;go_wp2_with fail;go_end0;exact⟨⟨_,rfl⟩,u4,by rw[←HZZ.out];exact H4.out⟩
end
end Go.Proofs.YtbpijnalmakfaaaGreatDoor
