/-
  Layer 5, the program's small checks: number, plain, texts, named, long: what they tell of a node; the table's rows by category and kind.
-/
import Derived.Test.YtbpijnalmakfaaaGreatDoorGw18
import Derived.Laws.AppendOwnNone
import Derived.Laws.CopyOwn
import Derived.Lib.AppendZeros
set_option maxHeartbeats 40000000
set_option maxRecDepth 100000
namespace Go.Proofs.YtbpijnalmakfaaaGreatDoor
open Go.RowKit
section
variable {nk lg:ByteArray→Bool}
def hdB (nk lg:ByteArray→Bool) (x:Nod) (nm mr:List UInt8) (fr upto:Int):Bool:=wordR nk lg x.a nm&&wordR nk lg x.m mr&&decide (fr≤x.n)&&decide (x.n≤upto)
def zW7 (c k:Int):List Rw:=RWS.filter fun r=>decide (r.cat=c)&&decide (r.kind=k)
theorem zG8 (x:Nod) (l:List Inf) (c:Int):isX nk lg x l c=(zW7 c x.k).any fun r=>hdB nk lg x r.nm r.mr r.fr r.toF&&seqOk l r.ks:=by
 unfold isX zW7;rw[List.any_filter]
 congr 1
 funext r
 unfold fitR hdB
 cases decide (r.cat=c)<;>cases decide (r.kind=x.k)<;>cases wordR nk lg x.a r.nm<;>cases wordR nk lg x.m r.mr<;>cases decide (r.fr≤x.n)<;>cases decide (x.n≤r.toF)<;>rfl
theorem zZ {x:Nod} {l:List Inf} {c k:Int} {nm mr ks:List UInt8} {fr upto:Int} (hk:x.k=k) (h:zW7 c k=[⟨c,k,nm,mr,fr,upto,ks⟩]):isX nk lg x l c=(hdB nk lg x nm mr fr upto&&seqOk l ks):=by
 rw[zG8,hk,h];simp only[List.any_cons,List.any_nil,Bool.or_false]
theorem lG {x:Nod} {l:List Inf} {c:Int} (h:∀r∈RWS,r.cat=c→r.kind≠x.k):isX nk lg x l c=false:=by
 rw[zG8];unfold zW7;rw[List.any_eq_false];intro r hr;rw[List.mem_filter] at hr;simp only[Bool.and_eq_true,decide_eq_true_eq] at hr;exact absurd hr.2.2 (h r hr.1 hr.2.1)
def numB (x:Nod) (a b:Int):Bool:=decide (a≤x.n)&&decide (x.n≤b)&&isEmp x.a&&isEmp x.m
def texB (x:Nod) (A M:ByteArray→Bool):Bool:=decide (x.n=0)&&A x.a&&M x.m
theorem jN (x:Nod) (fr upto:Int):hdB nk lg x [] [] fr upto=numB x fr upto:=by
 unfold hdB numB wordR;simp only[List.nil_eq,reduceCtorEq,if_false]
 cases isEmp x.a<;>cases isEmp x.m<;>cases decide (fr≤x.n)<;>cases decide (x.n≤upto)<;>rfl
theorem zL4 (n:Int):(decide (0≤n)&&decide (n≤0))=decide (n=0):=by
 by_cases h:n=0
 ·subst h;rfl
 ·rw[decide_eq_false h]
  by_cases h1:0≤n
  ·rw[decide_eq_false (by omega:¬n≤0),Bool.and_false]
  ·rw[decide_eq_false h1];rfl
theorem sR {x:Nod} {nm mr:List UInt8} {A M:ByteArray→Bool} (ha:∀s,wordR nk lg s nm=A s) (hm:∀s,wordR nk lg s mr=M s):hdB nk lg x nm mr 0 0=texB x A M:=by
 unfold hdB texB;rw[ha,hm,←zL4]
 cases A x.a<;>cases M x.m<;>cases decide (0≤x.n)<;>cases decide (x.n≤0)<;>rfl
end
def TelB (b:Bool) (w:World) (e:Ending) (w':World):Prop:=e = .returned (.bool b)∧Up w w'
theorem qI {a b:Bool} {w w':World} (h:a=b) (u:Up w w'):TelB a w (.returned (.bool b)) w':=⟨by rw[h],u⟩
theorem xY (x:Nod) (f:Fr) (a b:Int) (w:World) (v:Value) (hv:HasT w v (some (x,f))) :
  Calls Tryz.prog 102 #[v,.int .i64 a,.int .i64 b] w (TelB (numB x a b) w):=by
 obtain⟨q,p,A,c,rfl,hq,c0,c1,c2,c3,c4,hc,hkid⟩:=InT.open hv;have e1:=zW5 x.a;have e2:=zW5 x.m;have HB:Hid (numB x a b=(decide (a≤x.n)&&decide (x.n≤b)&&isEmp x.a&&isEmp x.m)):=Lib.hid rfl;rw[HB.out];obtain⟨d1,h1⟩:∃d,decide (a≤x.n)=d:=⟨_,rfl⟩;obtain⟨d2,h2⟩:∃d,decide (x.n≤b)=d:=⟨_,rfl⟩;obtain⟨d3,h3⟩:∃d,isEmp x.a=d:=⟨_,rfl⟩;obtain⟨d4,h4⟩:∃d,isEmp x.m=d:=⟨_,rfl⟩;rw[h1,h2,h3,h4];rw[h3] at e1;rw[h4] at e2;clear hkid hc hq h3 h4 hv HB
 cases d1
 ·have g1:¬a≤x.n:=of_decide_eq_false h1
  go_enter Tryz.func102,Tryz.ntmps102
  go_wp2_with fail
  go_ret
  exact qI rfl (Up.refl _)
 ·have g1:a≤x.n:=of_decide_eq_true h1
  cases d2
  ·have g2:¬x.n≤b:=of_decide_eq_false h2
   go_enter Tryz.func102,Tryz.ntmps102
   go_wp2_with fail
   go_ret
   exact qI rfl (Up.refl _)
  ·have g2:x.n≤b:=of_decide_eq_true h2
   cases d3
   ·go_enter Tryz.func102,Tryz.ntmps102
    go_wp2_with fail
    go_ret
    exact qI rfl (Up.refl _)
   ·cases d4
    all_goals
     go_enter Tryz.func102,Tryz.ntmps102
     go_wp2_with fail
     go_ret
     exact qI rfl (Up.refl _)
theorem yR (x:Nod) (f:Fr) (w:World) (v:Value) (hv:HasT w v (some (x,f))) :
  Calls Tryz.prog 104 #[v] w (TelB (numB x 0 0) w):=by
 have cN:=xY x f 0 0 w v hv;obtain⟨b,hb⟩:∃b,numB x 0 0=b:=⟨_,rfl⟩;rw[hb] at cN ⊢;clear hb hv
 go_enter Tryz.func104,Tryz.ntmps104
 go_wp2_with fail;refine cN.mono ?_;rintro e w1 ⟨rfl,u1⟩;go_wp2_with fail
 go_ret
 exact qI rfl u1
theorem zY4 (s:ByteArray) (w:World):Calls Tryz.prog 161 #[.string s] w (TelB (isEmp s) w):=by
 have e1:=zW5 s;obtain⟨b,hb⟩:∃b,isEmp s=b:=⟨_,rfl⟩;rw[hb] at e1 ⊢
 go_enter Tryz.func161,Tryz.ntmps161
 go_wp2_with fail
 go_ret
 exact qI rfl (Up.refl _)
def Ent (k:FuncId):Prop:=∀(args:Array Value) (w:World),(callFunc k args).run Tryz.prog w = .ok (.enter k args) w
theorem dQ:Ent 162:=fun _ _=>by kernel_rfl
theorem zG9:Ent 160:=fun _ _=>by kernel_rfl
theorem zY5:Ent 161:=fun _ _=>by kernel_rfl
theorem dR (x:Nod) (f:Fr) (kf mf:FuncId) (F M:ByteArray→Bool) (w:World) (v:Value) (hv:HasT w v (some (x,f))) (ek:Ent kf) (em:Ent mf)
  (ck:∀w',Up w w'→Calls Tryz.prog kf #[.string x.a] w' (TelB (F x.a) w')) (cm:∀w',Up w w'→Calls Tryz.prog mf #[.string x.m] w' (TelB (M x.m) w')) :
  Calls Tryz.prog 159 #[v,.func (.func kf) #[] #[],.func (.func mf) #[] #[]] w (TelB (texB x F M) w):=by
 obtain⟨q,p,A,c,rfl,hq,c0,c1,c2,c3,c4,hc,hkid⟩:=InT.open hv;have HB:Hid (texB x F M=(decide (x.n=0)&&F x.a&&M x.m)):=Lib.hid rfl;rw[HB.out];obtain⟨d1,h1⟩:∃d,decide (x.n=0)=d:=⟨_,rfl⟩;obtain⟨d2,h2⟩:∃d,F x.a=d:=⟨_,rfl⟩;obtain⟨d3,h3⟩:∃d,M x.m=d:=⟨_,rfl⟩;have c3':∀u:Upw w,u.w.cell? ⟨q,p+3,none⟩=some (.string x.m):=Upw.cell c3;rw[h1,h2,h3];rw[h2] at ck;rw[h3] at cm;clear hkid hc hq h2 h3 hv HB
 cases d1
 ·have g1:¬x.n=0:=of_decide_eq_false h1
  go_enter Tryz.func159,Tryz.ntmps159
  go_wp2_with fail
  go_ret
  exact qI rfl (Up.refl _)
 ·have g1:x.n=0:=of_decide_eq_true h1
  cases d2
  ·go_enter Tryz.func159,Tryz.ntmps159
   go_wp2_with fail;rw[ek,Oper.upon_enter];refine(ck _ (Up.refl _)).mono ?_;rintro e w1 ⟨rfl,u1⟩;go_wp2_with fail
   go_ret
   exact qI rfl u1
  ·go_enter Tryz.func159,Tryz.ntmps159
   go_wp2_with fail;rw[ek,Oper.upon_enter];refine(ck _ (Up.refl _)).mono ?_;rintro e w1 ⟨rfl,u1⟩;have c3'':=c3' ⟨w1,u1⟩;simp only at c3'';go_wp2_with fail;rw[em,Oper.upon_enter];refine(cm _ u1).mono ?_;rintro e w2 ⟨rfl,u2⟩;go_wp2_with fail
   go_ret
   exact qI (by cases d3<;>rfl) (u1.trans u2)
theorem zW8 {b:Bool} {w:World} {P:Program} {k:FuncId} {args:Array Value} (h:Calls P k args w (B.fJ b w)):Calls P k args w (TelB b w):=h.mono fun _ _ h=>h
theorem zY6 (x:Nod) (f:Fr) (w:World) (v:Value) (hv:HasT w v (some (x,f))) (ha:x.a.size≤1000000000) (hx:B.Nx w) :
  Calls Tryz.prog 105 #[v] w (TelB (texB x B.long isEmp) w):=by
 have cT:=dR x f 160 161 B.long isEmp w v hv zG9 zY5 (fun w' u=>zW8 (B.zVw _ w' ha (B.Nx.below hx u))) (fun w' _=>zY4 _ w');obtain⟨b,hb⟩:∃b,texB x B.long isEmp=b:=⟨_,rfl⟩;rw[hb] at cT ⊢;clear hb hv
 go_enter Tryz.func105,Tryz.ntmps105
 go_wp2_with fail;refine cT.mono ?_;rintro e w1 ⟨rfl,u1⟩;go_wp2_with fail
 go_ret
 exact qI rfl u1
theorem zRu (x:Nod) (f:Fr) (w:World) (v:Value) (hv:HasT w v (some (x,f))) (ha:x.a.size≤1000000000) (hm:x.m.size≤1000000000) :
  Calls Tryz.prog 159 #[v,.func (.func 162) #[] #[],.func (.func 162) #[] #[]] w (TelB (texB x B.nck B.nck) w):=
 dR x f 162 162 B.nck B.nck w v hv dQ dQ (fun w' _=>zW8 (B.wE _ w' ha)) (fun w' _=>zW8 (B.wE _ w' hm))
theorem PtF.kid {w:World} {S:Nat→Prop}:∀{vs:List Value} {f:Fr} {m:Nat} {t:Tr},PtF w S vs f→f.get m=some t→∃v,vs[m]? = some v∧InT w S v t
 | [],.nil,m,t,_,hg=>by cases m<;>cases hg
 | v::vs,.cons x k r,0,t,h,hg=>by injection hg with hg;subst hg;exact⟨v,rfl,h.1⟩
 | v::vs,.cons x k r,m+1,t,h,hg=>PtF.kid (vs:=vs) (f:=r) (m:=m) h.2 hg
def Fns (w:World) (X:Option Nat) (A:Option Addr) (fs:List (FuncId×Array Value)):Prop:=
 ∀(j:Nat) k cap,fs[j]? = some (k,cap)→∃g o,A=some ⟨g,o,none⟩∧X≠some g∧w.cell? ⟨g,o+j,none⟩=some (.func (.func k) #[] cap)
def allB (n:Nat) (bs:Nat→Bool):Bool:=(List.range n).all bs
theorem zGa {n:Nat} {bs:Nat→Bool} (h:∀j,j<n→bs j=true):allB n bs=true:=by
 unfold allB;rw[List.all_eq_true];intro j hj;exact h j (List.mem_range.1 hj)
theorem zA2 {n j:Nat} {bs:Nat→Bool} (hj:j<n) (h:bs j=false):allB n bs=false:=by
 unfold allB;rw[List.all_eq_false];exact⟨j,List.mem_range.2 hj,by rw[h];exact Bool.false_ne_true⟩
def TelX (b:Bool) (X:Option Nat) (w:World) (e:Ending) (w':World):Prop:=e = .returned (.bool b)∧w.grownBy w' X
theorem xU {a b:Bool} {X:Option Nat} {w w':World} (h:a=b) (u:w.grownBy w' X):TelX a X w (.returned (.bool b)) w':=⟨by rw[h],u⟩
theorem zGb {w w':World} {X:Option Nat} (h:w.grownBy w' X) {p:Addr} {v:Value} (hc:w.cell? p=some v) (hne:X≠some p.block):w'.cell? p=some v:=h.cell hc (Ne.symm hne)
theorem zOj {W w w':World} {X:Option Nat} (hu:Up W w) (h:w.grownBy w' X) (hX:∀m,X=some m→W.heap.size≤m):Up W w':=hu.grown h hu.size fun g hg=>hX g hg
theorem zY7 (W w0:World) (v:Value) (x:Nod) (f:Fr) (hv:HasT W v (some (x,f))) (hu:Up W w0) (hf:f.len≤1000000)
  (A:Option Addr) (c:Nat) (fs:List (FuncId×Array Value)) (hfl:fs.length≤1000000) (X:Option Nat) (hA:Fns w0 X A fs) (hX:∀m,X=some m→W.heap.size≤m)
  (bs:Nat→Bool) (J:Nat→World→Prop) (hJ:J 0 w0)
  (hc:∀(i:Nat) (t:Tr) (kv:Value) (w:World) k cap,f.get i=some t→fs[i]? = some (k,cap)→HasT W kv (some t)→Up W w→J i w→
   Ent k∧Calls Tryz.prog k (#[kv]++cap) w fun e w'=>TelX (bs i) X w e w'∧(bs i=true→J (i+1) w')) :
  Calls Tryz.prog 103 #[v,.slice A fs.length c] w0 (TelX (decide (f.len=fs.length)&&allB fs.length bs) X w0):=by
 obtain⟨q,p,A',c',rfl,hq,c0,c1,c2,c3,c4,hcc,hkid⟩:=InT.open hv;obtain⟨us,hus,hcells⟩:=Kid.vals hkid HasT.bel;have hlen:=hus.len;have HU:=Lib.hid hu;have HA:=Lib.hid hA;have HX:=Lib.hid hX;have HC:=Lib.hid hc;have HUS:=Lib.hid hus;have HCE:=Lib.hid hcells;have c4':=hu.cell c4;have C4:=Lib.hid c4;obtain⟨M,hM⟩:∃M,f.len=M:=⟨_,rfl⟩;obtain⟨n,hn⟩:∃n,fs.length=n:=⟨_,rfl⟩;rw[hM] at hf hlen hcc c4' ⊢;rw[hn] at hfl ⊢;have HM:=Lib.hid hM;have HN:=Lib.hid hn;clear hM hn hc hA hX hu hkid hus hcells c0 c1 c2 c3 c4 hv
 by_cases hmn:M=n
 ·subst hmn
  have HB:Hid ((decide (M=M)&&allB M bs)=allB M bs):=Lib.hid (by rw[decide_eq_true rfl];rfl);rw[HB.out]
  go_enter Tryz.func103,Tryz.ntmps103
  go_wp2_with fail;clear c4'
  go_loopw [5,6,17] (fun _ _ i wr=>∃k:Nat,k≤M∧i = .int .i64 k∧w0.grownBy wr X∧J k wr∧(∀j:Nat,j<k→bs j=true)) (fun _ _ i _=>M-(intOf i).toNat)
  case atStart=>exact⟨0,Nat.zero_le _,rfl,jF _ _,hJ,fun j hj=>absurd hj (Nat.not_lt_zero _)⟩
  case round=>
   obtain⟨k,hk,rfl,hg,hj,hall⟩:=hrel;have HG:=Lib.hid hg;have HJ:=Lib.hid hj;have HALL:=Lib.hid hall;clear hg hj hall hJ
   by_cases hlt:k<M
   ·obtain⟨⟨kf,cap⟩,hfs⟩:∃y,fs[k]? = some y:=⟨_,List.getElem?_eq_getElem (by rw[HN.out];exact hlt)⟩
    obtain⟨g,o,rfl,hXg,hcf0⟩:=HA.out k kf cap hfs;have hcf:=zGb HG.out hcf0 hXg;obtain⟨t,ht⟩:=Fr.get_some (f:=f) (i:=k) (by rw[HM.out];exact hlt);obtain⟨b,o',rfl,hb,hcs⟩:=HCE.out (by rw[HM.out];omega);obtain⟨kv,hkv,hint⟩:=PtF.kid HUS.out ht;have uw:=zOj HU.out HG.out HX.out;have hck:=uw.cell (hcs k kv hkv);have hc4:=uw.cell C4.out;rw[HM.out] at hc4;obtain⟨ek,cK⟩:=HC.out k t kv wr kf cap ht hfs hint uw HJ.out;have UW:=Lib.hid uw;clear hcf0 hkv hint hcs hfs ht uw;obtain⟨d,hd⟩:∃d,bs k=d:=⟨_,rfl⟩;rw[hd] at cK;have HD:=Lib.hid hd;clear hd
    cases d
    ·go_wp2_with fail
     rw[ek,Oper.upon_enter];refine cK.mono ?_;rintro e w2 ⟨⟨rfl,g2⟩,-⟩;go_wp2_with fail
     go_ret
     exact xU (zA2 hlt HD.out) (yT HG.out g2)
    ·go_wp2_with fail
     rw[ek,Oper.upon_enter];refine cK.mono ?_;rintro e w2 ⟨⟨rfl,g2⟩,hj2⟩;go_wp2_with fail
     go_roundw
     case rel=>exact⟨k+1,by omega,by go_num,yT HG.out g2,hj2 (by simp),fun j hj=>by
      rcases Nat.lt_succ_iff_lt_or_eq.1 hj with h | h
      ·exact HALL.out j h
      ·rw[h];exact HD.out⟩
     case measure=>simp[intOf];omega
   ·have hkm:k=M:=by omega
    subst hkm;go_wp2_with fail
    go_ret
    exact xU (zGa HALL.out) HG.out
 ·have HB:Hid ((decide (M=n)&&allB n bs)=false):=Lib.hid (by rw[decide_eq_false hmn];rfl)
  have hmn':¬(M:Int)=(n:Int):=by omega
  rw[HB.out]
  go_enter Tryz.func103,Tryz.ntmps103
  go_wp2_with fail
  go_ret
  exact xU rfl (jF _ _)
def Wr (bw:Nat) (w:World) (ts:List ByteArray):Prop:=∃v,w.heap[bw]? = some (.cells #[v] 215 (0,0))∧w.ownsRow (bw+1) 9 1 v ts.length (ts.map Value.string)
theorem Wr.up {bw:Nat} {w w':World} {ts:List ByteArray} (h:Wr bw w ts) (u:Up w w'):Wr bw w' ts:=by
 obtain⟨v,h1,h2⟩:=h;exact⟨v,u.row h1,vC h2 (Gs.of (S:=fun _=>False) u) fun _ h=>h.elim⟩
def txt (l:List Tk):List ByteArray:=l.map (·.s)
def fnV (y:FuncId×Array Value):Value:=.func (.func y.1) #[] y.2
section
variable (nk lg:ByteArray→Bool)
def IsAt (n:Nat):Prop:=∀(t:Tr),szT t≤n→okST t→∀(c:Int) (W w:World) (v:Value),HasT W v (some t)→Up W w→Calls Tryz.prog 81 #[v,.int .i64 c] w (BoP (isT nk lg t c) W)
end
theorem qZ {a b:Bool} {W w':World} (h:b=a) (u:Up W w'):BoP b W (.returned (.bool a)) w':=⟨by rw[h],u⟩
def HasK (w:World) (v:Value) (f:Fr):Prop:=∃A c,v = .slice A f.len c∧f.len≤c∧(0<f.len→∃kb ko,A=some ⟨kb,ko,none⟩∧kb<w.heap.size∧InF w (fun q=>q<w.heap.size) f kb ko)
theorem HasK.up {W w:World} {v:Value} {f:Fr} (h:HasK W v f) (u:Up W w):HasK w v f:=by
 obtain⟨A,c,hv,hc,hk⟩:=h;refine⟨A,c,hv,hc,fun h0=>?_⟩;obtain⟨kb,ko,hA,h1,h2⟩:=hk h0;exact⟨kb,ko,hA,Nat.lt_of_lt_of_le h1 u.size,InF.keep (fun _ hq=>Nat.lt_of_lt_of_le hq u.size) (fun b hb=>u.block b hb) h1 h2⟩
theorem pP (c:UInt8) (r:List UInt8):∃T:ByteArray,byt (c::r)=T∧T.toList.isEmpty=false∧(T.toList==[])=false∧0<T.size∧T.size=r.length+1∧(∀h:0<T.size,T[0]'h=c)∧(∀d r',r=d::r'→∀h:1<T.size,T[1]'h=d)∧T.extract 1 T.size=byt r:=by
 have hsz:(byt (c::r)).size=r.length+1:=by rw[Lib.size_eq];rfl
 refine⟨_,rfl,?_,?_,by omega,hsz,fun h=>rfl,fun d r' e h=>by subst e;rfl,?_⟩
 ·rw[Lib.toList_data];rfl
 ·rw[Lib.toList_data];rfl
 ·apply yYv
  rw[Lib.extract_data,hsz]
  show((c::r).drop 1).take _=r
  simp
theorem zL5 {nk lg:ByteArray→Bool} {n:Nat} (ih:IsAt nk lg n) (d:UInt8) (r:List UInt8) (f:Fr) (hf:f.sz≤n) (hs:okS f) (hn:n≤1000000) (W w:World) (v:Value) (hv:HasK W v f) (hu:Up W w) :
  Calls Tryz.prog 145 #[v,.string (byt (42::d::r))] w (BoP (seqOk (infF nk lg f) (42::d::r)) W):=by
 rw[zG4];obtain⟨T,hT,t1,t2,t3,t4,t5,t6,-⟩:=pP 42 (d::r);rw[hT];have h42:((T[0]'t3).toNat:Int)==42:=by rw[t5 t3];rfl
 have t7:1<T.size:=by rw[t4];simp
 have hd:T[1]'t7=d:=t6 d r rfl t7;have hcat:=fun W=>zOi d W
 obtain⟨A,cp,rfl,hc,hk⟩:=id hv;have hlen:=Fr.len_le f;obtain⟨N,hN⟩:∃N,f.len=N:=⟨_,rfl⟩;rw[hN] at hc hlen hk ⊢;have hN6:N≤1000000:=by omega
 have HK:=Lib.hid hk;have HI:=Lib.hid ih;have HN:=Lib.hid hN;have HF:=Lib.hid hf;have HS:=Lib.hid hs;have HU:=Lib.hid hu;have HC:=Lib.hid hcat;clear hv hk ih hN hf hs hu hcat t2 t4 t5 t6 hT
 go_enter Tryz.func145,Tryz.ntmps145
 go_wp2_with fail
 go_loopw [5] (fun i wr=>∃I:Nat,i = .int .i64 I∧I≤N∧(∀(j:Nat) x,j<I→(infF nk lg f)[j]? = some x→xT d x=true)∧Up W wr) (fun i _=>N-(intOf i).toNat)
 case atStart=>exact⟨0,rfl,Nat.zero_le _,fun j x hj=>absurd hj (Nat.not_lt_zero _),HU.out⟩
 case round=>
  obtain⟨I,rfl,hI,hall,hur⟩:=hrel;have HALL:=Lib.hid hall;have HUR:=Lib.hid hur;clear hall hur
  by_cases hlt:I<N
  ·have hiz:(I:Int)<(N:Int):=by omega
   obtain⟨t,ht⟩:=Fr.get_some (f:=f) (i:=I) (by rw[HN.out];exact hlt);obtain⟨kb,ko,rfl,hkb,hin⟩:=HK.out (by omega);obtain⟨u,hcell,hu⟩:=hin.at ht;obtain⟨q,p,rfl⟩:=hu.ptr;obtain⟨q',p',A',c',hv',-,c0,-⟩:=InT.open (x:=t.1) (ks:=t.2) hu;injection hv' with hv';injection hv' with hv';injection hv' with hq hp;subst hq hp;have hgx:(infF nk lg f)[I]? = some (infT nk lg t):=by rw[nD,ht];rfl
   have hsz:=Fr.get_sz ht;have hT:HasT W (.pointer (some ⟨q,p,none⟩)) (some t):=hu;have cI:=fun W' (h:Up W W')=>HI.out t (by have:=HF.out;omega) (fC HS.out ht) (catOf d) W W' _ hT h
   have HGX:=Lib.hid hgx;have CI:=Lib.hid cI;have HXK:Hid ((infT nk lg t).k=t.1.k):=Lib.hid rfl;obtain⟨b,hb⟩:∃b,isT nk lg t (catOf d)=b:=⟨_,rfl⟩;have HB:Hid ((infT nk lg t).is (catOf d)=b):=Lib.hid hb;rw[hb] at cI;have CI:=Lib.hid cI;have HCELL:=Lib.hid hcell;have HC0:=Lib.hid c0;have hcr:=HUR.out.cell hcell;have c0r:=HUR.out.cell c0;have hcase:(b=false)∨(b=true∧d≠105∧((d.toNat:Int)==105)=false)∨(b=true∧d=105∧((d.toNat:Int)==105)=true∧((t.1.k=74∧(t.1.k==74)=true)∨(t.1.k=75∧(t.1.k==74)=false∧(t.1.k==75)=true)∨((t.1.k==74)=false∧(t.1.k==75)=false∧t.1.k≠74∧t.1.k≠75))):=by
    cases b with
    | false=>exact .inl rfl
    | true=>
     by_cases h:d=105
     ·refine .inr (.inr ⟨rfl,h,yYx (d:=105) h,?_⟩)
      by_cases h1:t.1.k=74
      ·exact .inl ⟨h1,by rw[h1];rfl⟩
      ·by_cases h2:t.1.k=75
       ·exact .inr (.inl ⟨h2,by rw[beq_eq_false_iff_ne];exact h1,by rw[h2];rfl⟩)
       ·exact .inr (.inr ⟨by rw[beq_eq_false_iff_ne];exact h1,by rw[beq_eq_false_iff_ne];exact h2,h1,h2⟩)
     ·exact .inr (.inl ⟨rfl,h,zUr (d:=105) h⟩)
   have HNX:Hid (xT d (infT nk lg t)=true→∀(j:Nat) x,j<I+1→(infF nk lg f)[j]? = some x→xT d x=true):=Lib.hid fun h j x hj hx=>by
    by_cases e:j=I
    ·subst e
     rw[HGX.out] at hx;injection hx with hx;rw[←hx];exact h
    ·exact HALL.out j x (by omega) hx
   have HNO:Hid (xT d (infT nk lg t)=false→(infF nk lg f).all (xT d)=false):=Lib.hid fun h=>zRt HGX.out h
   have HST:Hid (xT d (infT nk lg t)=(b && !(decide (d=105)&&(decide (t.1.k=74)||decide (t.1.k=75))))):=Lib.hid (by unfold xT;rw[HB.out,HXK.out]);clear hin hu hcell c0 hgx hT cI ht hb hsz;have hcu:∀u:Upw W,u.w.cell? ⟨kb,ko+I,none⟩=some (.pointer (some ⟨q,p,none⟩)):=fun u=>u.cell HCELL.out
   have c0u:∀u:Upw W,u.w.cell? ⟨q,p,none⟩=some (.int .i64 t.1.k):=fun u=>u.cell HC0.out
   rcases hcase with rfl | ⟨rfl,hd1,hd2⟩ | ⟨rfl,hd1,hd2,⟨k1,k2⟩ | ⟨k1,k2,k3⟩ | ⟨k2,k3,k4,k5⟩⟩
   ·have HE:Hid ((infF nk lg f).all (xT d)=false):=Lib.hid (HNO.out (by rw[HST.out];rfl))
    clear HNX HNO HST;go_wp2_with fail;refine qF HUR.out (by kernel_rfl) (by kernel_rfl) ?_
    repeat (go_big_quiet_step (first
      | (go_at_call 183;exact Calls.upw ((HC.out _).mono fun _ _ h=>⟨h.1,h.2▸(by assumption:Upw W).h⟩))
      | (go_at_call 81;exact Calls.upw (CI.out _ (by assumption:Upw W).h))))
    refine wpQuiet_nil ?_;rintro _ ⟨⟨w9,u9⟩,rfl⟩;go_wp2_with fail
    go_ret
    exact qZ HE.out u9
   ·have HX:Hid (xT d (infT nk lg t)=true):=Lib.hid (by rw[HST.out,decide_eq_false hd1];rfl)
    clear HNO HST hd1;go_wp2_with fail;refine qF HUR.out (by kernel_rfl) (by kernel_rfl) ?_
    repeat (go_big_quiet_step (first
      | (go_at_call 183;exact Calls.upw ((HC.out _).mono fun _ _ h=>⟨h.1,h.2▸(by assumption:Upw W).h⟩))
      | (go_at_call 81;exact Calls.upw (CI.out _ (by assumption:Upw W).h))))
    refine wpQuiet_nil ?_;rintro _ ⟨⟨w9,u9⟩,rfl⟩;go_wp2_with fail
    go_roundw
    case rel=>exact⟨I+1,by go_num,by omega,HNX.out HX.out,u9⟩
    case measure=>simp[intOf];omega
   ·have HE:Hid ((infF nk lg f).all (xT d)=false):=Lib.hid (HNO.out (by rw[HST.out,decide_eq_true hd1,decide_eq_true k1];rfl))
    clear HNX HNO HST hd1 k1;go_wp2_with fail;refine qF HUR.out (by kernel_rfl) (by kernel_rfl) ?_
    repeat (go_big_quiet_step (first
      | (go_at_call 183;exact Calls.upw ((HC.out _).mono fun _ _ h=>⟨h.1,h.2▸(by assumption:Upw W).h⟩))
      | (go_at_call 81;exact Calls.upw (CI.out _ (by assumption:Upw W).h))))
    refine wpQuiet_nil ?_;rintro _ ⟨⟨w9,u9⟩,rfl⟩;go_wp2_with fail
    go_ret
    exact qZ HE.out u9
   ·have HE:Hid ((infF nk lg f).all (xT d)=false):=Lib.hid (HNO.out (by rw[HST.out,decide_eq_true hd1,decide_eq_true k1,Bool.or_true];rfl))
    clear HNX HNO HST hd1 k1;go_wp2_with fail;refine qF HUR.out (by kernel_rfl) (by kernel_rfl) ?_
    repeat (go_big_quiet_step (first
      | (go_at_call 183;exact Calls.upw ((HC.out _).mono fun _ _ h=>⟨h.1,h.2▸(by assumption:Upw W).h⟩))
      | (go_at_call 81;exact Calls.upw (CI.out _ (by assumption:Upw W).h))))
    refine wpQuiet_nil ?_;rintro _ ⟨⟨w9,u9⟩,rfl⟩;go_wp2_with fail
    go_ret
    exact qZ HE.out u9
   ·have HX:Hid (xT d (infT nk lg t)=true):=Lib.hid (by rw[HST.out,decide_eq_true hd1,decide_eq_false k4,decide_eq_false k5];rfl)
    clear HNO HST hd1 k4 k5;go_wp2_with fail;refine qF HUR.out (by kernel_rfl) (by kernel_rfl) ?_
    repeat (go_big_quiet_step (first
      | (go_at_call 183;exact Calls.upw ((HC.out _).mono fun _ _ h=>⟨h.1,h.2▸(by assumption:Upw W).h⟩))
      | (go_at_call 81;exact Calls.upw (CI.out _ (by assumption:Upw W).h))))
    refine wpQuiet_nil ?_;rintro _ ⟨⟨w9,u9⟩,rfl⟩;go_wp2_with fail
    go_roundw
    case rel=>exact⟨I+1,by go_num,by omega,HNX.out HX.out,u9⟩
    case measure=>simp[intOf];omega
  ·have hiz:¬(I:Int)<(N:Int):=by omega
   have HE:Hid ((infF nk lg f).all (xT d)=true):=Lib.hid (zW6 fun i j hij=>HALL.out i j (by
    have:=(List.getElem?_eq_some_iff.1 hij).1;rw[jR,HN.out] at this
    omega) hij)
   go_wp2_with fail
   go_ret
   exact qZ HE.out HUR.out
theorem zRv {nk lg:ByteArray→Bool} {W:World} {f:Fr} {A:Option Addr} {i N:Nat} (hN:f.len=N) (hi:i<N) (hk:0<N→∃kb ko,A=some ⟨kb,ko,none⟩∧kb<W.heap.size∧InF W (fun q=>q<W.heap.size) f kb ko) :
  ∃kb ko t q p,A=some ⟨kb,ko,none⟩∧f.get i=some t∧W.cell? ⟨kb,ko+i,none⟩=some (.pointer (some ⟨q,p,none⟩))∧W.cell? ⟨q,p,none⟩=some (.int .i64 t.1.k)∧W.cell? ⟨q,p+2,none⟩=some (.string t.1.a)∧
   HasT W (.pointer (some ⟨q,p,none⟩)) (some t)∧(infF nk lg f)[i]? = some (infT nk lg t)∧szT t≤f.sz:=by
 obtain⟨t,ht⟩:=Fr.get_some (f:=f) (i:=i) (by rw[hN];exact hi);obtain⟨kb,ko,rfl,hkb,hin⟩:=hk (by omega);obtain⟨u,hcell,hu⟩:=hin.at ht;obtain⟨q,p,A',c',rfl,-,c0,-,c2,-⟩:=InT.open (x:=t.1) (ks:=t.2) hu;exact⟨kb,ko,t,q,p,rfl,ht,hcell,c0,c2,hu,by rw[nD,ht];rfl,Fr.get_sz ht⟩
theorem yWt {nk lg:ByteArray→Bool} {n:Nat} (ih:IsAt nk lg n) (r:List UInt8) (f:Fr) (hf:f.sz≤n) (hs:okS f) (hn:n≤1000000) (W w:World) (v:Value) (hv:HasK W v f) (hu:Up W w) :
  Calls Tryz.prog 145 #[v,.string (byt (65::r))] w (BoP (seqOk (infF nk lg f) (65::r)) W):=by
 obtain⟨T,hT,t1,t2,t3,t4,t5,t6,-⟩:=pP 65 r;rw[hT];have h42:(((T[0]'t3).toNat:Int)==42)=false:=by rw[t5 t3];rfl
 have h67:(((T[0]'t3).toNat:Int)==67)=false:=by rw[t5 t3];rfl
 have h65:(((T[0]'t3).toNat:Int)==65)=true:=by rw[t5 t3];rfl
 obtain⟨A,cp,rfl,hc,hk⟩:=id hv;have hlen:=Fr.len_le f;obtain⟨N,hN⟩:∃N,f.len=N:=⟨_,rfl⟩;rw[hN] at hc hlen hk ⊢;have hN6:N≤1000000:=by omega
 have hll:(infF nk lg f).length=N:=by rw[jR,hN]
 have HLL:=Lib.hid hll;have HK:=Lib.hid hk;have HI:=Lib.hid ih;have HN:=Lib.hid hN;have HF:=Lib.hid hf;have HS:=Lib.hid hs;have HU:=Lib.hid hu;clear hv hk ih hN hf hs hu t2 t4 t5 t6 hT hll
 go_enter Tryz.func145,Tryz.ntmps145
 go_wp2_with fail
 go_loopw [6,7] (fun i _ wr=>∃I:Nat,i = .int .i64 I∧I≤N∧(∀(j:Nat) x,j<I→(infF nk lg f)[j]? = some x→x.is 9=true)∧Up W wr) (fun i _ _=>N-(intOf i).toNat)
 case atStart=>exact⟨0,rfl,Nat.zero_le _,fun j x hj=>absurd hj (Nat.not_lt_zero _),HU.out⟩
 case round=>
  obtain⟨I,rfl,hI,hall,hur⟩:=hrel;have HALL:=Lib.hid hall;have HUR:=Lib.hid hur;clear hall hur
  by_cases hlt:I<N
  ·have hiz:(I:Int)<(N:Int):=by omega
   obtain⟨kb,ko,t,q,p,rfl,ht,hcell,c0,c2,hT,hgx,hsz⟩:=zRv (nk:=nk) (lg:=lg) HN.out hlt HK.out;have cI:=fun W' (h:Up W W')=>HI.out t (by have:=HF.out;omega) (fC HS.out ht) 9 W W' _ hT h
   have HGX:=Lib.hid hgx;obtain⟨b,hb⟩:∃b,isT nk lg t 9=b:=⟨_,rfl⟩;have HB:Hid ((infT nk lg t).is 9=b):=Lib.hid hb;rw[hb] at cI;have CI:=Lib.hid cI;have hcr:=HUR.out.cell hcell;clear hcell c0 c2 hT cI hgx hsz hb ht
   cases b with
   | false=>
    have HE:Hid (seqOk (infF nk lg f) (65::r)=false):=Lib.hid (zG6 HGX.out HB.out);go_wp2_with fail;refine(CI.out _ HUR.out).mono ?_;rintro e w5 ⟨rfl,u5⟩;go_wp2_with fail
    go_ret
    exact qZ HE.out u5
   | true=>
    go_wp2_with fail;refine(CI.out _ HUR.out).mono ?_;rintro e w5 ⟨rfl,u5⟩;have HNX:Hid (∀(j:Nat) x,j<I+1→(infF nk lg f)[j]? = some x→x.is 9=true):=Lib.hid fun j x hj hx=>by
     by_cases e:j=I
     ·subst e
      rw[HGX.out] at hx;injection hx with hx;rw[←hx];exact HB.out
     ·exact HALL.out j x (by omega) hx
    have U5:=Lib.hid u5;clear u5;go_wp2_with fail
    go_loopw [7] (fun k wb=>k = .int .i64 0∧wb=w5) (fun _ _=>0)
    case atStart=>exact⟨rfl,rfl⟩
    case round=>
     obtain⟨rfl,rfl⟩:=hrel
     by_cases h0:I=0
     ·have hz:¬(0:Int)<(I:Int):=by omega
      go_wp2_with fail
      go_roundw
      case rel=>exact⟨I+1,by go_num,by omega,HNX.out,U5.out⟩
      case measure=>simp[intOf];omega
     ·have hz:(0:Int)<(I:Int):=by omega
      go_wp2_with fail
      go_roundw
      case rel=>exact⟨I+1,by go_num,by omega,HNX.out,U5.out⟩
      case measure=>simp[intOf];omega
  ·have hiz:¬(I:Int)<(N:Int):=by omega
   have HE:Hid (seqOk (infF nk lg f) (65::r)=decide (0<N)):=Lib.hid (by
    rw[zL3 fun i j hij=>HALL.out i j (by
     have:=(List.getElem?_eq_some_iff.1 hij).1;rw[HLL.out] at this
     omega) hij,HLL.out])
   go_wp2_with fail
   go_ret
   exact qZ HE.out HUR.out
theorem yWu {nk lg:ByteArray→Bool} {n:Nat} (ih:IsAt nk lg n) (r:List UInt8) (f:Fr) (hf:f.sz≤n) (hs:okS f) (hn:n≤1000000) (W w:World) (v:Value) (hv:HasK W v f) (hu:Up W w) :
  Calls Tryz.prog 145 #[v,.string (byt (67::r))] w (BoP (seqOk (infF nk lg f) (67::r)) W):=by
 obtain⟨T,hT,t1,t2,t3,t4,t5,t6,-⟩:=pP 67 r;rw[hT];have h42:(((T[0]'t3).toNat:Int)==42)=false:=by rw[t5 t3];rfl
 have h67:(((T[0]'t3).toNat:Int)==67)=true:=by rw[t5 t3];rfl
 have h65:(((T[0]'t3).toNat:Int)==65)=false:=by rw[t5 t3];rfl
 obtain⟨A,cp,rfl,hc,hk⟩:=id hv;have hlen:=Fr.len_le f;obtain⟨N,hN⟩:∃N,f.len=N:=⟨_,rfl⟩;rw[hN] at hc hlen hk ⊢;have hN6:N≤1000000:=by omega
 have hll:(infF nk lg f).length=N:=by rw[jR,hN]
 have HLL:=Lib.hid hll;have HK:=Lib.hid hk;have HI:=Lib.hid ih;have HN:=Lib.hid hN;have HF:=Lib.hid hf;have HS:=Lib.hid hs;have HU:=Lib.hid hu;clear hv hk ih hN hf hs hu t2 t4 t5 t6 hT hll
 go_enter Tryz.func145,Tryz.ntmps145
 go_wp2_with fail
 go_loopw [6,7] (fun i _ wr=>∃I:Nat,i = .int .i64 I∧I≤N∧(∀(j:Nat) x,j<I→(infF nk lg f)[j]? = some x→x.is 8=true∧∀(k:Nat) a,k<j→(infF nk lg f)[k]? = some a→a.a≠x.a)∧Up W wr) (fun i _ _=>N-(intOf i).toNat)
 case atStart=>exact⟨0,rfl,Nat.zero_le _,fun j x hj=>absurd hj (Nat.not_lt_zero _),HU.out⟩
 case round=>
  obtain⟨I,rfl,hI,hall,hur⟩:=hrel;have HALL:=Lib.hid hall;have HUR:=Lib.hid hur;clear hall hur
  by_cases hlt:I<N
  ·have hiz:(I:Int)<(N:Int):=by omega
   obtain⟨kb,ko,t,q,p,rfl,ht,hcell,c0,c2,hT,hgx,hsz⟩:=zRv (nk:=nk) (lg:=lg) HN.out hlt HK.out;have cI:=fun W' (h:Up W W')=>HI.out t (by have:=HF.out;omega) (fC HS.out ht) 8 W W' _ hT h
   have HGX:=Lib.hid hgx;obtain⟨b,hb⟩:∃b,isT nk lg t 8=b:=⟨_,rfl⟩;have HB:Hid ((infT nk lg t).is 8=b):=Lib.hid hb;rw[hb] at cI;have CI:=Lib.hid cI;have hcr:=HUR.out.cell hcell;have HCELL:=Lib.hid hcell;have HC2:=Lib.hid c2;clear hcell c0 c2 hT cI hgx hsz hb ht
   cases b with
   | false=>
    have HE:Hid (seqOk (infF nk lg f) (67::r)=false):=Lib.hid (zL0 HGX.out HB.out);go_wp2_with fail;refine(CI.out _ HUR.out).mono ?_;rintro e w5 ⟨rfl,u5⟩;go_wp2_with fail
    go_ret
    exact qZ HE.out u5
   | true=>
    go_wp2_with fail;refine(CI.out _ HUR.out).mono ?_;rintro e w5 ⟨rfl,u5⟩;have U5:=Lib.hid u5;clear u5;go_wp2_with fail
    go_loopw [7] (fun k wb=>∃K:Nat,k = .int .i64 K∧K≤I∧(∀(j:Nat) x,j<K→(infF nk lg f)[j]? = some x→x.a≠t.1.a)∧Up W wb) (fun k _=>I-(intOf k).toNat)
    case atStart=>exact⟨0,rfl,Nat.zero_le _,fun j x hj=>absurd hj (Nat.not_lt_zero _),U5.out⟩
    case round=>
     obtain⟨K,rfl,hK,hdis,hub⟩:=hrel;have HDIS:=Lib.hid hdis;have HUB:=Lib.hid hub;clear hdis hub
     by_cases hKI:K<I
     ·have hkz:(K:Int)<(I:Int):=by omega
      have hkn:(K:Int)<(N:Int):=by omega
      obtain⟨kb',ko',t',q',p',hA,ht',hcell',c0',c2',-,hgx',-⟩:=zRv (nk:=nk) (lg:=lg) HN.out (show K<N by omega) HK.out;injection hA with hA;injection hA with hA1 hA2;subst hA1 hA2;have HGX':=Lib.hid hgx';have hcu:∀u:Upw W,u.w.cell? ⟨kb,ko+I,none⟩=some (.pointer (some ⟨q,p,none⟩)):=fun u=>u.cell HCELL.out
      have c2u:∀u:Upw W,u.w.cell? ⟨q,p+2,none⟩=some (.string t.1.a):=fun u=>u.cell HC2.out
      have hcu':∀u:Upw W,u.w.cell? ⟨kb,ko+K,none⟩=some (.pointer (some ⟨q',p',none⟩)):=fun u=>u.cell hcell'
      have c2u':∀u:Upw W,u.w.cell? ⟨q',p'+2,none⟩=some (.string t'.1.a):=fun u=>u.cell c2'
      clear hcell' c0' c2' ht' hgx'
      by_cases hna:t'.1.a=t.1.a
      ·obtain⟨e1,f1⟩:=sN hna
       have HE:Hid (seqOk (infF nk lg f) (67::r)=false):=Lib.hid (zL1 hKI HGX'.out HGX.out hna);clear hna;go_wp2_with fail;refine qF HUB.out (by kernel_rfl) (by kernel_rfl) ?_
       repeat (go_big_quiet_step (fail))
       refine wpQuiet_nil ?_;rintro _ ⟨⟨w9,u9⟩,rfl⟩;go_wp2_with fail
       go_ret
       exact qZ HE.out u9
      ·obtain⟨e1,f1⟩:=iZ hna
       have HNX:Hid (∀(j:Nat) x,j<K+1→(infF nk lg f)[j]? = some x→x.a≠t.1.a):=Lib.hid fun j x hj hx=>by
        by_cases e:j=K
        ·subst e
         rw[HGX'.out] at hx;injection hx with hx;rw[←hx];exact hna
        ·exact HDIS.out j x (by omega) hx
       clear hna;go_wp2_with fail;refine qF HUB.out (by kernel_rfl) (by kernel_rfl) ?_
       repeat (go_big_quiet_step (fail))
       refine wpQuiet_nil ?_;rintro _ ⟨⟨w9,u9⟩,rfl⟩;go_wp2_with fail
       go_roundw
       case rel=>exact⟨K+1,by go_num,by omega,HNX.out,u9⟩
       case measure=>simp[intOf];omega
     ·have hkz:¬(K:Int)<(I:Int):=by omega
      have HNX:Hid (∀(j:Nat) x,j<I+1→(infF nk lg f)[j]? = some x→x.is 8=true∧∀(k:Nat) a,k<j→(infF nk lg f)[k]? = some a→a.a≠x.a):=Lib.hid fun j x hj hx=>by
       by_cases e:j=I
       ·subst e
        rw[HGX.out] at hx;injection hx with hx;rw[←hx];exact⟨HB.out,fun k a hk ha=>HDIS.out k a (by omega) ha⟩
       ·exact HALL.out j x (by omega) hx
      go_wp2_with fail
      go_roundw
      case rel=>exact⟨I+1,by go_num,by omega,HNX.out,HUB.out⟩
      case measure=>simp[intOf];omega
  ·have hiz:¬(I:Int)<(N:Int):=by omega
   have HE:Hid (seqOk (infF nk lg f) (67::r)=decide (0<N)):=Lib.hid (by
    rw[zL2 fun i j hij=>HALL.out i j (by
     have:=(List.getElem?_eq_some_iff.1 hij).1;rw[HLL.out] at this
     omega) hij,HLL.out])
   go_wp2_with fail
   go_ret
   exact qZ HE.out HUR.out
theorem zGc {nk lg:ByteArray→Bool} (f:Fr) (W w:World) (v:Value) (hv:HasK W v f) (hu:Up W w) :
  Calls Tryz.prog 145 #[v,.string (byt [])] w (BoP (seqOk (infF nk lg f) []) W):=by
 have t1:(byt []).toList.isEmpty=true:=by rw[Lib.toList_data];rfl
 have t2:((byt []).toList==[])=true:=by rw[Lib.toList_data];rfl
 obtain⟨A,cp,rfl,hc,-⟩:=hv;have hls:seqOk (infF nk lg f) []=((f.len:Int)==0):=by
  unfold seqOk;rw[←jR (nk:=nk) (lg:=lg)]
  cases infF nk lg f with
  | nil=>rfl
  | cons x l=>
   show false=_
   symm
   rw[beq_eq_false_iff_ne]
   simp
   omega
 have HLS:=Lib.hid hls;clear hls
 go_enter Tryz.func145,Tryz.ntmps145
 go_wp2_with fail
 go_ret
 exact qZ HLS.out hu
theorem HasK.tail {W:World} {x:Nod} {k r:Fr} {cp:Nat} {kb ko:Nat} (h:HasK W (.slice (some ⟨kb,ko,none⟩) (Fr.cons x k r).len cp) (.cons x k r)) :
  HasK W (.slice (if cp=1 then some ⟨kb,ko,none⟩ else some ⟨kb,ko+1,none⟩) r.len (cp-1)) r:=by
 obtain⟨A,c,hv,hc,hk⟩:=h;injection hv with h1 h2 h3;subst h3;refine⟨_,_,rfl,by simp only[Fr.len] at hc;omega,fun h0=>?_⟩;obtain⟨kb',ko',hA,hkb,hin⟩:=hk (by simp only[Fr.len];omega);rw[hA] at h1;injection h1 with h1;injection h1 with h1 h4;subst h1 h4;refine⟨kb,ko+1,?_,hkb,hin.2⟩;rw[if_neg (by simp only[Fr.len] at hc;omega)]
theorem zL6 {nk lg:ByteArray→Bool} {n:Nat} (ih:IsAt nk lg n) (c:UInt8) (r:List UInt8) (g1:c≠42) (g2:c≠67) (g3:c≠65) (f:Fr) (hf:f.sz≤n) (hs:okS f) (hn:n≤1000000) (W:World) (v:Value) (hv:HasK W v f)
  (hr:∀(f':Fr) (v':Value) (w':World),f'.sz≤n→okS f'→HasK W v' f'→Up W w'→Calls Tryz.prog 145 #[v',.string (byt r)] w' (BoP (seqOk (infF nk lg f') r) W)) (w:World) (hu:Up W w) :
  Calls Tryz.prog 145 #[v,.string (byt (c::r))] w (BoP (seqOk (infF nk lg f) (c::r)) W):=by
 obtain⟨T,hT,t1,t2,t3,t4,t5,t6,t7⟩:=pP c r;rw[hT];have h42:((c.toNat:Int)==42)=false:=zUr (d:=42) g1;have h67:((c.toNat:Int)==67)=false:=zUr (d:=67) g2;have h65:((c.toNat:Int)==65)=false:=zUr (d:=65) g3;have hc0:T[0]'t3=c:=t5 t3;have hcat:=fun W=>zOi c W
 have hsg:=zG7 (l:=infF nk lg f) (r:=r) g1 g2 g3;have HC:=Lib.hid hcat;have HI:=Lib.hid ih;have HU:=Lib.hid hu;have HR:=Lib.hid hr;have HSG:=Lib.hid hsg;have t1z:(1:Int)≤(T.size:Int):=by omega
 clear hcat ih hu hr hsg t2 t4 t5 t6 hT g1 g2 g3
 cases f with
 | nil=>
  obtain⟨A,cp,rfl,hc,-⟩:=hv;have HE:Hid (seqOk (infF nk lg .nil) (c::r)=false):=Lib.hid (by rw[HSG.out];rfl);have hl0:(Fr.nil).len=0:=rfl;rw[hl0];clear HSG
  go_enter Tryz.func145,Tryz.ntmps145
  go_wp2_with fail;refine qF HU.out (by kernel_rfl) (by kernel_rfl) ?_
  repeat (go_big_quiet_step (fail))
  refine wpQuiet_nil ?_;rintro _ ⟨⟨w9,u9⟩,rfl⟩;go_wp2_with fail
  go_ret
  exact qZ HE.out u9
 | cons x k rs=>
  obtain⟨A,cp,rfl,hc,hk⟩:=id hv;obtain⟨kb,ko,rfl,hkb,⟨u,hcell,hu⟩,hin⟩:=hk (Nat.succ_pos _);have htl:=HasK.tail hv;have hu:InT W (fun q=>q<W.heap.size) u (x,k):=hu;obtain⟨q,p,rfl⟩:=hu.ptr;have hT:HasT W (.pointer (some ⟨q,p,none⟩)) (some (x,k)):=hu;have hsz:(Fr.cons x k rs).sz=1+k.sz+rs.sz:=rfl;have hsz2:szT (x,k)=1+k.sz:=rfl;have cI:=fun W' (h:Up W W')=>HI.out (x,k) (by omega) ⟨hs.1,hs.2.1,hs.2.2.1⟩ (catOf c) W W' _ hT h
  have cR:=fun W' (h:Up W W')=>HR.out rs _ W' (by omega) hs.2.2.2 htl h
  obtain⟨b,hb⟩:∃b,isT nk lg (x,k) (catOf c)=b:=⟨_,rfl⟩;have HSQ:Hid (seqOk (infF nk lg (.cons x k rs)) (c::r)=(b&&seqOk (infF nk lg rs) r)):=Lib.hid (by rw[HSG.out,←hb];rfl);rw[hb] at cI;obtain⟨M,hM⟩:∃M,rs.len=M:=⟨_,rfl⟩;have hl:(Fr.cons x k rs).len=M+1:=by show rs.len+1=_;rw[hM]
  rw[hl] at hc ⊢;rw[hM] at cR;obtain⟨D,hD⟩:∃D,seqOk (infF nk lg rs) r=D:=⟨_,rfl⟩;rw[hD] at cR HSQ;have CI:=Lib.hid cI;have CR:=Lib.hid cR;have hll:=Fr.len_le (Fr.cons x k rs);have hM6:M≤1000000:=by omega
  have hcu:∀u:Upw W,u.w.cell? ⟨kb,ko,none⟩=some (.pointer (some ⟨q,p,none⟩)):=fun u=>u.cell hcell
  have hm0:(0:Int)<((M+1:Nat):Int):=by omega
  have hm1:(1:Int)≤((M+1:Nat):Int):=by omega
  have hm2:((M+1:Nat):Int)≤(cp:Int):=by omega
  clear hcell hin hu hT cI cR hb hsz hsz2 htl hk hv HSG hs hf hl hll hD hM
  cases b with
  | false=>
   go_enter Tryz.func145,Tryz.ntmps145
   go_wp2_with fail;refine qF HU.out (by kernel_rfl) (by kernel_rfl) ?_
   repeat (go_big_quiet_step (first
      | (go_at_call 183;exact Calls.upw ((HC.out _).mono fun _ _ h=>⟨h.1,h.2▸(by assumption:Upw W).h⟩))
      | (go_at_call 81;exact Calls.upw (CI.out _ (by assumption:Upw W).h))))
   refine wpQuiet_nil ?_;rintro _ ⟨⟨w9,u9⟩,rfl⟩;go_wp2_with fail
   go_ret
   exact qZ HSQ.out u9
  | true=>
   by_cases h1:cp=1
   ·subst h1
    obtain rfl:M=0:=by omega
    rw[if_pos rfl] at CR
    go_enter Tryz.func145,Tryz.ntmps145
    go_wp2_with fail;refine qF HU.out (by kernel_rfl) (by kernel_rfl) ?_
    repeat (go_big_quiet_step (first
      | (go_at_call 183;exact Calls.upw ((HC.out _).mono fun _ _ h=>⟨h.1,h.2▸(by assumption:Upw W).h⟩))
      | (go_at_call 81;exact Calls.upw (CI.out _ (by assumption:Upw W).h))
      | (go_at_call 145;exact Calls.upw (CR.out _ (by assumption:Upw W).h))))
    refine wpQuiet_nil ?_;rintro _ ⟨⟨w9,u9⟩,rfl⟩;go_wp2_with fail
    go_ret
    exact qZ HSQ.out u9
   ·rw[if_neg h1] at CR
    go_enter Tryz.func145,Tryz.ntmps145
    go_wp2_with fail;refine qF HU.out (by kernel_rfl) (by kernel_rfl) ?_
    repeat (go_big_quiet_step (first
      | (go_at_call 183;exact Calls.upw ((HC.out _).mono fun _ _ h=>⟨h.1,h.2▸(by assumption:Upw W).h⟩))
      | (go_at_call 81;exact Calls.upw (CI.out _ (by assumption:Upw W).h))
      | (go_at_call 145;exact Calls.upw (CR.out _ (by assumption:Upw W).h))))
    refine wpQuiet_nil ?_;rintro _ ⟨⟨w9,u9⟩,rfl⟩;go_wp2_with fail
    go_ret
    exact qZ HSQ.out u9
theorem zUt {nk lg:ByteArray→Bool} {n:Nat} (ih:IsAt nk lg n) (hn:n≤1000000) (W:World):∀(l:List UInt8),goodW l=true→∀(f:Fr) (v:Value) (w:World),f.sz≤n→okS f→HasK W v f→Up W w→
  Calls Tryz.prog 145 #[v,.string (byt l)] w (BoP (seqOk (infF nk lg f) l) W)
 | [],_,f,v,w,_,_,hv,hu=>zGc f W w v hv hu
 | c::r,hg,f,v,w,hf,hs,hv,hu=>by
  unfold goodW at hg
  by_cases g1:c=42
  ·subst g1
   cases r with
   | nil=>simp at hg
   | cons d r=>exact zL5 ih d r f hf hs hn W w v hv hu
  ·by_cases g2:c=67
   ·subst g2
    exact yWu ih r f hf hs hn W w v hv hu
   ·by_cases g3:c=65
    ·subst g3
     exact yWt ih r f hf hs hn W w v hv hu
    ·rw[if_neg g1,if_neg g2,if_neg g3] at hg
     exact zL6 ih c r g1 g2 g3 f hf hs hn W v hv (fun f' v' w' h1 h2 h3 h4=>zUt ih hn W r hg f' v' w' h1 h2 h3 h4) w hu
end Go.Proofs.YtbpijnalmakfaaaGreatDoor
