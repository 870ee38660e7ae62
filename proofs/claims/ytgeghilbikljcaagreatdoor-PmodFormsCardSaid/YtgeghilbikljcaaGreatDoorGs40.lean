/-
  Plain definitions, without the program: trees as forests; their size, depth, cells, paths; what stands at a path, and what is put there; what a list of cells is the tree of.
-/
import Derived.Test.YtgeghilbikljcaaGreatDoorGs07
import Derived.Test.YtgeghilbikljcaaGreatDoorGs12
set_option maxHeartbeats 40000000
set_option maxRecDepth 100000
namespace Go.Proofs.YtgeghilbikljcaaGreatDoor
def celF:Fr->Nat->List Cel×List Int
 | .nil,_=>([],[])
 | .cons x k r,f=>
  let p:=celF k f
  let q:=celF r (f+p.1.length+1)
  (p.1++⟨x,p.2⟩::q.1,((f+p.1.length:Nat):Int)::q.2)
def celT (t:Tr) (f:Nat):List Cel:=(celF t.2 f).1++[⟨t.1,(celF t.2 f).2⟩]
theorem pR (t:Fr):∀f,(celF t f).1.length=t.sz/\(celF t f).2.length=t.len:=by
 induction t with
 | nil=>intro f;exact⟨rfl,rfl⟩
 | cons x k r ihk ihr=>
  intro f;simp only[celF,List.length_append,List.length_cons,Fr.sz,Fr.len];have h1:=ihk f;have h2:=ihr (f+(celF k f).1.length+1);omega
theorem zJ1 (a b:Fr) (f:Nat):celF (a.app b) f=((celF a f).1++(celF b (f+a.sz)).1,(celF a f).2++(celF b (f+a.sz)).2):=by
 induction a generalizing f with
 | nil=>simp[celF,Fr.app,Fr.sz]
 | cons x k r _ ih=>
  simp only[Fr.app,celF,ih,Fr.sz,(pR k f).1];have e:f+k.sz+1+r.sz=f+(1+k.sz+r.sz):=by omega
  rw[e]
  simp
end Go.Proofs.YtgeghilbikljcaaGreatDoor
namespace Go.Proofs.YtgeghilbikljcaaGreatDoor
open Go.RowKit
theorem InO.drew {w:World} {S:Nat->Prop} {v:Value} {t:Option Tr} (h:InO w S v t) (q:Nat):InO (w.drewN q) S v t:=h.keep (fun _ h=>h) fun _ _=>rfl
theorem Kid.drew {w:World} {S:Nat->Prop} {A:Option Addr} {r:Fr} {i:Nat} (h:Kid w S A r i) (q:Nat):Kid (w.drewN q) S A r i:=h.keep (fun _ h=>h) fun _ _=>rfl
def Sp (w:World) (B:Nat) (v:Value) (l:List Int):Prop:=
 ∃A c,v = .slice A l.length c/\l.length<=c/\∀(j:Nat) (u:Int),l[j]? = some u->∃b o,A=some ⟨b,o,none⟩/\b<B/\w.cell? ⟨b,o+j,none⟩=some (.int .i64 u)
theorem Sp.keep {w w':World} {B B':Nat} {v:Value} {l:List Int} (h:Sp w B v l) (hB:B<=B') (hk:∀p:Addr,p.block<B->w'.cell? p=w.cell? p):Sp w' B' v l:=by
 obtain⟨A,c,hv,hlc,hc⟩:=h;refine⟨A,c,hv,hlc,fun j u hu=>?_⟩;obtain⟨b,o,hA,hlt,hcell⟩:=hc j u hu;exact⟨b,o,hA,by omega,(hk _ hlt).trans hcell⟩
def CelAt (w:World) (B b o:Nat) (c:Cel):Prop:=
 w.cell? ⟨b,o,none⟩=some (.int .i64 c.x.k)/\w.cell? ⟨b,o+1,none⟩=some (.int .i64 c.x.n)/\w.cell? ⟨b,o+2,none⟩=some (.string c.x.a)/\w.cell? ⟨b,o+3,none⟩=some (.string c.x.m)/\
  ∃kv,w.cell? ⟨b,o+4,none⟩=some kv/\Sp w B kv c.ks
def Cls (w:World) (B:Nat) (v:Value) (cs:List Cel):Prop:=
 ∃A c,v = .slice A cs.length c/\cs.length<=c/\∀(j:Nat) (u:Cel),cs[j]? = some u->∃b o,A=some ⟨b,o,none⟩/\b<B/\CelAt w B b (o+j*5) u
theorem CelAt.keep {w w':World} {B B' b o:Nat} {c:Cel} (h:CelAt w B b o c) (hb:b<B) (hB:B<=B') (hk:∀p:Addr,p.block<B->w'.cell? p=w.cell? p):CelAt w' B' b o c:=by
 obtain⟨h0,h1,h2,h3,kv,h4,h5⟩:=h;exact⟨(hk _ hb).trans h0,(hk _ hb).trans h1,(hk _ hb).trans h2,(hk _ hb).trans h3,kv,(hk _ hb).trans h4,h5.keep hB hk⟩
theorem Cls.keep {w w':World} {B B':Nat} {v:Value} {cs:List Cel} (h:Cls w B v cs) (hB:B<=B') (hk:∀p:Addr,p.block<B->w'.cell? p=w.cell? p):Cls w' B' v cs:=by
 obtain⟨A,c,hv,hc,hcl⟩:=h;refine⟨A,c,hv,hc,fun j u hu=>?_⟩;obtain⟨b,o,hA,hb,h1⟩:=hcl j u hu;exact⟨b,o,hA,by omega,h1.keep hb hB hk⟩
end Go.Proofs.YtgeghilbikljcaaGreatDoor
namespace Go.Proofs.YtgeghilbikljcaaGreatDoor
def chk (nk lg:ByteArray->Bool) (o:Option Tr) (c:Int):Int:=match o with
 | none=>1
 | some t=>if 8192<szT t then 3 else if 60<dpT t then 7 else if isT nk lg t c then 0 else 16
section
variable {nk lg:ByteArray->Bool}
theorem bZ (f:Fr) (i:Nat):(infF nk lg f)[i]? = (f.get i).map (infT nk lg):=by
 induction f generalizing i with
 | nil=>rfl
 | cons x k r _ ih=>
  cases i with
  | zero=>rfl
  | succ i=>exact ih i
end
section
variable {nk lg:ByteArray->Bool}
def zJ2 (w:List UInt8):Bool:=w.all fun c=>decide (c≠42)&&decide (c≠67)&&decide (c≠65)
end
def okS:Fr->Prop
 | .nil=>True
 | .cons x k r=>x.a.size<=1000000000/\x.m.size<=1000000000/\okS k/\okS r
def okST (t:Tr):Prop:=t.1.a.size<=1000000000/\t.1.m.size<=1000000000/\okS t.2
theorem uV:∀{f:Fr} {i:Nat} {t:Tr},okS f->f.get i=some t->okST t
 | .nil,_,_,_,h=>by cases h
 | .cons x k r,0,t,h,hg=>by injection hg with hg;subst hg;exact⟨h.1,h.2.1,h.2.2.1⟩
 | .cons x k r,i+1,t,h,hg=>uV h.2.2.2 hg
end Go.Proofs.YtgeghilbikljcaaGreatDoor
namespace Go.Proofs.YtgeghilbikljcaaGreatDoor
open Go.RowKit
section
variable {nk lg:ByteArray->Bool}
def hdB (nk lg:ByteArray->Bool) (x:Nod) (nm mr:List UInt8) (fr upto:Int):Bool:=wordR nk lg x.a nm&&wordR nk lg x.m mr&&decide (fr<=x.n)&&decide (x.n<=upto)
def cJ (c k:Int):List Rw:=RWS.filter fun r=>decide (r.cat=c)&&decide (r.kind=k)
theorem zVh (x:Nod) (l:List Inf) (c:Int):isX nk lg x l c=(cJ c x.k).any fun r=>hdB nk lg x r.nm r.mr r.fr r.toF&&seqOk l r.ks:=by
 unfold isX cJ;rw[List.any_filter]
 congr 1
 funext r
 unfold fitR hdB
 cases decide (r.cat=c)<;>cases decide (r.kind=x.k)<;>cases wordR nk lg x.a r.nm<;>cases wordR nk lg x.m r.mr<;>cases decide (r.fr<=x.n)<;>cases decide (x.n<=r.toF)<;>rfl
theorem qL {x:Nod} {l:List Inf} {c k:Int} {nm mr ks:List UInt8} {fr upto:Int} (hk:x.k=k) (h:cJ c k=[⟨c,k,nm,mr,fr,upto,ks⟩]):isX nk lg x l c=(hdB nk lg x nm mr fr upto&&seqOk l ks):=by
 rw[zVh,hk,h];simp only[List.any_cons,List.any_nil,Bool.or_false]
theorem zTz {x:Nod} {l:List Inf} {c k:Int} {nm mr ks ks':List UInt8} {fr upto:Int} (hk:x.k=k) (h:cJ c k=[⟨c,k,nm,mr,fr,upto,ks⟩,⟨c,k,nm,mr,fr,upto,ks'⟩]):isX nk lg x l c=(hdB nk lg x nm mr fr upto&&(seqOk l ks||seqOk l ks')):=by
 rw[zVh,hk,h];simp only[List.any_cons,List.any_nil,Bool.or_false]
 cases hdB nk lg x nm mr fr upto<;>rfl
theorem jZ {x:Nod} {l:List Inf} {c:Int} (h:∀r∈RWS,r.cat=c->r.kind≠x.k):isX nk lg x l c=false:=by
 rw[zVh];unfold cJ;rw[List.any_eq_false];intro r hr;rw[List.mem_filter] at hr;simp only[Bool.and_eq_true,decide_eq_true_eq] at hr;exact absurd hr.2.2 (h r hr.1 hr.2.1)
def texB (x:Nod) (A M:ByteArray->Bool):Bool:=decide (x.n=0)&&A x.a&&M x.m
theorem yP (x:Nod) (fr upto:Int):hdB nk lg x [] [] fr upto=numB x fr upto:=by
 unfold hdB numB wordR;simp only[List.nil_eq,reduceCtorEq,if_false]
 cases isEmp x.a<;>cases isEmp x.m<;>cases decide (fr<=x.n)<;>cases decide (x.n<=upto)<;>rfl
theorem zQn (n:Int):(decide (0<=n)&&decide (n<=0))=decide (n=0):=by
 by_cases h:n=0
 ·subst h;rfl
 ·rw[decide_eq_false h]
  by_cases h1:0<=n
  ·rw[decide_eq_false (by omega:¬n<=0),Bool.and_false]
  ·rw[decide_eq_false h1];rfl
theorem yE {x:Nod} {nm mr:List UInt8} {A M:ByteArray->Bool} (ha:∀s,wordR nk lg s nm=A s) (hm:∀s,wordR nk lg s mr=M s):hdB nk lg x nm mr 0 0=texB x A M:=by
 unfold hdB texB;rw[ha,hm,<- zQn]
 cases A x.a<;>cases M x.m<;>cases decide (0<=x.n)<;>cases decide (x.n<=0)<;>rfl
end
theorem zN (x:Nod) (f:Fr) (w:World) (v:Value) (hv:HasT w v (some (x,f))) :
  Calls Tryz.prog 60 #[v] w (TelB (numB x 0 0) w):=by
 have cN:=jM x f 0 0 w v hv;obtain⟨b,hb⟩:∃b,numB x 0 0=b:=⟨_,rfl⟩;rw[hb] at cN ⊢;clear hb hv
 go_enter Tryz.func60,Tryz.ntmps60
 go_wp2_with fail;refine cN.mono ?_;rintro e w1 ⟨rfl,u1⟩;go_wp2_with fail
 go_ret
 exact qD rfl u1
theorem iD (s:ByteArray) (w:World):Calls Tryz.prog 146 #[.string s] w (TelB (isEmp s) w):=by
 have e1:=zWh s;obtain⟨b,hb⟩:∃b,isEmp s=b:=⟨_,rfl⟩;rw[hb] at e1 ⊢
 go_enter Tryz.func146,Tryz.ntmps146
 go_wp2_with fail
 go_ret
 exact qD rfl (Up.refl _)
def Ent (k:FuncId):Prop:=∀(args:Array Value) (w:World),(callFunc k args).run Tryz.prog w = .ok (.enter k args) w
theorem tD:Ent 112:=fun _ _=>by kernel_rfl
theorem aB:Ent 77:=fun _ _=>by kernel_rfl
theorem iE:Ent 146:=fun _ _=>by kernel_rfl
theorem mC (x:Nod) (f:Fr) (kf mf:FuncId) (F M:ByteArray->Bool) (w:World) (v:Value) (hv:HasT w v (some (x,f))) (ek:Ent kf) (em:Ent mf)
  (ck:∀w',Up w w'->Calls Tryz.prog kf #[.string x.a] w' (TelB (F x.a) w')) (cm:∀w',Up w w'->Calls Tryz.prog mf #[.string x.m] w' (TelB (M x.m) w')) :
  Calls Tryz.prog 111 #[v,.func (.func kf) #[] #[],.func (.func mf) #[] #[]] w (TelB (texB x F M) w):=by
 obtain⟨q,p,A,c,rfl,hq,c0,c1,c2,c3,c4,hc,hkid⟩:=InT.open hv;have HB:Hid (texB x F M=(decide (x.n=0)&&F x.a&&M x.m)):=Lib.hid rfl;rw[HB.out];obtain⟨d1,h1⟩:∃d,decide (x.n=0)=d:=⟨_,rfl⟩;obtain⟨d2,h2⟩:∃d,F x.a=d:=⟨_,rfl⟩;obtain⟨d3,h3⟩:∃d,M x.m=d:=⟨_,rfl⟩;have c3':∀u:Upw w,u.w.cell? ⟨q,p+3,none⟩=some (.string x.m):=Upw.cell c3;rw[h1,h2,h3];rw[h2] at ck;rw[h3] at cm;clear hkid hc hq h2 h3 hv HB
 cases d1
 ·have g1:¬x.n=0:=of_decide_eq_false h1
  go_enter Tryz.func111,Tryz.ntmps111
  go_wp2_with fail
  go_ret
  exact qD rfl (Up.refl _)
 ·have g1:x.n=0:=of_decide_eq_true h1
  cases d2
  ·go_enter Tryz.func111,Tryz.ntmps111
   go_wp2_with fail;rw[ek,Oper.upon_enter];refine(ck _ (Up.refl _)).mono ?_;rintro e w1 ⟨rfl,u1⟩;go_wp2_with fail
   go_ret
   exact qD rfl u1
  ·go_enter Tryz.func111,Tryz.ntmps111
   go_wp2_with fail;rw[ek,Oper.upon_enter];refine(ck _ (Up.refl _)).mono ?_;rintro e w1 ⟨rfl,u1⟩;have c3'':=c3' ⟨w1,u1⟩;simp only at c3'';go_wp2_with fail;rw[em,Oper.upon_enter];refine(cm _ u1).mono ?_;rintro e w2 ⟨rfl,u2⟩;go_wp2_with fail
   go_ret
   exact qD (by cases d3<;>rfl) (u1.trans u2)
theorem tE {b:Bool} {w:World} {P:Program} {k:FuncId} {args:Array Value} (h:Calls P k args w (B.vR b w)):Calls P k args w (TelB b w):=h.mono fun _ _ h=>h
theorem zZ (x:Nod) (f:Fr) (w:World) (v:Value) (hv:HasT w v (some (x,f))) (ha:x.a.size<=1000000000) :
  Calls Tryz.prog 105 #[v] w (TelB (texB x B.nck isEmp) w):=by
 have cT:=mC x f 112 146 B.nck isEmp w v hv tD iE (fun w' _=>tE (B.gJ _ w' ha)) (fun w' _=>iD _ w');obtain⟨b,hb⟩:∃b,texB x B.nck isEmp=b:=⟨_,rfl⟩;rw[hb] at cT ⊢;clear hb hv
 go_enter Tryz.func105,Tryz.ntmps105
 go_wp2_with fail;refine cT.mono ?_;rintro e w1 ⟨rfl,u1⟩;go_wp2_with fail
 go_ret
 exact qD rfl u1
theorem xW (x:Nod) (f:Fr) (w:World) (v:Value) (hv:HasT w v (some (x,f))) (ha:x.a.size<=1000000000) (hx:B.Nx w) :
  Calls Tryz.prog 113 #[v] w (TelB (texB x B.long isEmp) w):=by
 have cT:=mC x f 77 146 B.long isEmp w v hv aB iE (fun w' u=>tE (B.nE _ w' ha (B.Nx.below hx u))) (fun w' _=>iD _ w');obtain⟨b,hb⟩:∃b,texB x B.long isEmp=b:=⟨_,rfl⟩;rw[hb] at cT ⊢;clear hb hv
 go_enter Tryz.func113,Tryz.ntmps113
 go_wp2_with fail;refine cT.mono ?_;rintro e w1 ⟨rfl,u1⟩;go_wp2_with fail
 go_ret
 exact qD rfl u1
theorem aD (x:Nod) (f:Fr) (w:World) (v:Value) (hv:HasT w v (some (x,f))) (ha:x.a.size<=1000000000) (hm:x.m.size<=1000000000) :
  Calls Tryz.prog 111 #[v,.func (.func 112) #[] #[],.func (.func 112) #[] #[]] w (TelB (texB x B.nck B.nck) w):=
 mC x f 112 112 B.nck B.nck w v hv tD tD (fun w' _=>tE (B.gJ _ w' ha)) (fun w' _=>tE (B.gJ _ w' hm))
theorem zVi (x:Nod) (f:Fr) (w:World) (v:Value) (hv:HasT w v (some (x,f))) (ha:x.a.size<=1000000000) (hm:x.m.size<=1000000000) (hx:B.Nx w) :
  Calls Tryz.prog 111 #[v,.func (.func 77) #[] #[],.func (.func 77) #[] #[]] w (TelB (texB x B.long B.long) w):=
 mC x f 77 77 B.long B.long w v hv aB aB (fun w' u=>tE (B.nE _ w' ha (B.Nx.below hx u))) (fun w' u=>tE (B.nE _ w' hm (B.Nx.below hx u)))
theorem addAt (b o j:Nat):(⟨b,o,none⟩:Addr).add j=⟨b,o+j,none⟩:=by unfold Addr.add;split<;>simp_all
theorem InF.vals {w:World} {S:Nat->Prop}:∀{f:Fr} {b o:Nat},InF w S f b o->∃us,PtF w S us f/\∀(j:Nat) u,us[j]? = some u->w.cell? ⟨b,o+j,none⟩=some u
 | .nil,b,o,_=>⟨[],trivial,fun j u h=>by simp at h⟩
 | .cons x k r,b,o,⟨⟨v,hv,hn⟩,hr⟩=>by
  obtain⟨us,h1,h2⟩:=InF.vals (f:=r) hr;refine⟨v::us,⟨hn,h1⟩,fun j u hu=>?_⟩
  cases j with
  | zero=>simp at hu;subst hu;exact hv
  | succ j=>
   have:=h2 j u (by simpa using hu);rw[show o+(j+1)=o+1+j by omega];exact this
theorem Kid.vals {w:World} {S:Nat->Prop} {A:Option Addr} {f:Fr} (h:Kid w S A f 0) (hS:Bel S w.heap.size):∃us,PtF w S us f/\(0<f.len->∃b o,A=some ⟨b,o,none⟩/\b<w.heap.size/\∀(j:Nat) u,us[j]? = some u->w.cell? ⟨b,o+j,none⟩=some u):=by
 rcases Nat.eq_zero_or_pos f.len with h0 | h0
 ·have:f = .nil:=by
   cases f with
   | nil=>rfl
   | cons x k r=>simp[Fr.len] at h0
  subst this;exact⟨[],trivial,fun h=>by omega⟩
 ·obtain⟨kb,ko,hA,h1,h2⟩:=h h0
  obtain⟨us,h3,h4⟩:=InF.vals h2;exact⟨us,h3,fun _=>⟨kb,ko,hA,hS _ h1,h4⟩⟩
theorem zQo {w:World} {base:Nat} {e:TypeId} {v:Value} {n:Nat} {xs:List Value} (h:w.ownsRow base e 1 v n xs):∃A c,v = .slice A n c:=by
 rcases h.2 with ⟨h1,h2⟩ | ⟨g,cap,cur,h1,_⟩
 ·exact⟨none,0,by rw[h1,h2]⟩
 ·exact⟨_,_,h1⟩
theorem PtF.kid {w:World} {S:Nat->Prop}:∀{vs:List Value} {f:Fr} {m:Nat} {t:Tr},PtF w S vs f->f.get m=some t->∃v,vs[m]? = some v/\InT w S v t
 | [],.nil,m,t,_,hg=>by cases m<;>cases hg
 | v::vs,.cons x k r,0,t,h,hg=>by injection hg with hg;subst hg;exact⟨v,rfl,h.1⟩
 | v::vs,.cons x k r,m+1,t,h,hg=>PtF.kid (vs:=vs) (f:=r) (m:=m) h.2 hg
def Fns (w:World) (X:Option Nat) (A:Option Addr) (fs:List (FuncId×Array Value)):Prop:=
 ∀(j:Nat) k cap,fs[j]? = some (k,cap)->∃g o,A=some ⟨g,o,none⟩/\X≠some g/\w.cell? ⟨g,o+j,none⟩=some (.func (.func k) #[] cap)
def allB (n:Nat) (bs:Nat->Bool):Bool:=(List.range n).all bs
theorem zJ3 {n:Nat} {bs:Nat->Bool} (h:∀j,j<n->bs j=true):allB n bs=true:=by
 unfold allB;rw[List.all_eq_true];intro j hj;exact h j (List.mem_range.1 hj)
theorem zFp {n j:Nat} {bs:Nat->Bool} (hj:j<n) (h:bs j=false):allB n bs=false:=by
 unfold allB;rw[List.all_eq_false];exact⟨j,List.mem_range.2 hj,by rw[h];exact Bool.false_ne_true⟩
def TelX (b:Bool) (X:Option Nat) (w:World) (e:Ending) (w':World):Prop:=e = .returned (.bool b)/\w.grownBy w' X
theorem xA {a b:Bool} {X:Option Nat} {w w':World} (h:a=b) (u:w.grownBy w' X):TelX a X w (.returned (.bool b)) w':=⟨by rw[h],u⟩
theorem zJ4 {w w':World} {X:Option Nat} (h:w.grownBy w' X) {p:Addr} {v:Value} (hc:w.cell? p=some v) (hne:X≠some p.block):w'.cell? p=some v:=h.cell hc (Ne.symm hne)
theorem zEb {W w w':World} {X:Option Nat} (hu:Up W w) (h:w.grownBy w' X) (hX:∀m,X=some m->W.heap.size<=m):Up W w':=hu.grown h hu.size fun g hg=>hX g hg
theorem iF (W w0:World) (v:Value) (x:Nod) (f:Fr) (hv:HasT W v (some (x,f))) (hu:Up W w0) (hf:f.len<=1000000)
  (A:Option Addr) (c:Nat) (fs:List (FuncId×Array Value)) (hfl:fs.length<=1000000) (X:Option Nat) (hA:Fns w0 X A fs) (hX:∀m,X=some m->W.heap.size<=m)
  (bs:Nat->Bool) (J:Nat->World->Prop) (hJ:J 0 w0)
  (hc:∀(i:Nat) (t:Tr) (kv:Value) (w:World) k cap,f.get i=some t->fs[i]? = some (k,cap)->HasT W kv (some t)->Up W w->J i w->
   Ent k/\Calls Tryz.prog k (#[kv]++cap) w fun e w'=>TelX (bs i) X w e w'/\(bs i=true->J (i+1) w')) :
  Calls Tryz.prog 102 #[v,.slice A fs.length c] w0 (TelX (decide (f.len=fs.length)&&allB fs.length bs) X w0):=by
 obtain⟨q,p,A',c',rfl,hq,c0,c1,c2,c3,c4,hcc,hkid⟩:=InT.open hv;obtain⟨us,hus,hcells⟩:=Kid.vals hkid HasT.bel;have hlen:=hus.len;have HU:=Lib.hid hu;have HA:=Lib.hid hA;have HX:=Lib.hid hX;have HC:=Lib.hid hc;have HUS:=Lib.hid hus;have HCE:=Lib.hid hcells;have c4':=hu.cell c4;have C4:=Lib.hid c4;obtain⟨M,hM⟩:∃M,f.len=M:=⟨_,rfl⟩;obtain⟨n,hn⟩:∃n,fs.length=n:=⟨_,rfl⟩;rw[hM] at hf hlen hcc c4' ⊢;rw[hn] at hfl ⊢;have HM:=Lib.hid hM;have HN:=Lib.hid hn;clear hM hn hc hA hX hu hkid hus hcells c0 c1 c2 c3 c4 hv
 by_cases hmn:M=n
 ·subst hmn
  have HB:Hid ((decide (M=M)&&allB M bs)=allB M bs):=Lib.hid (by rw[decide_eq_true rfl];rfl);rw[HB.out]
  go_enter Tryz.func102,Tryz.ntmps102
  go_wp2_with fail;clear c4'
  go_loopw [5,6,17] (fun _ _ i wr=>∃k:Nat,k<=M/\i = .int .i64 k/\w0.grownBy wr X/\J k wr/\(∀j:Nat,j<k->bs j=true)) (fun _ _ i _=>M-(intOf i).toNat)
  case atStart=>exact⟨0,Nat.zero_le _,rfl,nN _ _,hJ,fun j hj=>absurd hj (Nat.not_lt_zero _)⟩
  case round=>
   obtain⟨k,hk,rfl,hg,hj,hall⟩:=hrel;have HG:=Lib.hid hg;have HJ:=Lib.hid hj;have HALL:=Lib.hid hall;clear hg hj hall hJ
   by_cases hlt:k<M
   ·obtain⟨⟨kf,cap⟩,hfs⟩:∃y,fs[k]? = some y:=⟨_,List.getElem?_eq_getElem (by rw[HN.out];exact hlt)⟩
    obtain⟨g,o,rfl,hXg,hcf0⟩:=HA.out k kf cap hfs;have hcf:=zJ4 HG.out hcf0 hXg;obtain⟨t,ht⟩:=Fr.get_some (f:=f) (i:=k) (by rw[HM.out];exact hlt);obtain⟨b,o',rfl,hb,hcs⟩:=HCE.out (by rw[HM.out];omega);obtain⟨kv,hkv,hint⟩:=PtF.kid HUS.out ht;have uw:=zEb HU.out HG.out HX.out;have hck:=uw.cell (hcs k kv hkv);have hc4:=uw.cell C4.out;rw[HM.out] at hc4;obtain⟨ek,cK⟩:=HC.out k t kv wr kf cap ht hfs hint uw HJ.out;have UW:=Lib.hid uw;clear hcf0 hkv hint hcs hfs ht uw;obtain⟨d,hd⟩:∃d,bs k=d:=⟨_,rfl⟩;rw[hd] at cK;have HD:=Lib.hid hd;clear hd
    cases d
    ·go_wp2_with fail
     rw[ek,Oper.upon_enter];refine cK.mono ?_;rintro e w2 ⟨⟨rfl,g2⟩,-⟩;go_wp2_with fail
     go_ret
     exact xA (zFp hlt HD.out) (kV HG.out g2)
    ·go_wp2_with fail
     rw[ek,Oper.upon_enter];refine cK.mono ?_;rintro e w2 ⟨⟨rfl,g2⟩,hj2⟩;go_wp2_with fail
     go_roundw
     case rel=>exact⟨k+1,by omega,by go_num,kV HG.out g2,hj2 (by simp),fun j hj=>by
      rcases Nat.lt_succ_iff_lt_or_eq.1 hj with h | h
      ·exact HALL.out j h
      ·rw[h];exact HD.out⟩
     case measure=>simp[intOf];omega
   ·have hkm:k=M:=by omega
    subst hkm;go_wp2_with fail
    go_ret
    exact xA (zJ3 HALL.out) HG.out
 ·have HB:Hid ((decide (M=n)&&allB n bs)=false):=Lib.hid (by rw[decide_eq_false hmn];rfl)
  have hmn':¬(M:Int)=(n:Int):=by omega
  rw[HB.out]
  go_enter Tryz.func102,Tryz.ntmps102
  go_wp2_with fail
  go_ret
  exact xA rfl (nN _ _)
theorem zVj:(Tryz.prog.info? 91).map (fun i=>(i.zero,i.size,i.bytes))=some (some .nilFunc,1,8):=by kernel_rfl
def OwnCk (w:World) (B:Nat) (v:Value) (vs:List Value):Prop:=w.ownsRow B 91 1 v vs.length vs
def zS0 (vs:List Value) (w:World) (e:Ending) (w':World):Prop:=∃v,e = .returned v/\OwnCk w' w.heap.size v vs/\Below w.heap.size w w'
theorem zJ5 (n:Nat) (w:World) (hn:n<=1000000):Calls Tryz.prog 144 #[.slice none 0 0,.int .i64 (n:Int)] w (zS0 [] w):=by
 by_cases h0:n=0
 ·subst h0
  go_enter Tryz.func144,Tryz.ntmps144
  go_wp2_with fail
  go_ret
  exact⟨_,rfl,World.ownsRow_nil _ _ _ _,Below.refl _ _⟩
 ·obtain⟨i0,hi,hz0,hz1,hz2⟩:=info_parts zVj
  have hrun:=Lib.run_append_nil_zeros (P:=Tryz.prog) w 123 3 123 91 i0 _ .i64 .i64 Tryz.underlying123 Tryz.underlying3 hi hz0 n (by omega) (by omega) (by omega) (by rw[hz2];omega);obtain⟨C,hC⟩:∃C,Go.grownCap w n 0 91=C:=⟨_,rfl⟩;have hge:n<=C:=by rw[<- hC];exact grownCap_ge _ _ _ _
  have hle:C<=maxLen:=by rw[<- hC];exact grownCap_le_maxLen _ _ _ _ (by unfold maxLen;omega)
  rw[hC] at hrun;obtain⟨cs,hcs⟩:∃cs,Go.Builtin.zeroCells Value.nilFunc.cells n++Go.Builtin.zeroCells Value.nilFunc.cells (C-n)=cs:=⟨_,rfl⟩;have hsz:cs.size=C*1:=by rw[<- hcs,Array.size_append,size_zeroCells,size_zeroCells];show n*1+(C-n)*1=C*1;omega
  rw[hcs] at hrun;have h1:¬(n:Int)<0:=by omega
  have h2:0<(n:Int):=by omega
  have hb:Below w.heap.size w (w.drew.alloc (.cells cs 91)):=(Below.refl w.heap.size w).drew.alloc (Nat.le_refl _) _;have ho:=World.ownsRow_made (base:=w.heap.size) (e:=91) (size:=1) w.drew cs C (Nat.le_refl _) hle hsz;have HO:=Lib.hid ho;have HB:=Lib.hid hb;clear hi hz0 hz1 hz2 hC hcs hsz ho hb
  go_enter Tryz.func144,Tryz.ntmps144
  go_wp2_with (at_builtin;refine Lib.wpList_append_run _ rfl _ _ _ _ rfl _ _ rfl rfl _ _ hrun ?_)
  go_ret
  exact⟨_,rfl,HO.out,HB.out⟩
def Rds (w:World) (v:Value) (vs:List Value):Prop:=(v = .slice none 0 0/\vs=[])\/∃g o c,v = .slice (some ⟨g,o,none⟩) vs.length c/\g<w.heap.size/\∀(j:Nat) u,vs[j]? = some u->w.cell? ⟨g,o+j,none⟩=some u
theorem Rds.below {w w':World} {v:Value} {vs:List Value} (h:Rds w v vs) (hb:Below w.heap.size w w'):Rds w' v vs:=by
 rcases h with h | ⟨g,o,c,rfl,hg,h⟩
 ·exact .inl h
 ·exact .inr ⟨g,o,c,rfl,Nat.lt_of_lt_of_le hg hb.size,fun j u hu=>hb.cell hg |>.trans (h j u hu)⟩
def Fv (vs:List Value):Prop:=∀u∈vs,u.oneCell'=true
theorem tT {w:World} {ops:Array Oper} {rest:List Oper} {o:Oper} {a:Act} {Q:Exit->Act->World->Prop} (hgd:o.guard=none) (s x:Operand)
  (ho:o.op = .call {callee:=.builtin .append,args:=#[s,x],argTypes:=#[123,123]}) {B:Nat} {v u:Value} {vs us:List Value} (hs:a.eval s=v) (hown:OwnCk w B v vs)
  (hx:a.eval x=u) (hr:Rds w u us) (h1:Fv us) (hl:vs.length+us.length<=2000000) (hB:B<=w.heap.size)
  (h:∀v' w',OwnCk w' B v' (vs++us)->w.grownBy w' v.ownBlock->wpList Tryz.prog ops Q rest (a.put o.dst v') w'):wpList Tryz.prog ops Q (o::rest) a w:=by
 obtain⟨i0,hi,hz0,hz1,hz2⟩:=info_parts zVj
 rcases hr with ⟨rfl,rfl⟩ | ⟨g,p,c,rfl,hg,hc⟩
 ·refine wpList_append_own_none hgd s x 123 ho B 91 i0 1 Tryz.underlying123 hi v vs.length vs hs hown hx (h v w ?_ (nN _ _))
  rw[List.append_nil];exact hown
 ·refine wpList_append_own w hgd s x 123 ho B 91 i0 _ 1 8 Tryz.underlying123 hi hz0 hz1 hz2 rfl (by omega) v vs.length vs hs hown ⟨g,p,none⟩ us.length c us hx (by omega) (fun j u hu=>?_) h1 (by unfold maxLen;omega) (by omega) hB ?_
  ·rw[addAt]
   exact hc j u hu
  ·intro v' w' ho' hg' _
   refine h v' w' ?_ hg';unfold OwnCk;rw[List.length_append];exact ho'
theorem zJ6 {w:World} {B:Nat} {v:Value} {vs:List Value} (h:OwnCk w B v vs):∀g,v.ownBlock=some g->B<=g:=fun g hg=>(World.ownsRow.lt h g hg).1
theorem zVk (g0:Nat) (u1 u2:Value) (n1 n2 c1 c2:Nat) (A1 A2:Option Addr) (l1 l2:List Value) (w:World) (h1:u1 = .slice A1 n1 c1) (h2:u2 = .slice A2 n2 c2) (hn1:l1.length=n1) (hn2:l2.length=n2)
  (hg:w.heap[g0]? = some (.cells #[u1,u2] 123 (0,0))) (r1:Rds w u1 l1) (r2:Rds w u2 l2) (f1:Fv l1) (f2:Fv l2) (hl1:n1<=400000) (hl2:n2<=400000) :
  Calls Tryz.prog 103 #[.slice (some ⟨g0,0,none⟩) 2 2] w (zS0 (l1++l2) w):=by
 have k1:w.cell? ⟨g0,0,none⟩=some u1:=cell_of_row w g0 0 _ _ _ hg;have k2:w.cell? ⟨g0,1,none⟩=some u2:=cell_of_row w g0 1 _ _ _ hg;have hgl:=qC hg;obtain⟨N,hN⟩:∃N,n1+n2=N:=⟨_,rfl⟩;have cG:=fun W=>zJ5 N W (by omega)
 have R1:=Lib.hid r1;have R2:=Lib.hid r2;have K1:=Lib.hid k1;have K2:=Lib.hid k2;have U1:=Lib.hid h1;have U2:=Lib.hid h2;have F1:=Lib.hid f1;have F2:=Lib.hid f2;have CG:=Lib.hid cG;clear r1 r2 hg h1 h2 f1 f2 cG k1 k2
 go_enter Tryz.func103,Tryz.ntmps103
 go_wp2_with fail
 go_loopw [3,5,11] (fun sz _ i wr=>∃k:Nat,k<=2/\i = .int .i64 k/\sz = .int .i64 ((if k=0 then 0 else if k=1 then n1 else N:Nat):Int)/\wr=w) (fun _ _ i _=>2-(intOf i).toNat)
 case atStart=>exact⟨0,by omega,rfl,rfl,rfl⟩
 case round=>
  obtain⟨k,hk,rfl,rfl,rfl⟩:=hrel
  rcases(by omega:k=0\/k=1\/k=2) with rfl | rfl | rfl
  ·have e1:=K1.out
   rw[U1.out] at e1;have e2:¬(n1:Int)<0:=by omega
   go_wp2_with fail
   go_roundw
   case rel=>exact⟨1,by omega,by go_num,by simp,by trivial⟩
   case measure=>simp[intOf]
  ·have e1:=K2.out
   rw[U2.out] at e1;have e2:¬(n1:Int)+(n2:Int)<0:=by omega
   go_wp2_with fail
   go_roundw
   case rel=>exact⟨2,by omega,by go_num,yS (by simp;omega),by trivial⟩
   case measure=>simp[intOf]
  ·go_wp2_with fail
   refine(CG.out _).mono ?_;rintro e w1 ⟨v1,rfl,o1,b1⟩;have O1:=Lib.hid o1;have B1:=Lib.hid b1;clear o1 b1;go_wp2_with fail;obtain⟨L,hL⟩:∃L:Nat->List Value,L=fun k=>if k=0 then [] else if k=1 then l1 else l1++l2:=⟨_,rfl⟩
   have L0:L 0=[]:=by rw[hL];rfl
   have L1:L 1=l1:=by rw[hL];rfl
   have L2:L 2=l1++l2:=by rw[hL];rfl
   clear hL
   go_loopw [6,8,27] (fun nv _ i w2=>∃k:Nat,k<=2/\i = .int .i64 k/\OwnCk w2 wr.heap.size nv (L k)/\Below wr.heap.size wr w2) (fun _ _ i _=>2-(intOf i).toNat)
   case atStart=>exact⟨0,by omega,rfl,by rw[L0];exact O1.out,B1.out⟩
   case round=>
    obtain⟨k,hk2,rfl,ho,hb⟩:=hrel;have HO:=Lib.hid ho;have HB:=Lib.hid hb;have hbs:=hb.size;clear ho hb hk
    rename_i w2
    rcases(by omega:k=0\/k=1\/k=2) with rfl | rfl | rfl
    ·have e1:=HB.out.cell (p:=⟨g0,0,none⟩) hgl |>.trans K1.out
     go_wp2_with (at_builtin;refine tT rfl _ _ rfl rfl HO.out rfl (R1.out.below HB.out) F1.out (by rw[L0,hn1];simp;omega) hbs ?_;intro v3 w3 o3 g3)
     go_roundw
     case rel=>exact⟨1,by omega,by go_num,by rw[L1];rw[L0] at o3;exact o3,HB.out.grown g3 hbs (zJ6 HO.out)⟩
     case measure=>simp[intOf]
    ·have e1:=HB.out.cell (p:=⟨g0,1,none⟩) hgl |>.trans K2.out
     go_wp2_with (at_builtin;refine tT rfl _ _ rfl rfl HO.out rfl (R2.out.below HB.out) F2.out (by rw[L1,hn1,hn2];omega) hbs ?_;intro v3 w3 o3 g3)
     go_roundw
     case rel=>exact⟨2,by omega,by go_num,by rw[L2];rw[L1] at o3;exact o3,HB.out.grown g3 hbs (zJ6 HO.out)⟩
     case measure=>simp[intOf]
    ·go_wp2_with fail
     go_ret
     exact⟨_,rfl,by rw[<- L2];exact HO.out,HB.out⟩
theorem aE {α:Type} (L:List α) (k:Nat) (cs:List α) (h:k+cs.length<=L.length):(splice L k cs).length=L.length:=length_splice L k cs h
theorem tU {fv:Value} {L:List Value} {k m:Nat} (h:k+m<=L.length) (hL:∀(j:Nat),j<k->L[j]? = some fv):∀(j:Nat),j<k+m->(splice L k (List.replicate m fv))[j]? = some fv:=by
 intro j hj;unfold splice
 by_cases h1:j<k
 ·rw[List.getElem?_append_left (by rw[List.length_take];omega),List.getElem?_take_of_lt h1]
  exact hL j h1
 ·rw[List.getElem?_append_right (by rw[List.length_take];omega),List.length_take,Nat.min_eq_left (by omega),List.getElem?_append_left (by rw[List.length_replicate];omega),List.getElem?_replicate,if_pos (by omega)]
theorem zVl {fv:Value} (h:fv.oneCell'=true) (m:Nat):∀v∈List.replicate m fv,v.oneCell'=true:=fun v hv=>by rw[List.eq_of_mem_replicate hv];exact h
def zS1 (fv:Value) (n:Nat) (w:World) (e:Ending) (w':World):Prop:=∃v,e = .returned v/\(∃A c,v = .slice A n c)/\Rds w' v (List.replicate n fv)/\Below w.heap.size w w'
theorem zS2 {fv:Value} {n H:Nat} {w w':World} {L:List Value} (_hH:w.heap.size=H) (hr:w'.heap[H]? = some (.cells L.toArray 91 (0,0))) (_hl:L.length=n) (hL:∀(j:Nat),j<n->L[j]? = some fv) (hb:Below w.heap.size w w') :
  zS1 fv n w (.returned (.slice (some ⟨H,0,none⟩) n n)) w':=by
 refine⟨_,rfl,⟨_,_,rfl⟩,.inr ⟨H,0,n,by rw[List.length_replicate],qC hr,fun j u hu=>?_⟩,hb⟩;rw[Nat.zero_add,cell_of_row w' H j _ _ _ hr];rw[List.getElem?_replicate] at hu
 by_cases h:j<n
 ·rw[if_pos h] at hu
  rw[<- hu,List.getElem?_toArray];exact hL j h
 ·rw[if_neg h] at hu;cases hu
theorem zVm (gx c:Nat) (fv:Value) (n:Nat) (w:World) (hx:w.cell? ⟨gx,0,none⟩=some fv) (h1:fv.oneCell'=true) (hn:n<=400000) :
  Calls Tryz.prog 104 #[.slice (some ⟨gx,0,none⟩) 1 c,.int .i64 (n:Int)] w (zS1 fv n w):=by
 have cM:∀W,Calls Tryz.prog 145 #[.int .u64 1,.int .u64 (n:Int)] W fun e w'=>e = .returned (.tuple #[.int .u64 0,.int .u64 (n:Int)])/\w'=W:=fun W=>by
  have:=Tryz.bits_Mul 1 n (by omega) (by omega) W;rw[Nat.one_mul,Nat.div_eq_of_lt (by omega),Nat.mod_eq_of_lt (by omega)] at this;exact this
 have hxl:gx<w.heap.size:=zQ hx;obtain⟨i0,hi,hz0,hz1,hz2⟩:=info_parts zVj;obtain⟨H,hH⟩:∃H,w.heap.size=H:=⟨_,rfl⟩;have hrun:=fun(W:World)=>run_make (P:=Tryz.prog) W 123 91 i0 _ Tryz.underlying123 hi hz0 .i64 .i64 (n:Int) (n:Int) (by omega) (Int.le_refl _) (by rw[hz2];omega) (by omega)
 obtain⟨Z,hZ⟩:∃Z:List Value,(madeCells Value.nilFunc.cells ((n:Int).toNat*i0.size))=Z.toArray:=⟨_,(Array.toArray_toList).symm⟩;have hZl:Z.length=n:=by
  have:=congrArg Array.size hZ;rw[size_madeCells] at this;simp only[List.size_toArray,Int.toNat_natCast,hz1] at this;omega
 rw[hZ] at hrun;simp only[Int.toNat_natCast] at hrun;have hb0:Below w.heap.size w (w.alloc (.cells Z.toArray 91)):=(Below.refl _ _).alloc (Nat.le_refl _) _;have hr0:(w.alloc (.cells Z.toArray 91)).heap[H]? = some (.cells Z.toArray 91 (0,0)):=by rw[<- hH];exact heap_alloc_new w _
 have hx0:=hb0.cell hxl |>.trans hx;have hrw:=hrun w;have hbig:¬(9223372036854775807:Int)<(n:Int):=by omega
 have hcu:IntKind.u64.wrap (n:Int)=n:=by show(n:Int) % 18446744073709551616=n;omega
 have hci:IntKind.i64.wrap (n:Int)=n:=by rw[IntKind.wrap_i64];omega
 rw[hH] at hrw;have HH:=Lib.hid hH;have HR0:=Lib.hid hr0;have HB0:=Lib.hid hb0;have HBH:Hid (Below H w (w.alloc (.cells Z.toArray 91))):=Lib.hid (by rw[<- hH];exact hb0);have HX0:=Lib.hid hx0;have HZL:=Lib.hid hZl;clear hi hz0 hz1 hz2 hZ hZl hrun hr0 hb0 hx0 hH
 by_cases h0:n=0
 ·subst h0
  have hrw0:(Instr.makeSlice 123 (.int .i64 0) (.int .i64 0)).run Tryz.prog w = .ok (.slice (some ⟨H,0,none⟩) 0 0) (w.alloc (.cells Z.toArray 91)):=hrw;clear hrw
  go_enter Tryz.func104,Tryz.ntmps104
  have hcp:∀W,(Builtin.copy_ #[123,123] 3 #[.slice (some ⟨H,0,none⟩) 0 0,.slice (some ⟨gx,0,none⟩) 1 c]).run Tryz.prog W = .ok (goInt 0) W:=fun W=>
   run_copy_none (P:=Tryz.prog) W _ _ _ 91 _ _ _ _ _ _ Tryz.underlying123 (by kernel_rfl) (by decide)
  go_wp2_with (go_at_call 145;refine(cM _).mono ?_;rintro e w1 ⟨rfl,he⟩;obtain rfl:=he.symm)
  go_loopw [8] (fun i wr=>i = .int .i64 0/\wr=w.alloc (.cells Z.toArray 91)) (fun _ _=>0)
  case atStart=>exact⟨rfl,rfl⟩
  case round=>
   obtain⟨rfl,rfl⟩:=hrel;go_wp2_with fail
   go_ret
   exact zS2 HH.out HR0.out HZL.out (fun j hj=>absurd hj (Nat.not_lt_zero _)) HB0.out
 ·have h0':0<n:=by omega
  have hpos:¬(n:Int)=0:=by omega
  obtain⟨w2,hcp,hr2,hb2⟩:∃w2,(Builtin.copy_ #[123,123] 3 #[.slice (some ⟨H,0,none⟩) n n,.slice (some ⟨gx,0,none⟩) 1 c]).run Tryz.prog (w.alloc (.cells Z.toArray 91)) = .ok (.int .i64 1) w2/\
    w2.heap[H]? = some (.cells (splice Z 0 (List.replicate 1 fv)).toArray 91 (0,0))/\Below H w w2:=by
   refine⟨_,run_copy_row (P:=Tryz.prog) _ _ _ _ 91 H 0 n n ⟨gx,0,none⟩ 1 c Z.toArray 91 (List.replicate 1 fv) Tryz.underlying123 (by kernel_rfl) HR0.out (by rw[List.length_replicate];exact(Nat.min_eq_left h0').symm) (fun j v hj=>?_) (by rw[List.length_replicate,List.size_toArray,HZL.out];omega) (zVl h1 1),?_,?_⟩
   ·rw[addAt,Nat.zero_add]
    rw[List.getElem?_replicate] at hj
    by_cases h:j<1
    ·rw[if_pos h] at hj
     obtain rfl:j=0:=by omega
     injection hj with hj;rw[<- hj];exact HX0.out
    ·rw[if_neg h] at hj;cases hj
   ·simpa [splice] using setRow_heap _ H _ _ 91 _ HR0.out
   ·exact below_setRow HBH.out (Nat.le_refl _) _
  have HR2:=Lib.hid hr2;have HB2:=Lib.hid hb2;clear hr2 hb2
  go_enter Tryz.func104,Tryz.ntmps104
  go_wp2_with (go_at_call 145;refine(cM _).mono ?_;rintro e w1 ⟨rfl,he⟩;obtain rfl:=he.symm)
  clear hcp hrw cM hcu hci hx
  go_loopw [8] (fun i wr=>∃k:Nat,0<k/\k<=n/\i = .int .i64 k/\Below H w wr/\∃L:List Value,wr.heap[H]? = some (.cells L.toArray 91 (0,0))/\L.length=n/\∀(j:Nat),j<k->L[j]? = some fv) (fun i _=>n-(intOf i).toNat)
  case atStart=>
   refine⟨1,by omega,h0',rfl,HB2.out,_,HR2.out,by rw[aE _ _ _ (by rw[List.length_replicate,HZL.out];omega),HZL.out],?_⟩;exact tU (k:=0) (m:=1) (by rw[HZL.out];omega) (fun j hj=>absurd hj (Nat.not_lt_zero _))
  case round=>
   obtain⟨k,hk0,hk,rfl,hbw,L,hr,hl,hall⟩:=hrel
   rename_i wr
   have HR:=Lib.hid hr;have HBW:=Lib.hid hbw;have HL:=Lib.hid hl;have HALL:=Lib.hid hall;clear hr hbw hl hall
   by_cases hlt:k<n
   ·obtain⟨m,hm⟩:∃m,Nat.min k (n-k)=m:=⟨_,rfl⟩
    have hm1:0<m/\k+m<=n:=by
     have a:m<=n-k:=by rw[<- hm];exact Nat.min_le_right _ _
     have b:0<m:=by rw[<- hm];exact Nat.lt_min.2 ⟨hk0,by omega⟩
     omega
    have hkz:(k:Int)<=(n:Int):=by omega
    have hkl:(k:Int)<(n:Int):=by omega
    have hk00:¬(k:Int)<0:=by omega
    have ekn:¬n=k:=by omega
    have hmk:m<=k:=by rw[<- hm];exact Nat.min_le_left _ _
    go_wp2_with fail;have hsrc:∀(j:Nat) v,(List.replicate m fv)[j]? = some v->wr.drew.cell? ((⟨H,0,none⟩:Addr).add j)=some v:=fun j v hj=>by
     rw[addAt,Nat.zero_add];rw[List.getElem?_replicate] at hj
     by_cases h:j<m
     ·rw[if_pos h] at hj
      injection hj with hj;rw[<- hj];exact(cell_of_row wr H j _ _ _ HR.out).trans (by rw[List.getElem?_toArray];exact HALL.out j (by omega))
     ·rw[if_neg h] at hj;cases hj
    have HSRC:=Lib.hid hsrc;obtain⟨L',hL'⟩:∃L',splice L k (List.replicate m fv)=L':=⟨_,rfl⟩;have HA:Hid (L'.length=n):=Lib.hid (by rw[<- hL'];exact(aE L k (List.replicate m fv) (by rw[List.length_replicate,HL.out];exact hm1.2)).trans HL.out);have HB:Hid (∀(j:Nat),j<k+m->L'[j]? = some fv):=Lib.hid (by rw[<- hL'];exact tU (L:=L) (k:=k) (m:=m) (by rw[HL.out];exact hm1.2) HALL.out);have HL':=Lib.hid hL';clear hsrc hL';obtain⟨w4,hcp4,hg4,hb4⟩:∃w4,(Builtin.copy_ #[123,123] 3 #[.slice (some ⟨H,k,none⟩) (n-k) (n-k),.slice (some ⟨H,0,none⟩) k n]).run Tryz.prog wr.drew = .ok (.int .i64 (m:Int)) w4/\
      w4.heap[H]? = some (.cells L'.toArray 91 (0,0))/\Below H w w4:=by
     have hc:=run_copy_row (P:=Tryz.prog) wr.drew 123 123 3 91 H k (n-k) (n-k) ⟨H,0,none⟩ k n L.toArray 91 (List.replicate m fv) Tryz.underlying123 (by kernel_rfl) HR.out (by rw[List.length_replicate];exact hm.symm) HSRC.out (by rw[List.length_replicate,List.size_toArray,HL.out];exact hm1.2) (zVl h1 m);have e1:goInt (List.replicate m fv).length = .int .i64 (m:Int):=by rw[List.length_replicate];rfl
     rw[e1] at hc;refine⟨_,hc,?_,below_setRow (qE HBW.out 1) (Nat.le_refl _) _⟩;rw[<- HL'.out]
     simpa [splice] using setRow_heap wr.drew H _ _ 91 _ HR.out
    have HB4:=Lib.hid hb4;have HG4:=Lib.hid hg4;clear hg4 hb4
    go_region
    go_wp2_with fail
    go_roundw
    case rel=>exact⟨k+m,by omega,hm1.2,by go_num,HB4.out,L',HG4.out,HA.out,HB.out⟩
    case measure=>simp[intOf];omega
   ·have hkn:k=n:=by omega
    subst hkn;go_wp2_with fail
    go_ret
    exact zS2 HH.out HR.out HL.out HALL.out (by rw[HH.out];exact HBW.out)
def fnV (y:FuncId×Array Value):Value:=.func (.func y.1) #[] y.2
theorem zBd (l:List (FuncId×Array Value)):Fv (l.map fnV):=fun u hu=>by
 obtain⟨y,_,rfl⟩:=List.mem_map.1 hu
 rfl
theorem zFq {w:World} {B n c:Nat} {A:Option Addr} {fs:List (FuncId×Array Value)} {X:Option Nat} (h:OwnCk w B (.slice A n c) (fs.map fnV)) (hX:∀m,X=some m->m<B):n=fs.length/\Fns w X A fs:=by
 unfold OwnCk at h;rw[List.length_map] at h;obtain⟨h0,h⟩:=h
 rcases h with ⟨h,h1⟩ | ⟨g,cap,cur,h,hB,hg,_,_,hcs,hxs⟩
 ·injection h with h2 h3
  refine⟨by omega,fun j k cp hj=>?_⟩;rw[List.length_eq_zero_iff.1 h1] at hj
  cases hj
 ·injection h with h2 h3
  refine⟨h3,fun j k cp hj=>⟨g,0,h2,fun e=>by have:=hX g e;omega,?_⟩⟩;rw[Nat.zero_add,cell_of_row w g j _ _ _ hg];have hm:(fs.map fnV)[j]? = some (.func (.func k) #[] cp):=by rw[List.getElem?_map,hj];rfl
  rw[<- hxs,List.getElem?_take] at hm
  split at hm
  ·rw[<- hm,Array.getElem?_toList]
  ·cases hm
theorem zX0 (W w0:World) (v:Value) (x:Nod) (f:Fr) (hv:HasT W v (some (x,f))) (hu:Up W w0) (hf:f.len<=100000) (least:Nat) (hle:least<=1) (o:FuncId×Array Value)
  (A1:Option Addr) (c1:Nat) (fs:List (FuncId×Array Value)) (hfs:fs.length<=2) (r1:Rds w0 (.slice A1 fs.length c1) (fs.map fnV)) (X:Option Nat) (hX:∀m,X=some m->W.heap.size<=m/\m<w0.heap.size)
  (bs:Nat->Bool) (J:Nat->World->Prop) (hJ:∀w,Below w0.heap.size w0 w->J 0 w)
  (hc:∀(i:Nat) (t:Tr) (kv:Value) (w:World) k cap,f.get i=some t->(fs++List.replicate (f.len-fs.length) o)[i]? = some (k,cap)->HasT W kv (some t)->Up W w->J i w->
   Ent k/\Calls Tryz.prog k (#[kv]++cap) w fun e w'=>TelX (bs i) X w e w'/\(bs i=true->J (i+1) w')) :
  Calls Tryz.prog 61 #[v,.int .i64 (least:Int),fnV o,.slice A1 fs.length c1] w0 (TelX (decide (fs.length+least<=f.len)&&allB f.len bs) X w0):=by
 have hv0:=hv;obtain⟨q,p,A',c',rfl,hq,c0,k1,k2,k3,c4,hcc,hkid⟩:=InT.open hv;have c4':=hu.cell c4;obtain⟨n1,hn1⟩:∃n1,fs.length=n1:=⟨_,rfl⟩;obtain⟨M,hM⟩:∃M,f.len=M:=⟨_,rfl⟩;rw[hn1] at r1 hfs ⊢;rw[hM] at c4' hf ⊢;have HC:=Lib.hid hc;have HU:=Lib.hid hu;have HV:=Lib.hid hv0;have HX:=Lib.hid hX;have HJ:=Lib.hid hJ;have HM:=Lib.hid hM;have HN:=Lib.hid hn1;have R1:=Lib.hid r1;obtain⟨ko,co⟩:=o;have HFO:Hid (fnV (ko,co) = .func (.func ko) #[] co):=Lib.hid rfl;rw[HFO.out];clear hc hu hv hv0 hX hJ c0 k1 k2 k3 c4 hcc hkid hq hn1 hM r1
 by_cases h:n1+least<=M
 ·obtain⟨n,hn⟩:∃n,M-n1=n:=⟨_,rfl⟩
  have e1:(M:Int)-(n1:Int)=(n:Int):=by omega
  have e2:(least:Int)<=(n:Int):=by omega
  have HB:Hid ((decide (n1+least<=M)&&allB M bs)=allB M bs):=Lib.hid (by rw[decide_eq_true h];rfl);rw[HB.out];obtain⟨H,hH⟩:∃H,w0.heap.size=H:=⟨_,rfl⟩;have hx1:(w0.alloc (.cells #[.func (.func ko) #[] co] 91)).cell? ⟨H,0,none⟩=some (.func (.func ko) #[] co):=by rw[<- hH];exact cell_of_row _ w0.heap.size 0 _ _ _ (heap_alloc_new w0 _)
  have cR:=zVm H 1 (.func (.func ko) #[] co) n _ hx1 rfl (by omega)
  go_enter Tryz.func61,Tryz.ntmps61
  go_wp2_with fail;refine cR.mono ?_;rintro e w2 ⟨v2,rfl,⟨A2,c2,rfl⟩,r2,b2⟩;go_wp2_with fail;have hs1:(w0.alloc (.cells #[.func (.func ko) #[] co] 91)).heap.size=w0.heap.size+1:=by simp
  have b02:Below w0.heap.size w0 w2:=((Below.refl w0.heap.size w0).alloc (Nat.le_refl _) _).trans (b2.mono (by omega));have hs2:=b02.size;obtain⟨W3,hW3⟩:∃W3,w2.alloc (.cells #[.slice A1 n1 c1,.slice A2 n c2] 123)=W3:=⟨_,rfl⟩;have b23:Below w2.heap.size w2 W3:=by rw[<- hW3];exact(Below.refl _ _).alloc (Nat.le_refl _) _
  have b03:Below w0.heap.size w0 W3:=b02.trans (b23.mono hs2);have hs3:=b03.size;have hg3:W3.heap[w2.heap.size]? = some (.cells #[.slice A1 n1 c1,.slice A2 n c2] 123 (0,0)):=by rw[<- hW3];exact heap_alloc_new w2 _
  have hn2:n1+n=M:=by omega
  have cC:=zVk w2.heap.size _ _ n1 n c1 c2 A1 A2 (fs.map fnV) (List.replicate n (.func (.func ko) #[] co)) W3 rfl rfl (by rw[List.length_map];exact HN.out) List.length_replicate hg3 (R1.out.below b03) (r2.below b23) (zBd fs) (zVl rfl n) (by omega) (by omega);have hmap:fs.map fnV++List.replicate n (.func (.func ko) #[] co)=(fs++List.replicate n (ko,co)).map fnV:=by rw[List.map_append,List.map_replicate,HFO.out]
  have hlen:(fs++List.replicate n (ko,co)).length=M:=by rw[List.length_append,List.length_replicate,HN.out];exact hn2
  rw[hmap] at cC;rw[hW3];clear r2 b2 hg3 cR hx1 hW3 b23 b02;refine cC.mono ?_;rintro e w4 ⟨v4,rfl,o4,b4⟩;obtain⟨A4,c4,rfl⟩:=zQo o4;obtain⟨-,hfn⟩:=zFq (X:=X) o4 (fun m hm=>by have:=HX.out m hm;omega);rw[List.length_map,hlen];have b04:Below w0.heap.size w0 w4:=b03.trans (b4.mono hs3);have cK:=iF W w4 _ x f HV.out (HU.out.trans b04) (by rw[HM.out];omega) A4 c4 (fs++List.replicate n (ko,co)) (by rw[hlen];omega) X hfn (fun m hm=>(HX.out m hm).1) bs J (HJ.out w4 b04)
   (fun i t kv w k cap h1 h2=>HC.out i t kv w k cap h1 (by rw[HM.out,HN.out,hn];exact h2))
  rw[hlen,HM.out,decide_eq_true rfl,Bool.true_and] at cK;have B04:=Lib.hid b04;clear b04 b4 b03 hfn o4 cC hmap;go_wp2_with fail;refine cK.mono ?_;rintro e w5 ⟨rfl,g5⟩;go_wp2_with fail
  go_ret
  exact xA rfl (kV (kD B04.out (Nat.le_refl _)) g5)
 ·have HB:Hid ((decide (n1+least<=M)&&allB M bs)=false):=Lib.hid (by rw[decide_eq_false h];rfl)
  rw[HB.out];have e2:¬(least:Int)<=(M:Int)-(n1:Int):=by omega
  go_enter Tryz.func61,Tryz.ntmps61
  go_wp2_with fail
  go_ret
  exact xA rfl (nN _ _)
theorem Sp.drew {w:World} {B:Nat} {v:Value} {l:List Int} (h:Sp w B v l) (q:Nat):Sp (w.drewN q) B v l:=h.keep (Nat.le_refl _) fun _ _=>rfl
def So (H:Nat) (w:World) (v:Value) (q:Nat):Prop:=H<=q/\q<w.heap.size/\v.ownBlock≠some q
theorem infoI:(Tryz.prog.info? 3).map (fun i=>(i.zero,i.size,i.bytes))=some (some (.int .i64 0),1,8):=by kernel_rfl
def ints (l:List Int):List Value:=l.map fun u=>.int .i64 u
def SpS (w:World) (S:Nat->Prop) (v:Value) (l:List Int):Prop:=
 ∃A c,v = .slice A l.length c/\l.length<=c/\∀(j:Nat) (u:Int),l[j]? = some u->∃b o,A=some ⟨b,o,none⟩/\S b/\w.cell? ⟨b,o+j,none⟩=some (.int .i64 u)
theorem SpS.keep {w w':World} {S S':Nat->Prop} {v:Value} {l:List Int} (h:SpS w S v l) (hS:∀q,S q->S' q) (hk:∀b,S b->w'.heap[b]? = w.heap[b]?):SpS w' S' v l:=by
 obtain⟨A,c,hv,hc,hl⟩:=h;refine⟨A,c,hv,hc,fun j u hu=>?_⟩;obtain⟨b,o,hA,hb,hcell⟩:=hl j u hu;exact⟨b,o,hA,hS b hb,(World.cell?_of_block (w:=w) (hk b hb)).trans hcell⟩
theorem SpS.sp {w:World} {S:Nat->Prop} {B:Nat} {v:Value} {l:List Int} (h:SpS w S v l) (hB:Bel S B):Sp w B v l:=by
 obtain⟨A,c,hv,hc,hl⟩:=h;refine⟨A,c,hv,hc,fun j u hu=>?_⟩;obtain⟨b,o,hA,hb,hcell⟩:=hl j u hu;exact⟨b,o,hA,hB b hb,hcell⟩
theorem SpS.one {w:World} {S:Nat->Prop} {v:Value} {l:List Int} (h:SpS w S v l):v.oneCell'=true:=by
 obtain⟨A,c,rfl,_⟩:=h
 rfl
theorem zFr {l:List Int} {j:Nat} {u:Int} (h:l[j]? = some u):(ints l)[j]? = some (.int .i64 u):=by
 unfold ints;rw[List.getElem?_map,h]
 rfl
theorem SpS.own {w:World} {S:Nat->Prop} {B:Nat} {v:Value} {l:List Int} {e:TypeId} (h:w.ownsRow B e 1 v l.length (ints l)) (hS:∀g,v.ownBlock=some g->S g):SpS w S v l:=by
 rcases h.2 with ⟨rfl,h0⟩ | ⟨g,cap,cur,rfl,_,_,hc,_⟩
 ·have:l=[]:=List.length_eq_zero_iff.1 h0
  subst this;exact⟨none,0,rfl,Nat.le_refl _,fun j u hu=>by simp at hu⟩
 ·refine⟨_,cap,rfl,hc,fun j u hu=>⟨g,0,rfl,hS g rfl,?_⟩⟩
  have h1:=h.cells (g:=g) rfl j _ (zFr hu);have e1:(⟨g,0,none⟩:Addr).add j=⟨g,0+j,none⟩:=by unfold Addr.add;split<;>simp_all
  rwa [e1] at h1
def flat:List Cel->List Value->List Value
 | [],_=>[]
 | _::_,[]=>[]
 | c::cs,kv::vs=>.int .i64 c.x.k :: .int .i64 c.x.n :: .string c.x.a :: .string c.x.m::kv::flat cs vs
def CsF (w:World) (S:Nat->Prop):List Value->List Cel->Prop
 | [],[]=>True
 | kv::vs,c::cs=>SpS w S kv c.ks/\CsF w S vs cs
 | _,_=>False
theorem CsF.len {w:World} {S:Nat->Prop}:∀{vs:List Value} {cs:List Cel},CsF w S vs cs->vs.length=cs.length
 | [],[],_=>rfl
 | [],_::_,h=>h.elim
 | _::_,[],h=>h.elim
 | _::vs,_::cs,h=>by simp only[List.length_cons,CsF.len (vs:=vs) (cs:=cs) h.2]
theorem CsF.keep {w w':World} {S S':Nat->Prop} (hS:∀q,S q->S' q) (hk:∀b,S b->w'.heap[b]? = w.heap[b]?):∀{vs:List Value} {cs:List Cel},CsF w S vs cs->CsF w' S' vs cs
 | [],[],_=>trivial
 | [],_::_,h=>h.elim
 | _::_,[],h=>h.elim
 | _::vs,_::cs,h=>⟨h.1.keep hS hk,CsF.keep hS hk (vs:=vs) (cs:=cs) h.2⟩
theorem CsF.app {w:World} {S:Nat->Prop}:∀{vs us:List Value} {cs ds:List Cel},CsF w S vs cs->CsF w S us ds->CsF w S (vs++us) (cs++ds)
 | [],_,[],_,_,h=>h
 | [],_,_::_,_,h,_=>h.elim
 | _::_,_,[],_,h,_=>h.elim
 | _::vs,_,_::cs,_,h,h'=>⟨h.1,CsF.app (vs:=vs) (cs:=cs) h.2 h'⟩
theorem zX1:∀{cs:List Cel} {vs:List Value} (ds:List Cel) (us:List Value),vs.length=cs.length->flat (cs++ds) (vs++us)=flat cs vs++flat ds us
 | [],[],_,_,_=>rfl
 | [],_::_,_,_,h=>by simp at h
 | _::_,[],_,_,h=>by simp at h
 | c::cs,v::vs,ds,us,h=>by
  simp only[List.cons_append,flat,zX1 (cs:=cs) (vs:=vs) ds us (by simpa using h)]
theorem CsF.at {w:World} {S:Nat->Prop}:∀{vs:List Value} {cs:List Cel} {j:Nat} {c:Cel},CsF w S vs cs->cs[j]? = some c->∃kv,SpS w S kv c.ks/\(flat cs vs)[j*5]? = some (.int .i64 c.x.k)/\(flat cs vs)[j*5+1]? = some (.int .i64 c.x.n)/\(flat cs vs)[j*5+2]? = some (.string c.x.a)/\
  (flat cs vs)[j*5+3]? = some (.string c.x.m)/\(flat cs vs)[j*5+4]? = some kv
 | [],[],_,_,_,h=>by simp at h
 | [],_::_,_,_,h,_=>h.elim
 | _::_,[],_,_,h,_=>h.elim
 | v::vs,c'::cs,0,c,h,hc=>by
  simp at hc
  subst hc;exact⟨v,h.1,rfl,rfl,rfl,rfl,rfl⟩
 | v::vs,c'::cs,j+1,c,h,hc=>by
  obtain⟨kv,h0,h1,h2,h3,h4,h5⟩:=CsF.at (vs:=vs) (cs:=cs) (j:=j) (c:=c) h.2 (by simpa using hc);have e:∀i,(flat (c'::cs) (v::vs))[(j+1)*5+i]? = (flat cs vs)[j*5+i]?:=by
   intro i;rw[show(j+1)*5+i=(j*5+i)+1+1+1+1+1 by omega];simp only[flat,List.getElem?_cons_succ]
  exact⟨kv,h0,(e 0).trans h1,(e 1).trans h2,(e 2).trans h3,(e 3).trans h4,(e 4).trans h5⟩
def OwnC (w:World) (H:Nat) (v:Value) (cs:List Cel):Prop:=∃vs,w.ownsRow H 121 5 v cs.length (flat cs vs)/\CsF w (So H w v) vs cs
theorem OwnC.nil (w:World) (H:Nat):OwnC w H (.slice none 0 0) []:=⟨[],World.ownsRow_nil _ _ _ _,trivial⟩
theorem OwnC.cls {w:World} {H:Nat} {v:Value} {cs:List Cel} (h:OwnC w H v cs):Cls w w.heap.size v cs:=by
 obtain⟨vs,ho,hf⟩:=h
 rcases ho.2 with ⟨rfl,h0⟩ | ⟨g,cap,cur,rfl,_,hh,hc,_⟩
 ·have:cs=[]:=List.length_eq_zero_iff.1 h0
  subst this;exact⟨none,0,rfl,Nat.le_refl _,fun j u hu=>by simp at hu⟩
 ·refine⟨_,cap,rfl,hc,fun j u hu=>⟨g,0,rfl,qC hh,?_⟩⟩
  obtain⟨kv,h0,h1,h2,h3,h4,h5⟩:=hf.at hu;have hcell:∀i u,(flat cs vs)[i]? = some u->w.cell? ⟨g,i,none⟩=some u:=fun i u hu=>by
   have h1:=ho.cells (g:=g) rfl i u hu;have e1:(⟨g,0,none⟩:Addr).add i=⟨g,i,none⟩:=by unfold Addr.add;split<;>simp_all
   rwa [e1] at h1
  rw[Nat.zero_add];exact⟨hcell _ _ h1,hcell _ _ h2,hcell _ _ h3,hcell _ _ h4,kv,hcell _ _ h5,h0.sp fun q hq=>hq.2.1⟩
theorem zS3:(Tryz.prog.info? 121).map (fun i=>(i.zero,i.size,i.bytes))=some (some (.agg #[.int .i64 0,.int .i64 0,.string ⟨#[]⟩,.string ⟨#[]⟩,.slice none 0 0]),5,72):=by kernel_rfl
theorem zQp (l:List Int) (z:Int):ints (l++[z])=ints l++[.int .i64 z]:=by simp[ints]
theorem zQq (a:Fr) (y:Nod) (l:Fr) (f:Nat):celF (a.app (.cons y l .nil)) f=((celF a f).1++celT (y,l) (f+a.sz),(celF a f).2++[((f+a.sz+l.sz:Nat):Int)]):=by
 rw[zJ1];have e:celF (.cons y l .nil) (f+a.sz)=(celT (y,l) (f+a.sz),[((f+a.sz+l.sz:Nat):Int)]):=by
  simp[celF,celT,(pR l (f+a.sz)).1]
 rw[e]
theorem mU {w:World} {base:Nat} {e:TypeId} {v:Value} {n:Nat} {xs:List Value} (h:w.ownsRow base e 5 v n xs):∃A c,v = .slice A n c:=by
 rcases h.2 with ⟨h1,h2⟩ | ⟨g,cap,cur,h1,_⟩
 ·exact⟨none,0,by rw[h1,h2]⟩
 ·exact⟨_,_,h1⟩
theorem zQr {w:World} {B:Nat} {a b c d v:Value} {t:TypeId} {z:Nat×Nat} (hb:w.heap[B]? = some (.cells #[a,b,c,d,v] t z)):∀j u,[a,b,c,d,v][j]? = some u->w.cell? ((⟨B,0,none⟩:Addr).add j)=some u:=fun j u hu=>by
 rw[addAt,Nat.zero_add,cell_of_row w B j _ t z hb]
 simpa using hu
theorem zJ7 {a b:Int} {s t:ByteArray} {v:Value} (h:v.oneCell'=true):∀u∈[Value.int .i64 a,.int .i64 b,.string s,.string t,v],u.oneCell'=true:=by
 intro u hu;simp only[List.mem_cons,List.not_mem_nil,or_false] at hu
 rcases hu with rfl | rfl | rfl | rfl | rfl
 ·rfl
 ·rfl
 ·rfl
 ·rfl
 ·exact h
def zBe (cs:List Cel) (z:Int) (W:World) (e:Ending) (w':World):Prop:=∃v,e = .returned (.tuple #[.agg #[v],.int .i64 z])/\Cls w' w'.heap.size v cs/\Below W.heap.size W w'
def okSO (o:Option Tr):Prop:=∀t,o=some t->okST t
def InP (z:Int) (W:World) (e:Ending) (w':World):Prop:=e = .returned (.int .i64 z)/\Up W w'
theorem uW {a b:Int} {W w':World} (h:a=b) (u:Up W w'):InP a W (.returned (.int .i64 b)) w':=⟨by rw[h],u⟩
def ShpAt (f:FuncId) (c:Int):Prop:=∀(o:Option Tr),szO o<=60000->okSO o->∀(W w:World) (v:Value),B.Nx W->HasT W v o->Up W w->Calls Tryz.prog f #[v] w (InP (chk B.nck B.long o c) W)
end Go.Proofs.YtgeghilbikljcaaGreatDoor
