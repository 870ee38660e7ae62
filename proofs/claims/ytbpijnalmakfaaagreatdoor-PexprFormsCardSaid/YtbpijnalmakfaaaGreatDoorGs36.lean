/-
  Plain definitions, without the program: trees as forests; their size, depth, cells, paths; what stands at a path, and what is put there; what a list of cells is the tree of.
-/
import Derived.Test.YtbpijnalmakfaaaGreatDoorGs35
set_option maxHeartbeats 40000000
set_option maxRecDepth 100000
namespace Go.Proofs.YtbpijnalmakfaaaGreatDoor
theorem Fr.ext {a b:Fr} (h:∀i,a.get i=b.get i):a=b:=by
 induction a generalizing b with
 | nil=>
  cases b with
  | nil=>rfl
  | cons y l s=>have:=h 0;cases this
 | cons x k r _ ih=>
  cases b with
  | nil=>have:=h 0;cases this
  | cons y l s=>
   have h0:=h 0;injection h0 with h0;injection h0 with h1 h2;subst h1 h2;rw[ih fun i=>h (i+1)]
theorem zN {l:List Tk} {i:Nat} {x:ByteArray} (h:l[i]? = some (ky x)) (y:ByteArray):key l i y=decide (x=y):=by
 unfold key;rw[h]
 show(decide ((3:Int)=3)&&decide (x=y))=_
 rw[decide_eq_true rfl,Bool.true_and]
theorem dU {p:ByteArray→Bool} {l:List Tk} {i:Nat} {x:ByteArray} (h:l[i]? = some (ky x)):nam p l i=none:=by
 unfold nam;rw[h]
 show(if (decide ((3:Int)=1)&&p x)=true then some x else none)=none
 rw[decide_eq_false (by decide),Bool.false_and]
 rfl
section
variable {nk lg:ByteArray→Bool}
end
section
variable {nk lg:ByteArray→Bool} {l l':List Te} {d:Nat}
theorem zOp {i:Nat} {x:ByteArray} {n:Int} (h:l[i]? = some ⟨ky x,n⟩):hdE lg l i=if x=kTrue then .boo 1 else if x=yH then .boo 0 else if x=kOpen then .opn else if x=kOne then .sel 27 else if x=kTwo then .sel 28 else .no:=by
 unfold hdE;rw[h]
 rfl
end
section
variable (nb:Int→ByteArray)
end
section
variable {nk lg:ByteArray→Bool} {l:List Te}
theorem yE {i:Nat} {x:ByteArray} (h:l[i]? = some (ke x)) (y:ByteArray):key (tks l) i y=decide (x=y):=zN (by rw[kD,h];rfl) y
theorem sN {i:Nat} {k:ByteArray} (h:l[i]? = some (ke k)):keysL (tks l) i [k] = .inl ((),i+1):=by
 unfold keysL;rw[yE h,decide_eq_true rfl]
 rfl
theorem wJ {α:Type} {R:Rs α} {a:α} {j:Nat} {k:ByteArray} (hR:R = .inl (a,j)) (h:l[j]? = some (ke k)):thenK (tks l) R [k] = .inl (a,j+1):=by
 rw[hR]
 show thn (keysL (tks l) j [k]) _=_
 rw[sN h]
 rfl
theorem yK {α β:Type} {R:Rs α} {f:α→Nat→Rs β} {a:α} {j:Nat} (h:R = .inl (a,j)):thn R f=f a j:=by rw[h];rfl
structure Fol (lg:ByteArray→Bool) (r:Nat) (l:List Te) (j:Nat):Prop where
 hd:r≤4→(hdE lg l j).any=false
 st:r≤3→key (tks l) j kStar=false
 pm:r≤2→key (tks l) j kPlus=false∧key (tks l) j vX=false
 cm:r≤1→key (tks l) j kEq=false∧key (tks l) j kLess=false
theorem Fol.up {r s j:Nat} (h:Fol lg r l j) (hrs:r≤s):Fol lg s l j:=⟨fun h1=>h.hd (by omega),fun h1=>h.st (by omega),fun h1=>h.pm (by omega),fun h1=>h.cm (by omega)⟩
theorem Fol.end {j:Nat} (h:l.length≤j):Fol lg 1 l j:=by
 have hk:∀x,Proofs.YtbpijnalmakfaaaGreatDoor.key (tks l) j x=false:=fun x=>yO (by rw[zD];exact h)
 refine⟨fun _=>?_,fun _=>hk _,fun _=>⟨hk _,hk _⟩,fun _=>⟨hk _,hk _⟩⟩;unfold hdE;rw[List.getElem?_eq_none h]
 rfl
def Reach (l:List Te) (T:Nat→Rs Tr) (s:Nat→Option (Nod×Nat)) (N:Nat) (t:Tr) (i e:Nat):Prop:=∃f,l.length-e+1≤f∧lopS T s N i=lop T s f t e
theorem Reach.done {T:Nat→Rs Tr} {s:Nat→Option (Nod×Nat)} {N i e:Nat} {t:Tr} (h:Reach l T s N t i e) (hs:s e=none):lopS T s N i = .inl (t,e):=by
 obtain⟨f,hf,h⟩:=h;rw[h]
 cases f with
 | zero=>omega
 | succ f=>unfold lop;rw[hs]
theorem Reach.of {T:Nat→Rs Tr} {s:Nat→Option (Nod×Nat)} {N i e:Nat} {t:Tr} (h:T i = .inl (t,e)) (hN:l.length-e+1≤N):Reach l T s N t i e:=⟨N,hN,by unfold lopS;rw[h];rfl⟩
theorem Reach.step {T:Nat→Rs Tr} {s:Nat→Option (Nod×Nat)} {N i e d m:Nat} {x:Nod} {a b:Tr} (h:Reach l T s N a i e) (hs:s e=some (x,d)) (hT:T (e+d) = .inl (b,m)) (hem:e<m) (hm:m≤l.length):Reach l T s N (x,fr2 a b) i m:=by
 obtain⟨f,hf,h⟩:=h
 cases f with
 | zero=>omega
 | succ f=>
  refine⟨f,by omega,?_⟩;rw[h]
  conv=>lhs;unfold lop
  rw[hs];simp only;rw[hT]
  rfl
theorem zOq {j:Nat} (h:Fol lg 4 l j):sApp lg l j=none:=by unfold sApp;rw[h.hd (Nat.le_refl _)];rfl
theorem zOr {j:Nat} (h:Fol lg 3 l j):sMul l j=none:=by unfold sMul;rw[h.st (Nat.le_refl _)];rfl
theorem zOs {j:Nat} (h:Fol lg 2 l j):sAdd l j=none:=by unfold sAdd;rw[(h.pm (Nat.le_refl _)).1,(h.pm (Nat.le_refl _)).2];rfl
theorem zOt {j:Nat} (h:Fol lg 1 l j):sCmp l j=none:=by unfold sCmp;rw[(h.cm (Nat.le_refl _)).1,(h.cm (Nat.le_refl _)).2];rfl
theorem zOu {A E:Nat→Rs Tr} {i:Nat} {r:Tr×Nat} (h:qK lg l A E i = .inl r):(hdE lg l i).any=true:=by
 unfold qK at h
 cases hh:hdE lg l i with
 | no=>rw[hh] at h;cases h
 | num n=>rfl
 | var n=>rfl
 | boo n=>rfl
 | sel n=>rfl
 | opn=>rfl
theorem sO {T:Nat→Rs Tr} {s:Nat→Option (Nod×Nat)} {N i:Nat} {r:Tr×Nat} (h:lopS T s N i = .inl r):∃q,T i = .inl q:=by
 obtain⟨a,j,h1,_⟩:=qG (b:=r.1) (m:=r.2) h;exact⟨_,h1⟩
theorem zQ0 {n N i:Nat} {r:Tr×Nat} (h:cmpS lg l N (qL nk lg l n) i = .inl r):(hdE lg l i).any=true:=by
 obtain⟨a,j,h1,_⟩:=qG (b:=r.1) (m:=r.2) h;obtain⟨q,h2⟩:=sO h1;obtain⟨q,h3⟩:=sO h2;obtain⟨q,h4⟩:=sO h3
 cases n with
 | zero=>rw[qL] at h4;cases h4
 | succ n=>rw[zO] at h4;exact zOu h4
theorem pM {i:Nat} (h:(hdE lg l i).any=true) {x:ByteArray} (hx:x=kFn∨x=kLet∨x=kIf∨x=kCase∨x=kFold∨x=kShut):key (tks l) i x=false:=by
 unfold hdE at h
 cases ht:l[i]? with
 | none=>rw[ht] at h;cases h
 | some t=>
  rw[ht] at h;unfold key;rw[kD,ht]
  show(decide (t.t.k=3)&&decide (t.t.s=x))=false
  by_cases h3:t.t.k=3
  ·by_cases hs:t.t.s=x
   ·exfalso
    have h:(hdT lg t).any=true:=h;unfold hdT at h;rw[if_pos h3,hs] at h
    rcases hx with rfl | rfl | rfl | rfl | rfl | rfl<;>cases h
   ·rw[decide_eq_false hs,Bool.and_false]
  ·rw[decide_eq_false h3,Bool.false_and]
theorem zZt {N i:Nat} {A E:Nat→Rs Tr} {M:Nat→Fr→Rs Fr} (h:(hdE lg l i).any=true):exprS nk lg l N A E M i=cmpS lg l N A i:=by
 unfold exprS;rw[pM h (by simp),pM h (by simp),pM h (by simp),pM h (by simp),pM h (by simp)]
 rfl
theorem pN {n i:Nat} {r:Tr×Nat} (h:exprF nk lg l n i = .inl r):key (tks l) i kShut=false:=by
 cases n with
 | zero=>rw[exprF] at h;cases h
 | succ n=>
  rw[kZ] at h;have hk:∀x,key (tks l) i x=true→¬x=kShut→key (tks l) i kShut=false:=fun x hx hne=>by
   unfold key at hx ⊢
   cases ht:(tks l)[i]? with
   | none=>rfl
   | some t=>
    rw[ht] at hx;simp only[Bool.and_eq_true,decide_eq_true_eq] at hx
    show(decide (t.k=3)&&decide (t.s=kShut))=false
    rw[hx.2,decide_eq_false hne,Bool.and_false]
  unfold exprS at h
  split at h
  ·exact hk _ ‹_› (by decide)
  ·split at h
   ·exact hk _ ‹_› (by decide)
   ·split at h
    ·exact hk _ ‹_› (by decide)
    ·split at h
     ·exact hk _ ‹_› (by decide)
     ·split at h
      ·exact hk _ ‹_› (by decide)
      ·exact pM (zQ0 h) (by simp)
end
section
variable {nk lg:ByteArray→Bool} {nb:Int→ByteArray}
theorem fD {α:Type} {a:α} {j j':Nat} (h:j=j'):(Sum.inl (a,j):Rs α) = .inl (a,j'):=by rw[h]
end
end Go.Proofs.YtbpijnalmakfaaaGreatDoor
namespace Go.Proofs.YtbpijnalmakfaaaGreatDoor
open Go.RowKit
theorem InT.pln {w:World} {S:Nat→Prop} {q p:Nat} {t:Tr} (h:InT w S (.pointer (some ⟨q,p,none⟩)) t):Pln w q:=by
 obtain⟨q',p',A,c,hv,_,hp,_⟩:=h;injection hv with hv;injection hv with hv;injection hv with hv;rw[hv];exact hp
theorem aY {a b:World} {r:Option Nat} (h:a.grownBy b r) (n:Nat):a.grownBy (b.drewN n) r:=yY h ⟨rfl,rfl,rfl,Nat.le_refl _,fun _ _ _=>rfl⟩
theorem zOv {w:World} {S S':Nat→Prop} {v:Value} {x y:Nod} {ks ls:Fr} (hU:∀{b o:Nat},ks.len=ls.len→InF w S ks b o→InF w S' ls b o→ks=ls)
  (h:Nd w S v x ks.len (InF w S ks)) (h':Nd w S' v y ls.len (InF w S' ls)):x=y∧ks=ls:=by
 obtain⟨q,p,A,c,e,_,_,h0,h1,h2,h3,h4,_,hk⟩:=h;obtain⟨q',p',A',c',e',_,_,h0',h1',h2',h3',h4',_,hk'⟩:=h';subst e;injection e' with e';injection e' with e';injection e' with e1 e2;subst e1 e2;have k0:x.k=y.k:=by rw[h0] at h0';injection h0' with h;injection h
 have k1:x.n=y.n:=by rw[h1] at h1';injection h1' with h;injection h
 have k2:x.a=y.a:=by rw[h2] at h2';injection h2' with h;injection h
 have k3:x.m=y.m:=by rw[h3] at h3';injection h3' with h;injection h
 rw[h4] at h4';injection h4' with h4';injection h4' with hA hl _;subst hA;refine⟨zW1 k0 k1 k2 k3,?_⟩
 rcases Nat.eq_zero_or_pos ks.len with hz | hp
 ·cases ks with
  | nil=>cases ls with
   | nil=>rfl
   | cons _ _ _=>simp[Fr.len] at hl
  | cons _ _ _=>simp[Fr.len] at hz
 ·obtain⟨kb,ko,hA1,_,hkk⟩:=hk hp
  obtain⟨kb',ko',hA2,_,hkk'⟩:=hk' (by omega);rw[hA1] at hA2;injection hA2 with hA2;injection hA2 with e1 e2;subst e1 e2;exact hU hl hkk hkk'
theorem InF.uniq {w:World} {S S':Nat→Prop}:∀{f g:Fr} {b o:Nat},f.len=g.len→InF w S f b o→InF w S' g b o→f=g
 | .nil,.nil,_,_,_,_,_=>rfl
 | .nil,.cons _ _ _,_,_,h,_,_=>by simp[Fr.len] at h
 | .cons _ _ _,.nil,_,_,h,_,_=>by simp[Fr.len] at h
 | .cons x ks rs,.cons y ls ss,b,o,hlen,h,h'=>by
  obtain⟨⟨v,hv,hn⟩,hr⟩:=h;obtain⟨⟨v',hv',hn'⟩,hr'⟩:=h';obtain rfl:v=v':=by rw[hv] at hv';injection hv'
  have hr2:rs=ss:=InF.uniq (f:=rs) (g:=ss) (by simp only[Fr.len] at hlen;omega) hr hr';obtain⟨e1,e2⟩:=zOv (fun hl h1 h2=>InF.uniq (f:=ks) (g:=ls) hl h1 h2) hn hn';rw[e1,e2,hr2]
theorem InT.uniq {w:World} {S S':Nat→Prop} {v:Value} {t u:Tr} (h:InT w S v t) (h':InT w S' v u):t=u:=by
 obtain⟨e1,e2⟩:=zOv (fun hl h1 h2=>InF.uniq hl h1 h2) h h';exact Prod.ext e1 e2
def Cm (w:World) (cb k:Nat):Prop:=w.heap[cb]? = some (.cells #[.int .i64 (k:Int),.map none] 95 (0,0))
theorem zK2 (cb k:Nat) (p:Array Value) (w:World) (h:Cm w cb k) (hk:k<65536) :
  Calls Tryz.prog 98 #[.pointer (some ⟨cb,0,none⟩),.agg p] w fun e w'=>e = .returned (.bool false)∧Cm w' cb (k+1)∧w.grownBy w' (some cb):=by
 have c0:=cell_of_row w cb 0 _ _ _ h;have f0:=frozen_of_row w cb 0 _ _ h;have hcb:=qC h;have h1:(k:Int)+1≤65536:=by omega
 have HC:=Lib.hid h;clear h
 go_enter Tryz.func98,Tryz.ntmps98
 go_wp2_with fail
 go_ret
 refine⟨rfl,?_,gJ (mI (jK w _) _ _ (.inr rfl)) _⟩;have e1:((k+1:Nat):Int)=(k:Int)+1:=by omega
 refine yF _ ?_;rw[e1,yU _ HC.out]
 rfl
def zQ1 (b:Bool) (cb k M:Nat) (w:World) (e:Ending) (w':World):Prop:=e = .returned (.bool b)∧(∃m,m≤M∧Cm w' cb (k+m))∧w.grownBy w' (some cb)
theorem mQ {b b':Bool} {cb k M m:Nat} {w w':World} (hb:b=b') (hm:m≤M) (h:Cm w' cb (k+m)) (hg:w.grownBy w' (some cb)):zQ1 b cb k M w (.returned (.bool b')) w':=⟨by rw[hb],⟨m,hm,h⟩,hg⟩
def zOw (n:Nat):Prop:=∀(t u:Tr),szT t≤n→∀(w:World) (Sq Sq':Nat→Prop) (v v':Value) (cb k:Nat),Bel Sq w.heap.size→Bel Sq' w.heap.size→¬Sq cb→¬Sq' cb→InT w Sq v t→InT w Sq' v' u→Cm w cb k→k+szT t≤65536→∀b:Bool,(b=true↔t=u)→
    Calls Tryz.prog 44 #[.pointer (some ⟨cb,0,none⟩),v,v'] w (zQ1 b cb k (szT t) w)
theorem Cm.drew {w:World} {cb k:Nat} (h:Cm w cb k) (q:Nat):Cm (w.drewN q) cb k:=h
theorem zK3 (n:Nat) (ih:zOw n) (ks ls:Fr) (hn:ks.sz≤n) (w:World) (Sq Sq':Nat→Prop) (A A':Option Addr) (c c' cb k:Nat) (hS:Bel Sq w.heap.size) (hS':Bel Sq' w.heap.size) (hcS:¬Sq cb) (hcS':¬Sq' cb)
  (hkid:Kid w Sq A ks 0) (hkid':Kid w Sq' A' ls 0) (hcm:Cm w cb k) (hk:k+ks.sz≤65536) (ANS:Bool) (hans:ANS=true↔ks=ls) :
  Calls Tryz.prog 99 #[.slice A ks.len c,.slice A' ls.len c',.func (.func 44) #[.pointer (some ⟨cb,0,none⟩)] #[]] w (zQ1 ANS cb k ks.sz w):=by
 have HA:=Lib.hid hans;have HK:=Lib.hid hkid;have HK':=Lib.hid hkid';have HIH:=Lib.hid ih;have HCM:=Lib.hid hcm;have HB:=Lib.hid hS;have HB':=Lib.hid hS';have HC:=Lib.hid hcS;have HC':=Lib.hid hcS';have hll:=Fr.len_le ks;obtain⟨N,hN⟩:∃N,ks.len=N:=⟨_,rfl⟩;obtain⟨M,hM⟩:∃M,ls.len=M:=⟨_,rfl⟩;obtain⟨Z,hZ⟩:∃Z,ks.sz=Z:=⟨_,rfl⟩;rw[hN,hZ] at hll;rw[hZ] at hk hn;rw[hN,hM,hZ];have HNN:=Lib.hid hN;have HMM:=Lib.hid hM;have HZ:=Lib.hid hZ;clear hans hkid hkid' ih hcm hS hS' hcS hcS' hN hM hZ
 by_cases d4:N=M
 ·subst d4
  go_enter Tryz.func99,Tryz.ntmps99
  go_wp2_with fail
  go_loopw [7,8,9,17] (fun _ _ _ i wr=>∃(j:Nat) (done r1 r2:Fr) (m:Nat),i = .int .i64 j∧j=done.len∧ks=done.app r1∧ls=done.app r2∧Kid wr Sq A r1 j∧Kid wr Sq' A' r2 j∧m≤done.sz∧Cm wr cb (k+m)∧w.grownBy wr (some cb)) (fun _ _ _ i _=>N-(intOf i).toNat)
  case atStart=>exact⟨0,.nil,ks,ls,0,rfl,rfl,rfl,rfl,HK.out,HK'.out,Nat.zero_le _,HCM.out,jK _ _⟩
  case round=>
   obtain⟨j,done,r1,r2,m,rfl,hj,hks,hls,hkid,hkid',hm,hcm,hgw⟩:=hrel;have hl:N=done.len+r1.len:=by rw[←HNN.out,hks,Fr.len_app]
   have hl':N=done.len+r2.len:=by rw[←HMM.out,hls,Fr.len_app]
   have hs:Z=done.sz+r1.sz:=by rw[←HZ.out,hks,Fr.sz_app]
   have hrw:=hgw.size;have HKS:=Lib.hid hks;have HLS:=Lib.hid hls
   by_cases hlt:0<r1.len
   ·obtain⟨y1,l1,s1,rfl⟩:=Fr.cut hlt
    obtain⟨y2,l2,s2,rfl⟩:=Fr.cut (f:=r2) (by omega);obtain⟨kb,ko,u1,rfl,hkb,hcell,hu1,hnext⟩:=hkid.next;obtain⟨kb',ko',u2,rfl,hkb',hcell',hu2,hnext'⟩:=hkid'.next;have hyl:szT (y1,l1)=1+l1.sz:=rfl;have hsr:(Fr.cons y1 l1 s1).sz=1+l1.sz+s1.sz:=rfl;have hlr:(Fr.cons y1 l1 s1).len=s1.len+1:=rfl;have hbr:Bel Sq wr.heap.size:=fun q h=>by have:=HB.out q h;omega
    have hbr':Bel Sq' wr.heap.size:=fun q h=>by have:=HB'.out q h;omega
    have hjz:(j:Int)<(N:Int):=by omega
    have hjN:j<N:=by omega
    have HSN:Hid (m+szT (y1,l1)≤(done.app (.cons y1 l1 .nil)).sz∧m+szT (y1,l1)≤Z):=Lib.hid (by rw[Fr.sz_app];simp only[Fr.sz];omega);have HLN:Hid (j+1=(done.app (.cons y1 l1 .nil)).len):=Lib.hid (by rw[Fr.len_app];simp only[Fr.len];omega);have HNX:Hid (∀w2,wr.grownBy w2 (some cb)→Kid w2 Sq (some ⟨kb,ko,none⟩) s1 (j+1)∧Kid w2 Sq' (some ⟨kb',ko',none⟩) s2 (j+1)):=Lib.hid fun w2 hw2=>⟨hnext.gb hbr HC.out hw2,hnext'.gb hbr' HC'.out hw2⟩
    have cI:=fun b hb=>HIH.out (y1,l1) (y2,l2) (by omega) wr Sq Sq' u1 u2 cb (k+m) hbr hbr' HC.out HC'.out hu1 hu2 hcm (by omega) b hb
    have HGW:=Lib.hid hgw;clear hkid hkid' hnext hnext' hu1 hu2 hks hls hj hl hl' hs hlr hsr hyl hbr hbr' hgw hcm
    by_cases heq:((y1,l1):Tr)=(y2,l2)
    ·have cI:=cI true ⟨fun _=>heq,fun _=>rfl⟩
     have HEQ:=Lib.hid heq;clear heq
     go_wp2_with (go_at_call 44;refine cI.mono ?_;rintro e w2 ⟨rfl,hc2,hg2⟩;have HC2:=Lib.hid hc2;have HG2:=Lib.hid hg2;clear hc2 hg2)
     go_roundw
     case rel=>
      obtain⟨m2,hm2,hc2⟩:=HC2.out;exact⟨j+1,done.app (.cons y1 l1 .nil),s1,s2,m+m2,by go_num,HLN.out,by rw[HKS.out,Fr.app_cons],by
       rw[HLS.out,Fr.app_cons];have:=HEQ.out;simp only[Prod.mk.injEq] at this;rw[this.1,this.2],(HNX.out _ HG2.out).1,(HNX.out _ HG2.out).2,by have:=HSN.out.1;omega,by rw[←Nat.add_assoc];exact hc2,yY HGW.out HG2.out⟩
     case measure=>simp[intOf];omega
    ·have cI:=cI false ⟨fun h=>(by cases h),fun h=>absurd h heq⟩
     have HE:Hid (ANS=false):=Lib.hid (yS HA.out fun e2=>heq (by
      rw[HKS.out,HLS.out] at e2;have e3:=Fr.app_inj done e2;simp only[Fr.cons.injEq] at e3;rw[e3.1,e3.2.1]))
     clear heq
     go_wp2_with (go_at_call 44;refine cI.mono ?_;rintro e w2 ⟨rfl,hc2,hg2⟩;have HC2:=Lib.hid hc2;have HG2:=Lib.hid hg2;clear hc2 hg2)
     go_ret
     obtain⟨m2,hm2,hc2⟩:=HC2.out;exact mQ (m:=m+m2) HE.out (by have:=HSN.out.2;omega) (by rw[←Nat.add_assoc];exact hc2) (yY HGW.out HG2.out)
   ·have h1:r1 = .nil:=by
     cases r1 with
     | nil=>rfl
     | cons y l r=>exact absurd (Nat.succ_pos _) hlt
    subst h1;have hl1:N=done.len:=by simpa [Fr.len] using hl
    have h2:r2 = .nil:=by
     cases r2 with
     | nil=>rfl
     | cons y l r=>simp only[Fr.len] at hl';omega
    subst h2;have hjz:¬(j:Int)<(N:Int):=by omega
    have HE:Hid (ANS=true):=Lib.hid (zT6 HA.out (by rw[HKS.out,HLS.out]));have HGW:=Lib.hid hgw;have HCR:=Lib.hid hcm;have hsn:(Fr.nil).sz=0:=rfl;have hmz:m≤Z:=by omega
    clear hkid hkid' hks hls hj hl hl' hl1 hs hgw hcm hsn;go_wp2_with fail
    go_ret
    exact mQ HE.out hmz HCR.out HGW.out
 ·have e4:((N:Int)==(M:Int))=false:=by rw[beq_eq_false_iff_ne];omega
  have f4:((N:Int) != (M:Int))=true:=by rw[bne_iff_ne];omega
  have HE:Hid (ANS=false):=Lib.hid (yS HA.out fun e=>d4 (by rw[←HNN.out,←HMM.out,e]));clear d4
  go_enter Tryz.func99,Tryz.ntmps99
  go_wp2_with fail
  go_ret
  exact mQ (m:=0) HE.out (Nat.zero_le _) HCM.out (jK _ _)
theorem zT7:∃j:TypeInfo,Tryz.prog.info? 57=some j∧j.size≠0:=by
 have h:(Tryz.prog.info? 57).map (·.size)=some 5:=by kernel_rfl
 obtain⟨j,hj,hs⟩:=Option.map_eq_some_iff.1 h;exact⟨j,hj,by omega⟩
theorem zK4 {w:World} {a b:Addr} (hne:a≠b) (ha:Pln w a.block) (hb:Pln w b.block):(binOp .eql 24 (.pointer (some a)) (.pointer (some b))).run Tryz.prog w = .ok (.bool false) w:=by
 obtain⟨j,hj,hs⟩:=zT7;obtain⟨ca,ta,ha⟩:=ha;obtain⟨cb,tb,hb⟩:=hb;exact run_eql_ptr_other w Tryz.underlying24 hj hs hne ha hb
theorem zFy (w:World) (a:Addr):(binOp .eql 24 (.pointer (some a)) (.pointer (some a))).run Tryz.prog w = .ok (.bool true) w:=by
 obtain⟨j,hj,hs⟩:=zT7;exact run_eql_ptr_same w a Tryz.underlying24 hj
theorem zZu:∀n,n≤65536→zOw n
 | 0,_=>fun t _ h=>absurd h (by unfold szT;omega)
 | n+1,hbig=>by
  have ih:=zZu n (by omega);rintro⟨x,ks⟩ ⟨y,ls⟩ hn w Sq Sq' v v' cb k hS hS' hcS hcS' hin hin' hcm hk ANS hans;have huq:v=v'→ANS=true:=fun e=>hans.2 (by subst e;exact hin.uniq hin')
  obtain⟨q,p,A,c,rfl,hq1,c0,c1,c2,c3,c4,hc,hkid⟩:=hin.open;obtain⟨q',p',A',c',rfl,hq1',c0',c1',c2',c3',c4',hc',hkid'⟩:=hin'.open
  by_cases hsame:q=q'∧p=p'
  ·obtain⟨rfl,rfl⟩:=hsame
   have HE:Hid (ANS=true):=Lib.hid (huq rfl);have heq:=zFy w ⟨q,p,none⟩;clear huq hans ih hin hin' hkid hkid'
   go_enter Tryz.func44,Tryz.ntmps44
   go_wp2_with fail
   go_ret
   exact mQ (m:=0) HE.out (Nat.zero_le _) hcm (jK _ _)
  ·have heq:=zK4 (w:=w) (a:=⟨q,p,none⟩) (b:=⟨q',p',none⟩) (fun e=>hsame (by injection e with e1 e2;exact⟨e1,e2⟩)) hin.pln hin'.pln
   have hq:=yM c4;have hqq:=yM c4';have hcb:=qC hcm;have HA:=Lib.hid hans;have HIH:=Lib.hid ih;have HCM:=Lib.hid hcm;have HK:=Lib.hid hkid;have HK':=Lib.hid hkid';have HB:=Lib.hid hS;have HB':=Lib.hid hS';have HC:=Lib.hid hcS;have HC':=Lib.hid hcS';have hqc:q≠cb:=fun e=>hcS (by rw[←e];exact hq1)
   have hqc':q'≠cb:=fun e=>hcS' (by rw[←e];exact hq1')
   have hsz:szT (x,ks)=1+ks.sz:=rfl;obtain⟨Z,hZ⟩:∃Z,szT (x,ks)=Z:=⟨_,rfl⟩;rw[hZ] at hn hk hsz ⊢;obtain⟨N,hN⟩:∃N,ks.len=N:=⟨_,rfl⟩;obtain⟨M,hM⟩:∃M,ls.len=M:=⟨_,rfl⟩;rw[hN] at c4 hc;rw[hM] at c4' hc';have HNN:=Lib.hid hN;have HMM:=Lib.hid hM;have HSZ:=Lib.hid hsz;have hk1:k<65536:=by omega
   clear huq hans ih hin hin' hcm hkid hkid' hS hS' hcS hcS' hsz hZ hN hM hsame
   by_cases d0:x.k=y.k
   ·by_cases d1:x.n=y.n
    ·by_cases d2:x.a=y.a
     ·by_cases d3:x.m=y.m
      ·have HXY:=Lib.hid (zW1 d0 d1 d2 d3)
       obtain⟨e0,f0⟩:=xY d0;obtain⟨e1,f1⟩:=xY d1;obtain⟨e2,f2⟩:=sH d2;obtain⟨e3,f3⟩:=sH d3;have HANS:Hid (ANS=true↔ks=ls):=Lib.hid (HA.out.trans ⟨fun e=>(Prod.mk.inj e).2,fun e=>by rw[e,HXY.out]⟩);have cA:=fun W (h:Cm W cb k)=>zK2 cb k #[.pointer (some ⟨q,p,none⟩),.pointer (some ⟨q',p',none⟩)] W h hk1
       have cE:=fun W (hg:w.grownBy W (some cb)) (h:Cm W cb (k+1))=>zK3 n HIH.out ks ls (by have:=HSZ.out;omega) W Sq Sq' A A' c c' cb (k+1) (fun q h=>by have:=HB.out q h;have:=hg.size;omega) (fun q h=>by have:=HB'.out q h;have:=hg.size;omega) HC.out HC'.out (HK.out.gb HB.out HC.out hg) (HK'.out.gb HB'.out HC'.out hg) h (by have:=HSZ.out;omega) ANS HANS.out
       rw[HNN.out,HMM.out] at cE;have HCA:=Lib.hid cA;have HCE:=Lib.hid cE;clear d0 d1 d2 d3 cA cE
       go_enter Tryz.func44,Tryz.ntmps44
       go_wp2_with fail
       go_quiet (fail)
       go_wp2_with fail
       go_region_held3 (fun w'=>w'.cell? ⟨q,p+4,none⟩=some (.slice A N c)∧w'.cell? ⟨q',p'+4,none⟩=some (.slice A' M c')) (go_keep)
        (first
         | (go_at_call 98;refine(HCA.out _ (by exact HCM.out)).mono ?_;rintro e w2 ⟨rfl,hc2,hg2⟩;have hgw:w.grownBy w2 (some cb):=⟨hg2.os,hg2.tape,hg2.output,hg2.size,hg2.block⟩;have k4:=tV hgw c4 hqc;have k4':=tV hgw c4' hqc';have HC2:=Lib.hid hc2;have HG2:=Lib.hid hgw;clear hc2 hg2 hgw)
         | (go_at_call 99;refine(HCE.out _ (by exact⟨HG2.out.os,HG2.out.tape,HG2.out.output,HG2.out.size,HG2.out.block⟩) (by exact HC2.out)).mono ?_;rintro e w3 ⟨rfl,hc3,hg3⟩;have hgw:w.grownBy w3 (some cb):=yY HG2.out ⟨hg3.os,hg3.tape,hg3.output,hg3.size,hg3.block⟩;have m4:=tV hgw c4 hqc;have m4':=tV hgw c4' hqc';have HC3:=Lib.hid hc3;have HG3:=Lib.hid hgw;clear hc3 hg3 hgw))
       go_wp2_with fail
       go_ret
       obtain⟨m3,hm3,hc3⟩:=HC3.out;exact mQ (m:=1+m3) rfl (by have:=HSZ.out;omega) (by rw[←Nat.add_assoc];exact hc3) HG3.out
      ·obtain⟨e0,f0⟩:=xY d0
       obtain⟨e1,f1⟩:=xY d1;obtain⟨e2,f2⟩:=sH d2;obtain⟨e3,f3⟩:=iL d3;have HE:Hid (ANS=false):=Lib.hid (yS HA.out fun e=>d3 (by rw[(Prod.mk.inj e).1]));clear d0 d1 d2 d3
       go_enter Tryz.func44,Tryz.ntmps44
       go_wp2_with fail
       go_quiet (fail)
       go_wp2_with fail
       go_ret
       exact mQ (m:=0) HE.out (Nat.zero_le _) (HCM.out.drew _) (aY (jK _ _) _)
     ·obtain⟨e0,f0⟩:=xY d0
      obtain⟨e1,f1⟩:=xY d1;obtain⟨e2,f2⟩:=iL d2;have HE:Hid (ANS=false):=Lib.hid (yS HA.out fun e=>d2 (by rw[(Prod.mk.inj e).1]));clear d0 d1 d2
      go_enter Tryz.func44,Tryz.ntmps44
      go_wp2_with fail
      go_quiet (fail)
      go_wp2_with fail
      go_ret
      exact mQ (m:=0) HE.out (Nat.zero_le _) (HCM.out.drew _) (aY (jK _ _) _)
    ·obtain⟨e0,f0⟩:=xY d0
     obtain⟨e1,f1⟩:=zW0 d1;have HE:Hid (ANS=false):=Lib.hid (yS HA.out fun e=>d1 (by rw[(Prod.mk.inj e).1]));clear d0 d1
     go_enter Tryz.func44,Tryz.ntmps44
     go_wp2_with fail
     go_quiet (fail)
     go_wp2_with fail
     go_ret
     exact mQ (m:=0) HE.out (Nat.zero_le _) (HCM.out.drew _) (aY (jK _ _) _)
   ·obtain⟨e0,f0⟩:=zW0 d0
    have HE:Hid (ANS=false):=Lib.hid (yS HA.out fun e=>d0 (by rw[(Prod.mk.inj e).1]));clear d0
    go_enter Tryz.func44,Tryz.ntmps44
    go_wp2_with fail
    go_quiet (fail)
    go_wp2_with fail
    go_ret
    exact mQ (m:=0) HE.out (Nat.zero_le _) (HCM.out.drew _) (aY (jK _ _) _)
theorem zW2 (w:World) (a:Addr):(binOp .eql 24 (.pointer none) (.pointer (some a))).run Tryz.prog w = .ok (.bool false) w:=by
 have h:∀d:Nat,(Op.equalIn (d+1) 24 (.pointer none) (.pointer (some a))).run Tryz.prog w = .ok false w:=fun d=>by simp[Op.equalIn,run_underlying Tryz.underlying24]
 simp only[binOp]
 simp[Op.equal,Op.maxDepth,h 9999]
theorem uN (w:World) (a:Addr):(binOp .eql 24 (.pointer (some a)) (.pointer none)).run Tryz.prog w = .ok (.bool false) w:=by
 have h:∀d:Nat,(Op.equalIn (d+1) 24 (.pointer (some a)) (.pointer none)).run Tryz.prog w = .ok false w:=fun d=>by simp[Op.equalIn,run_underlying Tryz.underlying24]
 simp only[binOp]
 simp[Op.equal,Op.maxDepth,h 9999]
def yVy (b:Bool) (w:World) (e:Ending) (w':World):Prop:=e = .returned (.bool b)∧Below w.heap.size w w'
theorem yVz (t u:Option Tr) (hno:t=none∨u=none) (cb:Nat) (w:World) (Sq Sq':Nat→Prop) (v v':Value) (hin:InO w Sq v t) (hin':InO w Sq' v' u) (b:Bool) (hb:b=true↔t=u) :
  Calls Tryz.prog 44 #[.pointer (some ⟨cb,0,none⟩),v,v'] w fun e w'=>e = .returned (.bool b)∧∃n,w'=w.drewN n:=by
 cases t with
 | none=>
  have hv:v = .pointer none:=hin;subst hv
  cases u with
  | none=>
   have hv:v' = .pointer none:=hin';subst hv;have HE:Hid (b=true):=Lib.hid (hb.2 rfl);clear hb hin hin' hno
   go_enter Tryz.func44,Tryz.ntmps44
   go_wp2_with fail
   go_ret
   exact vK HE.out ⟨0,rfl⟩
  | some u=>
   obtain⟨q,p,rfl⟩:=InT.ptr hin';have HE:Hid (b=false):=Lib.hid (yS hb (by simp));have heq:=zW2 w ⟨q,p,none⟩;clear hb hin hin' hno
   go_enter Tryz.func44,Tryz.ntmps44
   go_wp2_with fail
   go_quiet (fail)
   go_wp2_with fail
   go_ret
   exact vK HE.out ⟨_,rfl⟩
 | some t=>
  obtain rfl:u=none:=hno.resolve_left (by simp);have hv:v' = .pointer none:=hin';subst hv;obtain⟨q,p,rfl⟩:=InT.ptr hin;have HE:Hid (b=false):=Lib.hid (yS hb (by simp));have heq:=uN w ⟨q,p,none⟩;clear hb hin hin' hno
  go_enter Tryz.func44,Tryz.ntmps44
  go_wp2_with fail
  go_quiet (fail)
  go_wp2_with fail
  go_ret
  exact vK HE.out ⟨_,rfl⟩
theorem yU0 (t u:Option Tr) (w:World) (Sq Sq':Nat→Prop) (v v':Value) (hS:Bel Sq w.heap.size) (hS':Bel Sq' w.heap.size) (hin:InO w Sq v t) (hin':InO w Sq' v' u) (hsz:szO t≤65536) (b:Bool) (hb:b=true↔t=u) :
  Calls Tryz.prog 21 #[v,v'] w (yVy b w):=by
 obtain⟨H,hH⟩:∃H,w.heap.size=H:=⟨_,rfl⟩;have hbel:=(Below.refl w.heap.size w).alloc (Nat.le_refl _) (.cells #[.int .i64 0,.map none] 95);have key:Calls Tryz.prog 44 #[.pointer (some ⟨H,0,none⟩),v,v'] (w.alloc (.cells #[.int .i64 0,.map none] 95)) fun e w'=>e = .returned (.bool b)∧Below w.heap.size w w':=by
  by_cases hno:t=none∨u=none
  ·refine(yVz t u hno H _ Sq Sq' v v' (hin.below hS hbel) (hin'.below hS' hbel) b hb).mono ?_
   rintro e w' ⟨rfl,n,rfl⟩;exact⟨rfl,qF hbel n⟩
  ·cases t with
   | none=>exact absurd (.inl rfl) hno
   | some t=>
    cases u with
    | none=>exact absurd (.inr rfl) hno
    | some u=>
     have hs1:(w.alloc (.cells #[.int .i64 0,.map none] 95)).heap.size=H+1:=by simp;omega
     have hszt:szO (some t)=szT t:=rfl;refine(zZu 65536 (Nat.le_refl _) t u (by omega) _ Sq Sq' v v' H 0 (fun q h=>by have:=hS q h;omega) (fun q h=>by have:=hS' q h;omega) (fun h=>by have:=hS _ h;omega) (fun h=>by have:=hS' _ h;omega) (InT.below hin hS hbel) (InT.below hin' hS' hbel) (by rw[←hH];exact heap_alloc_new w _) (by omega) b (by rw[hb];simp)).mono ?_;rintro e w' ⟨rfl,-,hg⟩;exact⟨rfl,zPy hbel hg (by omega) fun g h=>by injection h with h;omega⟩
 rw[←hH] at key;clear hin hin' hS hS' hbel hb hsz hH
 go_enter Tryz.func21,Tryz.ntmps21
 go_wp2_with fail;refine key.mono ?_;rintro e w1 ⟨rfl,hb1⟩;go_wp2_with fail
 go_ret
 exact⟨rfl,hb1⟩
theorem uSame (o o':Option Tr) {W w:World} {v v':Value} (h:HasT W v o) (h':HasT W v' o') (hz:szO o≤65536) (b:Bool) (hb:b=true↔o=o') (u:Up W w) :
  Calls Tryz.prog 21 #[v,v'] w (BoP b W):=
 (yU0 o o' w _ _ v v' HasT.bel HasT.bel (h.up u) (h'.up u) hz b hb).mono fun _ _ k=>⟨k.1,u.of k.2⟩
end Go.Proofs.YtbpijnalmakfaaaGreatDoor
