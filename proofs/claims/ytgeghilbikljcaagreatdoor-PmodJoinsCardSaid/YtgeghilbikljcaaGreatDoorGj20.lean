/-
  Layer 6, the program's Key, Name, Long, of any tokens at any place; then Type and Cons.
-/
import Derived.Test.YtgeghilbikljcaaGreatDoorGj17
set_option maxHeartbeats 40000000
set_option maxRecDepth 100000
namespace Go.Proofs.YtgeghilbikljcaaGreatDoor
open Go.RowKit
def ber (k:Int) (l:List Tk) (i:Nat):Option ByteArray:=match l[i]? with
 | some t=>if t.k=k then some t.s else none
 | none=>none
def berZ (k:Int) (l:List Tk) (i:Int):Option ByteArray:=if 0<=i then ber k l i.toNat else none
theorem zKu {k:Int} {l:List Tk} {i:Nat} {s:ByteArray} (hz:∀t∈l,t.s.size<=1000000000) (h:ber k l i=some s):s.size<=1000000000:=by
 unfold ber at h
 split at h
 ·rename_i t ht
  split at h
  ·rw[<- Option.some.inj h];exact hz t (List.mem_of_getElem? ht)
  ·cases h
 ·cases h
theorem iF (p:ByteArray->Bool) (l:List Tk) (i:Int):namZ p l i=(match berZ 1 l i with
  | some s=>if p s then some s else none
  | none=>none):=by
 unfold namZ berZ ber nam
 by_cases h:0<=i
 ·rw[if_pos h,if_pos h]
  cases l[i.toNat]? with
  | none=>rfl
  | some t=>
   simp only
   by_cases h3:t.k=1
   ·rw[decide_eq_true h3,if_pos h3,Bool.true_and]
   ·rw[decide_eq_false h3,if_neg h3,Bool.false_and];rfl
 ·rw[if_neg h,if_neg h]
theorem zWf (l:List Tk) (i:Int) (x:ByteArray) (w:World) (v:Value) (hv:Tkm w v l) :
  Calls Tryz.prog 114 #[v,.int .i64 i,.string x] w (BoU (keyZ l i x) w):=by
 obtain⟨A,c,rfl,hc⟩:=hv;obtain⟨n,hn⟩:∃n,l.length=n:=⟨_,rfl⟩;rw[hn]
 by_cases h0:0<=i
 ·obtain⟨k,rfl⟩:=Int.eq_ofNat_of_zero_le h0
  by_cases hk:k<n
  ·obtain⟨t,ht⟩:∃t,l[k]? = some t:=⟨_,List.getElem?_eq_getElem (by rw[hn];exact hk)⟩
   obtain⟨b,o,rfl,hb,c0,c1⟩:=hc k t ht;have hki:(k:Int)<(n:Int):=by omega
   have HE:Hid (keyZ l (k:Int) x=(decide (t.k=3)&&decide (t.s=x))):=Lib.hid (by unfold keyZ;rw[decide_eq_true h0,Int.toNat_natCast];unfold key;rw[ht];rfl);rw[HE.out];clear hc ht hn HE
   by_cases h3:t.k=3
   ·rw[decide_eq_true h3,Bool.true_and]
    go_enter Tryz.func114,Tryz.ntmps114
    go_wp2_with fail
    go_ret
    exact vF (zLh _ _).symm (Up.refl _)
   ·rw[decide_eq_false h3,Bool.false_and]
    go_enter Tryz.func114,Tryz.ntmps114
    go_wp2_with fail
    go_ret
    exact vF rfl (Up.refl _)
  ·have hki:¬(k:Int)<(n:Int):=by omega
   have HE:Hid (keyZ l (k:Int) x=false):=Lib.hid (by unfold keyZ;rw[Int.toNat_natCast,zR (by omega),Bool.and_false]);rw[HE.out]
   go_enter Tryz.func114,Tryz.ntmps114
   go_wp2_with fail
   go_ret
   exact vF rfl (Up.refl _)
 ·have HE:Hid (keyZ l i x=false):=Lib.hid (by unfold keyZ;rw[decide_eq_false h0,Bool.false_and])
  rw[HE.out]
  go_enter Tryz.func114,Tryz.ntmps114
  go_wp2_with fail
  go_ret
  exact vF rfl (Up.refl _)
theorem zRs (l:List Tk) (i:Int) (x:ByteArray) (w:World) (v:Value) (hv:Tkm w v l) :
  Calls Tryz.prog 117 #[v,.int .i64 i,.string x] w (BoU (keyZ l i x) w):=by
 have cB:=zWf l i x w v hv;clear hv
 generalize keyZ l i x=d at cB ⊢
 go_enter Tryz.func117,Tryz.ntmps117
 go_wp2_with fail;refine cB.mono ?_;rintro e w1 ⟨rfl,u1⟩;go_wp2_with fail
 go_ret
 exact vF rfl u1
theorem bT (l:List Tk) (i:Int) (w:World) (v:Value) (hv:Tkm w v l) (hz:∀t∈l,t.s.size<=1000000000) (hx:B.Nx w) :
  Calls Tryz.prog 45 #[v,.int .i64 i] w (NaP (namZ B.long l i) w):=by
 obtain⟨A,c,rfl,hc⟩:=hv;obtain⟨n,hn⟩:∃n,l.length=n:=⟨_,rfl⟩;rw[hn]
 by_cases h0:0<=i
 ·obtain⟨k,rfl⟩:=Int.eq_ofNat_of_zero_le h0
  have h0':¬(k:Int)<0:=by omega
  by_cases hk:k<n
  ·obtain⟨t,ht⟩:∃t,l[k]? = some t:=⟨_,List.getElem?_eq_getElem (by rw[hn];exact hk)⟩
   obtain⟨b,o,rfl,hb,c0,c1⟩:=hc k t ht;have hs:t.s.size<=1000000000:=hz t (List.mem_of_getElem? ht);have hki:¬(n:Int)<=(k:Int):=by omega
   have HE:Hid (namZ B.long l (k:Int)=if decide (t.k=1)&&B.long t.s then some t.s else none):=Lib.hid (by unfold namZ;rw[if_pos h0,Int.toNat_natCast];unfold nam;rw[ht]);rw[HE.out];have HX:=Lib.hid hx;clear hc ht hn HE hz hx
   by_cases h3:t.k=1
   ·have cC:=fun(W:World) (u:Up w W)=>B.zS0 t.s W hs (Nx.up HX.out u)
    have c0u:∀u:Upw w,u.w.cell? ⟨b,o+k*4,none⟩=some (.int .i64 t.k):=Upw.cell c0;have c1u:∀u:Upw w,u.w.cell? ⟨b,o+k*4+1,none⟩=some (.string t.s):=Upw.cell c1;obtain⟨p,hp⟩:∃p,B.long t.s=p:=⟨_,rfl⟩;rw[hp] at cC;have HE2:Hid ((if decide (t.k=1)&&B.long t.s then some t.s else none:Option ByteArray)=if p then some t.s else none):=Lib.hid (by rw[hp,decide_eq_true h3,Bool.true_and]);rw[HE2.out];clear hp HE2;rw[h3] at c0 c0u
    cases p
    ·go_enter Tryz.func45,Tryz.ntmps45
     go_wp2_with fail;refine(cC w (Up.refl w)).mono ?_;rintro e w2 ⟨rfl,u2⟩;go_wp2_with fail
     go_ret2
     exact⟨rfl,u2⟩
    ·go_enter Tryz.func45,Tryz.ntmps45
     go_wp2_with fail;refine(cC w (Up.refl w)).mono ?_;rintro e w2 ⟨rfl,u2⟩;have c9:=(show Up w w2 from u2).cell c1;go_wp2_with fail
     go_ret2
     exact⟨rfl,u2⟩
   ·rw[decide_eq_false h3,Bool.false_and]
    go_enter Tryz.func45,Tryz.ntmps45
    go_wp2_with fail
    go_ret2
    exact⟨rfl,Up.refl _⟩
  ·have hki:(n:Int)<=(k:Int):=by omega
   have HE:Hid (namZ B.long l (k:Int)=none):=Lib.hid (by unfold namZ;rw[if_pos h0,Int.toNat_natCast];unfold nam;rw[List.getElem?_eq_none (by omega)]);rw[HE.out]
   go_enter Tryz.func45,Tryz.ntmps45
   go_wp2_with fail
   go_ret2
   exact⟨rfl,Up.refl _⟩
 ·have HE:Hid (namZ B.long l i=none):=Lib.hid (by unfold namZ;rw[if_neg h0])
  have h0':i<0:=by omega
  rw[HE.out]
  go_enter Tryz.func45,Tryz.ntmps45
  go_wp2_with fail
  go_ret2
  exact⟨rfl,Up.refl _⟩
theorem zU0 (l:List UInt8):(0<=Lib.index l [46])↔(46:UInt8)∈l:=by
 induction l with
 | nil=>
  have e:Lib.index [] [46] = -1:=rfl;rw[e]
  constructor
  ·intro h;omega
  ·intro h;cases h
 | cons b r ih=>
  have hge:=Lib.index_ge r [46]
  by_cases hb:(46:UInt8)=b
  ·subst hb
   have e:Lib.index (46::r) [46]=0:=rfl;rw[e];exact⟨fun _=>List.mem_cons_self,fun _=>Int.le_refl 0⟩
  ·have hp:([46]:List UInt8).isPrefixOf (b::r)=false:=by
    show((46:UInt8)==b&&([]:List UInt8).isPrefixOf r)=false
    rw[beq_eq_false_iff_ne.2 hb,Bool.false_and]
   have e:Lib.index (b::r) [46]=(if Lib.index r [46] == -1 then -1 else Lib.index r [46]+1):=by
    show(if ([46]:List UInt8).isPrefixOf (b::r) then 0 else _)=_
    rw[hp];rfl
   rw[e];have hm:(46:UInt8)∈b::r↔(46:UInt8)∈r:=by
    rw[List.mem_cons];exact⟨fun h=>h.resolve_left hb,Or.inr⟩
   rw[hm,<- ih]
   by_cases h1:Lib.index r [46] = -1
   ·rw[h1]
    simp
   ·rw[if_neg (by simpa using h1)]
    omega
theorem zRt (s:ByteArray):Lib.contains s.data.toList (⟨#[46]⟩:ByteArray).data.toList=decide ((46:UInt8)∈s.data.toList):=by
 unfold Lib.contains;exact decide_eq_decide.2 (zU0 _)
theorem zYp (s:ByteArray):B.nck s=(B.long s && !decide ((46:UInt8)∈s.data.toList)):=by
 by_cases hd:(46:UInt8)∈s.data.toList
 ·rw[decide_eq_true hd,Bool.not_true,Bool.and_false]
  cases hn:B.nck s with
  | false=>rfl
  | true=>exact absurd hd (B.zO3 hn)
 ·have hp:B.pc s=[s]:=by
   unfold B.pc;rw[B.oJ hd]
   show[B.tx s.data.toList]=[s]
   rw[B.zMb]
  rw[decide_eq_false hd,Bool.not_false,Bool.and_true]
  cases hn:B.nck s with
  | true=>
   refine(B.pR.2 ⟨?_,?_⟩).symm
   ·have:=(B.oO hn).2;omega
   ·rw[hp];simp[hn]
  | false=>
   cases hl:B.long s with
   | false=>rfl
   | true=>
    have:=(B.pR.1 hl).2;rw[hp] at this
    simp[hn] at this
theorem zRu (l:List Tk) (i:Int):namZ B.nck l i=(match namZ B.long l i with
  | some s=>if decide ((46:UInt8)∈s.data.toList) then none else some s
  | none=>none):=by
 rw[iF,iF]
 cases berZ 1 l i with
 | none=>rfl
 | some s=>
  simp only;rw[zYp]
  cases B.long s with
  | false=>rfl
  | true=>
   rw[Bool.true_and]
   show(if (!decide ((46:UInt8)∈s.data.toList))=true then some s else none)=(if decide ((46:UInt8)∈s.data.toList)=true then none else some s)
   cases decide ((46:UInt8)∈s.data.toList)<;>rfl
theorem zU1 (l:List Tk) (i:Int) (w:World) (v:Value) (hv:Tkm w v l) (hz:∀t∈l,t.s.size<=1000000000) (hx:B.Nx w) :
  Calls Tryz.prog 75 #[v,.int .i64 i] w (NaP (namZ B.nck l i) w):=by
 have cL:=bT l i w v hv hz hx;have HE:=Lib.hid (zRu l i);have hsz:∀s,namZ B.long l i=some s->s.size<=1000000000:=fun s h=>by
  rw[iF] at h;unfold berZ at h
  split at h
  ·rename_i t ht
   split at ht
   ·split at h
    ·rw[<- Option.some.inj h];exact zKu hz ht
    ·cases h
   ·cases ht
  ·cases h
 rw[HE.out];have HX:=Lib.hid hx;have cC:=fun(s:ByteArray) (hs:s.size<=1000000000) (W:World) (u:Up w W)=>(show Calls Tryz.prog 121 #[.string s,.string ⟨#[46]⟩] W (fun e w'=>e = .returned (.bool (decide ((46:UInt8)∈s.data.toList)))/\w'=W) from by
  obtain⟨m,hm⟩:=(Nx.up HX.out u).2;rw[<- zRt];exact Tryz.strings_Contains s ⟨#[46]⟩ m W (by omega) hm)
 clear hv HE hz hx HX
 cases hb:namZ B.long l i with
 | none=>
  rw[hb] at cL;have cN:=cC ⟨#[]⟩ (by decide);clear hb hsz cC
  go_enter Tryz.func75,Tryz.ntmps75
  go_wp2_with fail;refine cL.mono ?_;rintro e w1 ⟨rfl,u1⟩;go_wp2_with fail;refine(cN w1 u1).mono ?_;rintro e w2 ⟨rfl,rfl⟩;go_wp2_with fail
  go_ret2
  exact⟨rfl,u1⟩
 | some s=>
  have cN:=cC s (hsz s hb);rw[hb] at cL;obtain⟨p,hp⟩:∃p,decide ((46:UInt8)∈s.data.toList)=p:=⟨_,rfl⟩;rw[hp] at cN;simp only[hp];clear hb hsz hp cC
  cases p
  ·go_enter Tryz.func75,Tryz.ntmps75
   go_wp2_with fail;refine cL.mono ?_;rintro e w1 ⟨rfl,u1⟩;go_wp2_with fail;refine(cN w1 u1).mono ?_;rintro e w2 ⟨rfl,rfl⟩;go_wp2_with fail
   go_ret2
   exact⟨rfl,u1⟩
  ·go_enter Tryz.func75,Tryz.ntmps75
   go_wp2_with fail;refine cL.mono ?_;rintro e w1 ⟨rfl,u1⟩;go_wp2_with fail;refine(cN w1 u1).mono ?_;rintro e w2 ⟨rfl,rfl⟩;go_wp2_with fail
   go_ret2
   exact⟨rfl,u1⟩
theorem mE {W0:World} {v:Value} {l:List Tk} (hv:Tkm W0 v l) (hz:∀t∈l,t.s.size<=1000000000) (hx:B.Nx W0):Toks B.nck B.long W0 v l:=⟨fun i x w u=>by
  have h:=zWf l (i:Int) x w v (hv.up u);have e:keyZ l (i:Int) x=key l i x:=by unfold keyZ;rw[decide_eq_true (by omega),Int.toNat_natCast,Bool.true_and]
  rw[e] at h;exact h,fun i w u=>by
  have h:=zU1 l (i:Int) w v (hv.up u) hz (Nx.up hx u);have e:namZ B.nck l (i:Int)=nam B.nck l i:=by unfold namZ;rw[if_pos (by omega),Int.toNat_natCast]
  rw[e] at h;exact h,fun i w u=>by
  have h:=bT l (i:Int) w v (hv.up u) hz (Nx.up hx u);have e:namZ B.long l (i:Int)=nam B.long l i:=by unfold namZ;rw[if_pos (by omega),Int.toNat_natCast]
  rw[e] at h;exact h⟩
theorem tyLit (b:Nat) (P:Option Addr->World->Prop) (w:World) (cA:Calls Tryz.prog 124 #[.agg #[.pointer (some ⟨b,0,none⟩)]] w fun e w'=>∃A,e = .returned (.pointer A)/\P A w') :
  Calls Tryz.prog 123 #[.pointer (some ⟨b,0,none⟩)] w fun e w'=>∃A,e = .returned (.pointer A)/\P A w':=by
 go_enter Tryz.func123,Tryz.ntmps123
 go_wp2_with fail;refine cA.mono ?_;rintro en w1 ⟨A,rfl,h⟩;have H:=Lib.hid h;clear h;go_wp2_with fail
 go_ret
 exact⟨A,rfl,H.out⟩
theorem coLit (b:Nat) (P:Value->World->Prop) (w:World) (cA:Calls Tryz.prog 164 #[.agg #[.pointer (some ⟨b,0,none⟩)]] w fun e w'=>∃v,e = .returned v/\P v w') :
  Calls Tryz.prog 163 #[.pointer (some ⟨b,0,none⟩)] w fun e w'=>∃v,e = .returned v/\P v w':=by
 go_enter Tryz.func163,Tryz.ntmps163
 go_wp2_with fail;refine cA.mono ?_;rintro en w1 ⟨v,rfl,h⟩;have H:=Lib.hid h;clear h;go_wp2_with fail
 go_ret
 exact⟨v,rfl,H.out⟩
def parW (w:World) (v:Value) (i:Nat):World:=w.alloc (.cells #[v,.int .i64 (i:Int),.int .i64 0] 67)
theorem mF (w:World) (v:Value) (i:Nat):Up w (parW w v i):=(Up.refl w).alloc _
theorem wH (w:World) (v:Value) (i:Nat):Psr (parW w v i) w.heap.size v i 0:=heap_alloc_new w _
theorem wJ (A:Option Addr) (n c:Nat) (i:Int) (F:Value) (w:World) (h:i<0\/(n:Int)<i) :
  Calls Tryz.prog 19 #[.slice A n c,.int .i64 i,F] w fun e w'=>e = .returned (.tuple #[.pointer none,.int .i64 0,.int .i64 2])/\Up w w':=by
 by_cases h0:i<0
 ·go_enter Tryz.func19,Tryz.ntmps19
  go_wp2_with fail
  go_ret3
  exact⟨rfl,Up.refl _⟩
 ·have h1:(n:Int)<i:=by omega
  clear h
  go_enter Tryz.func19,Tryz.ntmps19
  go_wp2_with fail
  go_ret3
  exact⟨rfl,Up.refl _⟩
theorem wK (A:Option Addr) (n c:Nat) (i p:Nat) (r:Int) (k:FuncId) (hE:EntF k) (w:World) (hi:i<=n) (hr:¬r=0)
  (cR:Calls Tryz.prog k #[.pointer (some ⟨w.heap.size,0,none⟩)] (parW w (.slice A n c) i) fun e w'=>(∃u,e = .returned u)/\Up w w'/\Psr w' w.heap.size (.slice A n c) p r) :
  Calls Tryz.prog 19 #[.slice A n c,.int .i64 (i:Int),.func (.func k) #[] #[]] w fun e w'=>e = .returned (.tuple #[.pointer none,.int .i64 (p:Int),.int .i64 r])/\Up w w':=by
 have h0:¬(i:Int)<0:=by omega
 have h1:¬(n:Int)<(i:Int):=by omega
 have HE:=Lib.hid hE;have HW:Hid (parW w (.slice A n c) i=w.alloc (.cells #[.slice A n c,.int .i64 (i:Int),.int .i64 0] 67)):=Lib.hid rfl;have HC:=Lib.hid cR;clear cR hE
 go_enter Tryz.func19,Tryz.ntmps19
 go_wp2_with fail;rw[HE.out,Oper.upon_enter];refine Calls.mono HC.out ?_;rintro en w1 ⟨⟨u,rfl⟩,u1,h⟩;obtain⟨c0,c1,c2,f1,f2⟩:=h.cells;have U1:=Lib.hid u1;clear u1 h HC;go_wp2_with fail
 go_quiet (fail)
 go_wp2_with fail
 go_ret3
 exact⟨rfl,U1.out.drewN _⟩
theorem fL (A:Option Addr) (n c:Nat) (i j:Nat) (k:FuncId) (hE:EntF k) (P:Value->World->Prop) (w:World) (hi:i<=n)
  (cR:Calls Tryz.prog k #[.pointer (some ⟨w.heap.size,0,none⟩)] (parW w (.slice A n c) i) fun e w'=>(∃u,e = .returned u/\P u w')/\Up w w'/\Psr w' w.heap.size (.slice A n c) j 0)
  (hP:∀u w' q,P u w'->P u (w'.drewN q)) :
  Calls Tryz.prog 19 #[.slice A n c,.int .i64 (i:Int),.func (.func k) #[] #[]] w fun e w'=>∃u,e = .returned (.tuple #[u,.int .i64 (j:Int),.int .i64 0])/\P u w'/\Up w w':=by
 have h0:¬(i:Int)<0:=by omega
 have h1:¬(n:Int)<(i:Int):=by omega
 have HE:=Lib.hid hE;have HPD:=Lib.hid hP;have HC:=Lib.hid cR;clear cR hE hP
 go_enter Tryz.func19,Tryz.ntmps19
 go_wp2_with fail;rw[HE.out,Oper.upon_enter];refine Calls.mono HC.out ?_;rintro en w1 ⟨⟨u,rfl,hu⟩,u1,h⟩;obtain⟨c0,c1,c2,f1,f2⟩:=h.cells;have U1:=Lib.hid u1;have HU:=Lib.hid hu;clear u1 h HC hu;go_wp2_with fail
 go_quiet (fail)
 go_wp2_with fail
 go_ret3
 exact⟨_,rfl,HPD.out _ _ _ HU.out,U1.out.drewN _⟩
theorem pA (A:Option Addr) (n c:Nat) (i:Int) (F:Value) (w:World) (h:i<0\/(n:Int)<i) :
  Calls Tryz.prog 26 #[.slice A n c,.int .i64 i,F] w fun e w'=>e = .returned (.tuple #[.slice none 0 0,.int .i64 0,.int .i64 2])/\Up w w':=by
 by_cases h0:i<0
 ·go_enter Tryz.func26,Tryz.ntmps26
  go_wp2_with fail
  go_ret3
  exact⟨rfl,Up.refl _⟩
 ·have h1:(n:Int)<i:=by omega
  clear h
  go_enter Tryz.func26,Tryz.ntmps26
  go_wp2_with fail
  go_ret3
  exact⟨rfl,Up.refl _⟩
theorem uU (A:Option Addr) (n c:Nat) (i p:Nat) (r:Int) (k:FuncId) (hE:EntF k) (w:World) (hi:i<=n) (hr:¬r=0)
  (cR:Calls Tryz.prog k #[.pointer (some ⟨w.heap.size,0,none⟩)] (parW w (.slice A n c) i) fun e w'=>(∃u,e = .returned u)/\Up w w'/\Psr w' w.heap.size (.slice A n c) p r) :
  Calls Tryz.prog 26 #[.slice A n c,.int .i64 (i:Int),.func (.func k) #[] #[]] w fun e w'=>e = .returned (.tuple #[.slice none 0 0,.int .i64 (p:Int),.int .i64 r])/\Up w w':=by
 have h0:¬(i:Int)<0:=by omega
 have h1:¬(n:Int)<(i:Int):=by omega
 have HE:=Lib.hid hE;have HW:Hid (parW w (.slice A n c) i=w.alloc (.cells #[.slice A n c,.int .i64 (i:Int),.int .i64 0] 67)):=Lib.hid rfl;have HC:=Lib.hid cR;clear cR hE
 go_enter Tryz.func26,Tryz.ntmps26
 go_wp2_with fail;rw[HE.out,Oper.upon_enter];refine Calls.mono HC.out ?_;rintro en w1 ⟨⟨u,rfl⟩,u1,h⟩;obtain⟨c0,c1,c2,f1,f2⟩:=h.cells;have U1:=Lib.hid u1;clear u1 h HC;go_wp2_with fail
 go_quiet (fail)
 go_wp2_with fail
 go_ret3
 exact⟨rfl,U1.out.drewN _⟩
theorem zYq (A:Option Addr) (n c:Nat) (i j:Nat) (k:FuncId) (hE:EntF k) (P:Value->World->Prop) (w:World) (hi:i<=n)
  (cR:Calls Tryz.prog k #[.pointer (some ⟨w.heap.size,0,none⟩)] (parW w (.slice A n c) i) fun e w'=>(∃u,e = .returned u/\P u w')/\Up w w'/\Psr w' w.heap.size (.slice A n c) j 0)
  (hP:∀u w' q,P u w'->P u (w'.drewN q)) :
  Calls Tryz.prog 26 #[.slice A n c,.int .i64 (i:Int),.func (.func k) #[] #[]] w fun e w'=>∃u,e = .returned (.tuple #[u,.int .i64 (j:Int),.int .i64 0])/\P u w'/\Up w w':=by
 have h0:¬(i:Int)<0:=by omega
 have h1:¬(n:Int)<(i:Int):=by omega
 have HE:=Lib.hid hE;have HPD:=Lib.hid hP;have HC:=Lib.hid cR;clear cR hE hP
 go_enter Tryz.func26,Tryz.ntmps26
 go_wp2_with fail;rw[HE.out,Oper.upon_enter];refine Calls.mono HC.out ?_;rintro en w1 ⟨⟨u,rfl,hu⟩,u1,h⟩;obtain⟨c0,c1,c2,f1,f2⟩:=h.cells;have U1:=Lib.hid u1;have HU:=Lib.hid hu;clear u1 h HC hu;go_wp2_with fail
 go_quiet (fail)
 go_wp2_with fail
 go_ret3
 exact⟨_,rfl,HPD.out _ _ _ HU.out,U1.out.drewN _⟩
theorem NewT.drewN {W w:World} {v:Value} {t:Tr} (h:NewT W w v t) (q:Nat):NewT W (w.drewN q) v t:=InT.keep h (fun _ h=>h) fun _ _=>rfl
theorem zU2 (v:Value) (i:Int) (P:Value->Int->Int->World->Prop) (w:World) (cP:Calls Tryz.prog 19 #[v,.int .i64 i,.func (.func 123) #[] #[]] w fun e w'=>∃u j r,e = .returned (.tuple #[u,.int .i64 j,.int .i64 r])/\P u j r w') :
  Calls Tryz.prog 79 #[v,.int .i64 i] w fun e w'=>∃u j r,e = .returned (.tuple #[u,.int .i64 j,.int .i64 r])/\P u j r w':=by
 go_enter Tryz.func79,Tryz.ntmps79
 go_wp2_with fail;refine cP.mono ?_;rintro en w1 ⟨u,j,r,rfl,h⟩;have H:=Lib.hid h;clear h;go_wp2_with fail
 go_ret3
 exact⟨u,j,r,rfl,H.out⟩
theorem zU3 (v:Value) (i:Int) (P:Value->Int->Int->World->Prop) (w:World) (cP:Calls Tryz.prog 26 #[v,.int .i64 i,.func (.func 163) #[] #[]] w fun e w'=>∃u j r,e = .returned (.tuple #[u,.int .i64 j,.int .i64 r])/\P u j r w') :
  Calls Tryz.prog 130 #[v,.int .i64 i] w fun e w'=>∃u j r,e = .returned (.tuple #[u,.int .i64 j,.int .i64 r])/\P u j r w':=by
 go_enter Tryz.func130,Tryz.ntmps130
 go_wp2_with fail;refine cP.mono ?_;rintro en w1 ⟨u,j,r,rfl,h⟩;have H:=Lib.hid h;clear h;go_wp2_with fail
 go_ret3
 exact⟨u,j,r,rfl,H.out⟩
theorem pType (l:List Tk) (i:Int) (hl:l.length<=100000) (hz:∀t∈l,t.s.size<=1000000000) (w:World) (v:Value) (hv:Tkm w v l) (hx:B.Nx w) (hp:Pl w) :
  Calls Tryz.prog 79 #[v,.int .i64 i] w (lO (typZ B.nck B.long l i) w):=by
 have hv0:=hv;obtain⟨A,c,rfl,-⟩:=hv;have key:Calls Tryz.prog 79 #[.slice A l.length c,.int .i64 i] w fun e w'=>∃u j r,e = .returned (.tuple #[u,.int .i64 j,.int .i64 r])/\RtV (typZ B.nck B.long l i) w w' u j r/\Up w w':=by
  refine zU2 _ i (fun u j r w'=>RtV (typZ B.nck B.long l i) w w' u j r/\Up w w') w ?_
  by_cases h:i<0\/(l.length:Int)<i
  ·unfold typZ
   rw[if_pos h];exact(wJ A l.length c i _ w h).mono fun e w' ⟨h1,h2⟩=>⟨_,_,_,h1,⟨rfl,rfl,rfl⟩,h2⟩
  ·have he:typZ B.nck B.long l i=typL B.nck B.long l i.toNat:=if_neg h
   rw[he];obtain⟨k,rfl⟩:=Int.eq_ofNat_of_zero_le (by omega:0<=i);have hk:k<=l.length:=by omega
   rw[Int.toNat_natCast];have Q:Prs B.nck B.long w (.slice A l.length c) l w.heap.size:=⟨mE hv0 hz hx,hp,Nat.le_refl _,hl,hz⟩;have up:=mF w (.slice A l.length c) k;have cA:=(lI Q _ k (Nat.le_refl _) hk).1 _ up (wH w _ k);have hle:=eG (nk:=B.nck) (lg:=B.long) l k hk;have gu:∀w',Gs (On w.heap.size) (parW w (.slice A l.length c) k) w'->Up w w':=fun w' g=>g.up up fun q hq=>by rw[hq];exact Nat.le_refl _
   cases hT:typL B.nck B.long l k with
   | inr e=>
    obtain⟨p,r⟩:=e;rw[hT] at cA hle;have hr:¬r=0:=hle.2 p r rfl;refine(wK A l.length c k p r 123 (fun _ _=>by kernel_rfl) w hk hr ?_).mono fun e w' ⟨h1,h2⟩=>⟨_,_,_,h1,⟨rfl,rfl,rfl⟩,h2⟩
    refine(tyLit w.heap.size (fun _ w'=>Up w w'/\Psr w' w.heap.size (.slice A l.length c) p r) _ (cA.mono fun e w' ⟨B,h1,g,h2⟩=>⟨B,h1,gu w' g,h2⟩)).mono fun e w' ⟨B,h1,h2,h3⟩=>⟨⟨_,h1⟩,h2,h3⟩
   | inl e=>
    obtain⟨t,j⟩:=e;rw[hT] at cA;refine(fL A l.length c k j 123 (fun _ _=>by kernel_rfl) (fun u w'=>NewT w w' u t) w hk ?_ (fun u w' q h=>h.drewN q)).mono fun e w' ⟨u,h1,h2,h3⟩=>⟨_,_,_,h1,⟨h2,rfl,rfl⟩,h3⟩
    refine(tyLit w.heap.size (fun B w'=>NewT w w' (.pointer B) t/\Up w w'/\Psr w' w.heap.size (.slice A l.length c) j 0) _ (cA.mono fun e w' ⟨B,h1,g,h2,h3,_⟩=>⟨B,h1,h2.base up.size,gu w' g,h3⟩)).mono fun e w' ⟨B,h1,h2,h3,h4⟩=>⟨⟨_,h1,h2⟩,h3,h4⟩
 exact key.mono fun e w' ⟨u,j,r,h1,h2,h3⟩=>⟨u,j,r,h1,h2,h3⟩
def CoV (w w':World) (u:Value) (f:Fr):Prop:=∃g c,u = .slice (some ⟨g,0,none⟩) f.len c/\f.len<=c/\NewS w w' g/\0<f.len/\InF w' (NewS w w') f g 0
theorem pCons (l:List Tk) (i:Int) (hl:l.length<=100000) (hz:∀t∈l,t.s.size<=1000000000) (w:World) (v:Value) (hv:Tkm w v l) (hx:B.Nx w) (hp:Pl w) :
  Calls Tryz.prog 130 #[v,.int .i64 i] w (zR5 (consZ B.nck B.long l i) w):=by
 have hv0:=hv;obtain⟨A,c,rfl,-⟩:=hv;have key:Calls Tryz.prog 130 #[.slice A l.length c,.int .i64 i] w fun e w'=>∃u j r,e = .returned (.tuple #[u,.int .i64 j,.int .i64 r])/\RcV (consZ B.nck B.long l i) w w' u j r/\Up w w':=by
  refine zU3 _ i (fun u j r w'=>RcV (consZ B.nck B.long l i) w w' u j r/\Up w w') w ?_
  by_cases h:i<0\/(l.length:Int)<i
  ·unfold consZ
   rw[if_pos h];exact(pA A l.length c i _ w h).mono fun e w' ⟨h1,h2⟩=>⟨_,_,_,h1,⟨rfl,rfl,rfl⟩,h2⟩
  ·have he:consZ B.nck B.long l i=consL B.nck B.long l i.toNat .nil:=if_neg h
   rw[he];obtain⟨k,rfl⟩:=Int.eq_ofNat_of_zero_le (by omega:0<=i);have hk:k<=l.length:=by omega
   rw[Int.toNat_natCast];have Q:Prs B.nck B.long w (.slice A l.length c) l w.heap.size:=⟨mE hv0 hz hx,hp,Nat.le_refl _,hl,hz⟩;have up:=mF w (.slice A l.length c) k;have cA:=(lI Q _ k (Nat.le_refl _) hk).2.2.2 _ up (wH w _ k);have hle:=oS (nk:=B.nck) (lg:=B.long) l k .nil hk;have gu:∀w',Gs (On w.heap.size) (parW w (.slice A l.length c) k) w'->Up w w':=fun w' g=>g.up up fun q hq=>by rw[hq];exact Nat.le_refl _
   cases hT:consL B.nck B.long l k .nil with
   | inr e=>
    obtain⟨p,r⟩:=e;rw[hT] at cA hle;have hr:¬r=0:=hle.2 p r rfl;refine(uU A l.length c k p r 163 (fun _ _=>by kernel_rfl) w hk hr ?_).mono fun e w' ⟨h1,h2⟩=>⟨_,_,_,h1,⟨rfl,rfl,rfl⟩,h2⟩
    refine(coLit w.heap.size (fun _ w'=>Up w w'/\Psr w' w.heap.size (.slice A l.length c) p r) _ (cA.mono fun e w' ⟨vo,ps,h1,_,_,_,g,h2⟩=>⟨vo,h1,gu w' g,h2⟩)).mono fun e w' ⟨B,h1,h2,h3⟩=>⟨⟨_,h1⟩,h2,h3⟩
   | inl e=>
    obtain⟨f,j⟩:=e;rw[hT] at cA;refine(zYq A l.length c k j 163 (fun _ _=>by kernel_rfl) (fun u w'=>CoV w w' u f) w hk ?_ (fun u w' q h=>by
     obtain⟨g,c,h1,h2,h3,h4,h5⟩:=h;exact⟨g,c,h1,h2,h3,h4,InF.keep (w:=w') (w':=w'.drewN q) (S:=NewS w w') (S':=NewS w (w'.drewN q)) (fun _ h=>h) (fun _ _=>rfl) h3 h5⟩)).mono fun e w' ⟨u,h1,h2,h3⟩=>⟨_,_,_,h1,⟨h2,rfl,rfl⟩,h3⟩
    refine(coLit w.heap.size (fun u w'=>CoV w w' u f/\Up w w'/\Psr w' w.heap.size (.slice A l.length c) j 0) _ (cA.mono fun e w' hh=>?_)).mono fun e w' ⟨B,h1,h2,h3,h4⟩=>⟨⟨_,h1,h2⟩,h3,h4⟩
    obtain⟨vo,ps,h1,ho,h0,_,g,hT2,h3,_⟩:=hh;refine⟨vo,h1,?_,gu w' g,h3⟩;have hlen:=hT2.len;obtain⟨gb,cap,hvo,hbg,hlt⟩:=ho.own.form h0;have hcap:f.len<=cap:=by rw[<- hlen];have h:=ho.own;rw[hvo] at h;exact oW h
    subst hvo;have hzp:=up.size;have hnew:NewS w w' gb:=⟨by omega,hlt⟩;refine⟨gb,cap,by rw[hlen],hcap,hnew,by omega,?_⟩;refine PtF.row (PtF.keep (fun q hq=>⟨by have:=hq.1.1;omega,hq.1.2⟩) (fun _ _=>rfl) hT2) fun jj u hj=>?_
    have h9:=ho.own.cells (g:=gb) rfl jj u hj;have e1:(⟨gb,0,none⟩:Addr).add jj=⟨gb,0+jj,none⟩:=by unfold Addr.add;split<;>simp_all
    rwa [e1] at h9
 exact key.mono fun e w' ⟨u,j,r,h1,h2,h3⟩=>⟨u,j,r,h1,h2,h3⟩
theorem nK {α:Type} {R:Nat->Rs α} {G:SS->SS} (hG:Ab7 G) {i:Nat} {e:Int} (h:e=0->stO (R i)=G (i,0)):stO (at0 R (i,e))=G (i,e):=by
 by_cases he:e=0
 ·subst he
  rw[qG];exact h rfl
 ·rw[qM R (show ¬(i,e).2=0 from he),hG (i,e) he]
  rfl
theorem zRv {W w4 w:World} {Bm:Nat} {x:Nod} {A:Option Addr} (hr:w.heap[Bm]? = some (.cells #[.int .i64 x.k,.int .i64 x.n,.string x.a,.string x.m,.slice none 0 0] 44 (0,0))) (hW:W.heap.size<=Bm) (hB:Bm<w4.heap.size) (_h4:w4.heap.size<=w.heap.size)
  (WF:World) (hWF:(w.setCell ⟨Bm,4,none⟩ (.slice (some ⟨w.heap.size,0,none⟩) 1 1)).alloc (.cells #[.pointer A] 24)=WF):Gs (On Bm) w WF/\WF.heap[Bm]? = some (.cells #[.int .i64 x.k,.int .i64 x.n,.string x.a,.string x.m,.slice (some ⟨w.heap.size,0,none⟩) 1 1] 44 (0,0))/\WF.heap[w.heap.size]? = some (.cells #[.pointer A] 24 (0,0))/\
   ∀t,NewT w4 w (.pointer A) t->NewT W WF (.pointer (some ⟨Bm,0,none⟩)) (x,fr1 t):=by
 obtain⟨Ws,hWs⟩:∃Ws,w.setCell ⟨Bm,4,none⟩ (.slice (some ⟨w.heap.size,0,none⟩) 1 1)=Ws:=⟨_,rfl⟩;have zs:Ws.heap.size=w.heap.size:=by rw[<- hWs];simp[World.setCell]
 have ns:Ws.heap[Bm]? = some (.cells #[.int .i64 x.k,.int .i64 x.n,.string x.a,.string x.m,.slice (some ⟨w.heap.size,0,none⟩) 1 1] 44 (0,0)):=by rw[<- hWs];exact Nb.store (x:=x) hr _
 have gs:Gs (On Bm) w Ws:=by rw[<- hWs];exact(Gs.refl _ _).set _ _ (.inl rfl)
 rw[hWs] at hWF;have uF:Up Ws WF:=by rw[<- hWF];exact(Up.refl _).alloc _
 have gN:WF.heap[w.heap.size]? = some (.cells #[.pointer A] 24 (0,0)):=by rw[<- hWF,<- zs];exact heap_alloc_new Ws _
 have gF:Gs (On Bm) w WF:=gs.trans (Gs.of uF);refine⟨gF,uF.row ns,gN,fun t ht=>?_⟩;have hbw:=qC hr;exact yV (x:=x) (f:=fr1 t) (uF.row ns) rfl (Nat.le_refl _) ⟨hW,qC (uF.row ns)⟩ ⟨by omega,qC gN⟩ ⟨⟨_,cell_of_row WF w.heap.size 0 _ _ _ gN,InT.keep ht (fun q hq=>⟨by have:=hq.1;omega,by have:=hq.2;have:=gF.size;omega⟩) fun q hq=>gF.block q hq.2 (by have:=hq.1;unfold On;omega)⟩,trivial⟩
theorem fill2 {W w4 w:World} {Bm:Nat} {x:Nod} {A C:Option Addr} (hr:w.heap[Bm]? = some (.cells #[.int .i64 x.k,.int .i64 x.n,.string x.a,.string x.m,.slice none 0 0] 44 (0,0))) (hW:W.heap.size<=Bm) (hB:Bm<w4.heap.size) (_h4:w4.heap.size<=w.heap.size)
  (WF:World) (hWF:(w.setCell ⟨Bm,4,none⟩ (.slice (some ⟨w.heap.size,0,none⟩) 2 2)).alloc (.cells #[.pointer A,.pointer C] 24)=WF):Gs (On Bm) w WF/\
   ∀s t,NewT w4 w (.pointer A) s->NewT w4 w (.pointer C) t->NewT W WF (.pointer (some ⟨Bm,0,none⟩)) (x,fr2 s t):=by
 obtain⟨Ws,hWs⟩:∃Ws,w.setCell ⟨Bm,4,none⟩ (.slice (some ⟨w.heap.size,0,none⟩) 2 2)=Ws:=⟨_,rfl⟩;have zs:Ws.heap.size=w.heap.size:=by rw[<- hWs];simp[World.setCell]
 have ns:Ws.heap[Bm]? = some (.cells #[.int .i64 x.k,.int .i64 x.n,.string x.a,.string x.m,.slice (some ⟨w.heap.size,0,none⟩) 2 2] 44 (0,0)):=by rw[<- hWs];exact Nb.store (x:=x) hr _
 have gs:Gs (On Bm) w Ws:=by rw[<- hWs];exact(Gs.refl _ _).set _ _ (.inl rfl)
 rw[hWs] at hWF;have uF:Up Ws WF:=by rw[<- hWF];exact(Up.refl _).alloc _
 have gN:WF.heap[w.heap.size]? = some (.cells #[.pointer A,.pointer C] 24 (0,0)):=by rw[<- hWF,<- zs];exact heap_alloc_new Ws _
 have gF:Gs (On Bm) w WF:=gs.trans (Gs.of uF);refine⟨gF,fun s t hs ht=>?_⟩;have hbw:=qC hr;have kp:∀{v:Value} {t:Tr},NewT w4 w v t->InT WF (fun q=>W.heap.size<=q/\q<WF.heap.size) v t:=fun h=>InT.keep h (fun q hq=>⟨by have:=hq.1;omega,by have:=hq.2;have:=gF.size;omega⟩) fun q hq=>gF.block q hq.2 (by have:=hq.1;unfold On;omega)
 exact yV (x:=x) (f:=fr2 s t) (uF.row ns) rfl (Nat.le_refl _) ⟨hW,qC (uF.row ns)⟩ ⟨by omega,qC gN⟩ ⟨⟨_,cell_of_row WF w.heap.size 0 _ _ _ gN,kp hs⟩,⟨_,cell_of_row WF w.heap.size 1 _ _ _ gN,kp ht⟩,trivial⟩
structure Px9 (V0:World) (v:Value) (l:List Te) (b:Nat):Prop where
 Q:Px8 V0 v l b
 K:Tke V0 v l
 X:B.Nx V0
 L:Pl V0
 Z:∀t∈l,t.t.s.size<=1000000000
section
variable {V0:World} {v:Value} {l:List Te} {b:Nat}
theorem Px9.typ (P:Px9 V0 v l b) (i:Nat) (hi:i<=l.length) (w:World) (hu:Up V0 w):Calls Tryz.prog 79 #[v,.int .i64 (i:Int)] w (lO (typL B.nck B.long (tks l) i) w):=by
 have c:=pType (tks l) (i:Int) (by rw[qK];exact P.Q.hl) (fun t ht=>by
  obtain⟨u,hu,rfl⟩:=List.mem_map.1 ht;exact P.Z u hu) w v (P.K.tkm.up hu) (Nx.up P.X hu) (P.L.up hu)
 have e:typZ B.nck B.long (tks l) (i:Int)=typL B.nck B.long (tks l) i:=by
  unfold typZ;rw[if_neg (by rw[qK];omega),Int.toNat_natCast]
 rw[e] at c;exact c
theorem zWg (P:Px9 V0 v l b) (i:Nat) (e:Int) (hi:i<=l.length) (w:World) (h:Psr w b v i e) (hu:Up V0 w) :
  Calls Tryz.prog 78 #[.pointer (some ⟨b,0,none⟩),.func (.func 79) #[] #[]] w (PaT (On b) b v (at0 (typL B.nck B.long (tks l)) (i,e)) (fun _ _=>True) w):=by
 obtain⟨c0,c1,c2,f1,f2⟩:=h.cells;have hb:b<w.heap.size:=qC h;have H:=Lib.hid h
 by_cases he:e=0
 ·subst he
  rw[qG];have cY:=fun w' (u:Up w w')=>P.typ i hi w' (hu.trans u)
  have CY:=Lib.hid cY;obtain⟨R,hR⟩:∃R,typL B.nck B.long (tks l) i=R:=⟨_,rfl⟩;rw[hR] at CY ⊢;clear h hu cY hR f1 f2
  go_enter Tryz.func78,Tryz.ntmps78
  go_wp2_with fail
  go_region_with (first
   | (go_at_call 79;refine(CY.out _ (by first | exact Below.refl _ _ | exact qE (Below.refl _ _) 1)).mono ?_;rintro e2 w6 ⟨va,ja,ea,rfl,hV,u6⟩;have u6:Up w w6:=⟨u6.os,u6.tape,u6.output,u6.size,u6.block⟩;have h6:=H.out.up u6;obtain⟨d0,d1,d2,g1,g2⟩:=h6.cells;have hb6:=qC h6;have H6:=Lib.hid h6;have U6:=Lib.hid u6;have HV:=Lib.hid hV;clear h6 u6 hV d0))
  all_goals go_wp2_with fail
  all_goals go_ret
  all_goals
   have hV:=HV.out;have g6:Gs (On b) w6 ((w6.setCell ⟨b,1,none⟩ (.int .i64 ja)).setCell ⟨b,2,none⟩ (.int .i64 ea)):=((Gs.refl (On b) w6).set ⟨b,1,none⟩ _ (.inl rfl)).set ⟨b,2,none⟩ _ (.inl rfl)
   cases R with
   | inl r=>
    obtain⟨t,q⟩:=r;obtain⟨h1,rfl,rfl⟩:=hV;obtain⟨o,p,rfl⟩:=InT.ptr h1;exact⟨_,rfl,(Gs.of U6.out).trans g6,h1.gsb g6 hb,(H6.out.at _ _ rfl).er _,trivial⟩
   | inr r=>
    obtain⟨p,q⟩:=r;obtain⟨rfl,rfl,rfl⟩:=hV;exact⟨none,rfl,(Gs.of U6.out).trans g6,(H6.out.at _ _ rfl).er _⟩
 ·rw[qM _ (show ¬(i,e).2=0 from he)]
  clear h hu
  go_enter Tryz.func78,Tryz.ntmps78
  go_wp2_with fail
  go_ret
  exact⟨none,rfl,Gs.refl _ _,H.out⟩
theorem zI (l:List Te) (x:ByteArray) {s:SS} (h:s.1<=l.length):(kS (tks l) x s).1<=l.length:=by
 unfold kS
 cases hd:tkB (tks l) s.1 s.2 x with
 | false=>exact h
 | true=>
  unfold tkB at hd;rw[Bool.and_eq_true] at hd;exact qF hd.2
theorem kJ (l:List Te) (p:ByteArray->Bool) {s:SS} (h:s.1<=l.length):(nS p (tks l) s).1<=l.length:=by
 unfold nS nmI;simp only
 split
 ·cases hn:nam p (tks l) s.1 with
  | none=>exact h
  | some x=>exact eQ hn
 ·exact h
theorem pB {α:Type} {l:List Te} {R:Nat->Rs α} (hR:∀j,j<=l.length->In l.length j (R j)) {s:SS} (h:s.1<=l.length):(rS R s).1<=l.length:=by
 unfold rS stO at0
 split
 ·have h1:=hR s.1 h
  cases hX:R s.1 with
  | inl r=>rw[hX] at h1;exact h1.2
  | inr r=>rw[hX] at h1;exact h1.2.1
 ·exact h
theorem yP {l:List Tk} {x:ByteArray} {s:SS} (h:(kS l x s).2=0):s.2=0/\s.1<(kS l x s).1:=by
 by_cases hs:s.2=0
 ·refine⟨hs,?_⟩
  obtain⟨i,e⟩:=s;have hs:e=0:=hs;subst hs;rw[zK7] at h ⊢
  split at h
  ·rename_i hk
   rw[if_pos hk];exact Nat.lt_succ_self i
  ·cases h
 ·rw[yR l x s hs] at h
  exact absurd h hs
theorem mG {l:List Tk} {p:ByteArray->Bool} {s:SS} (h:(nS p l s).2=0):s.2=0/\s.1<(nS p l s).1:=by
 by_cases hs:s.2=0
 ·refine⟨hs,?_⟩
  obtain⟨i,e⟩:=s;have hs:e=0:=hs;subst hs;rw[zK8] at h ⊢
  cases hn:nam p l i with
  | none=>rw[hn] at h;cases h
  | some x=>exact Nat.lt_succ_self i
 ·rw[uN p l s hs] at h
  exact absurd h hs
theorem rG {α:Type} {l:List Te} {R:Nat->Rs α} (hR:∀j,j<=l.length->In l.length j (R j)) {s:SS} (hi:s.1<=l.length) (h:(rS R s).2=0):s.2=0/\s.1<(rS R s).1:=by
 by_cases hs:s.2=0
 ·refine⟨hs,?_⟩
  unfold rS stO at0 at h ⊢;rw[if_pos hs] at h ⊢;have h1:=hR s.1 hi
  cases hX:R s.1 with
  | inl r=>rw[hX] at h1;exact h1.1
  | inr r=>rw[hX] at h;exact absurd h (h1.ne hX)
 ·rw[kO R s hs] at h
  exact absurd h hs
theorem jO (P:Px9 V0 v l b) (E:Nat->Rs Tr) (x:ByteArray) (i:Nat) (e:Int) (hi:i<=l.length) (w:World) (h:Psr w b v i e) (hu:Up V0 w) (cE:RuAt V0 v b 191 E (kS (tks l) x (i,e)).1 (kS (tks l) x (i,e)).2) :
  Calls Tryz.prog 216 #[.agg #[.pointer (some ⟨b,0,none⟩)],.string x] w (PaT (On b) b v (at0 E (kS (tks l) x (i,e))) (fun _ _=>True) w):=by
 have hll:=P.Q.hl;have hbV:=P.Q.hb;have hb:b<w.heap.size:=qC h;obtain⟨W0,hW0⟩:∃W0,w.alloc (.cells #[.pointer (some ⟨b,0,none⟩)] 183)=W0:=⟨_,rfl⟩;have u0:Up w W0:=by rw[<- hW0];exact(Up.refl w).alloc _
 have b1:W0.heap[w.heap.size]? = some (.cells #[.pointer (some ⟨b,0,none⟩)] 183 (0,0)):=by rw[<- hW0];exact heap_alloc_new w _
 have cN:=zN b v i e x W0 P.Q.T (h.up u0) (hu.trans u0) (by omega);have HCE:=Lib.hid cE;have HU:=Lib.hid (hu.trans u0);have HW0:=Lib.hid hW0;have U0:=Lib.hid u0;have B1:=Lib.hid b1;clear hW0 u0 b1 h hu cE P
 go_enter Tryz.func216,Tryz.ntmps216
 go_wp2_with fail;rw[HW0.out];refine cN.mono ?_;rintro en w1 ⟨⟨u,rfl⟩,g1,p1⟩;have cX:=HCE.out w1 (g1.up HU.out fun q hq=>by rw[hq];exact hbV) p1;have r1:w1.heap[w.heap.size]? = some (.cells #[.pointer (some ⟨b,0,none⟩)] 183 (0,0)):=g1.row B1.out (by unfold On;omega);have k1:w1.cell? ⟨w.heap.size,0,none⟩=some (.pointer (some ⟨b,0,none⟩)):=cell_of_row w1 w.heap.size 0 _ _ _ r1;have hb1:=qC r1;have G1:=Lib.hid g1;clear r1 g1 p1 cN;go_wp2_with fail;refine cX.mono ?_;rintro en w2 hP;obtain⟨A,rfl,g2,p2,n2⟩:=hP.psr;have G2:=Lib.hid g2;have P2:=Lib.hid p2;have N2:=Lib.hid n2;clear g2 p2 n2 hP cX;go_wp2_with fail
 go_ret
 exact PaT.mk ((Gs.of U0.out).trans (G1.out.trans G2.out)) P2.out fun t j ht=>(N2.out t j ht).base (by have:=U0.out.size;have:=G1.out.size;omega)
theorem fA (P:Px9 V0 v l b) (x:ByteArray) (i:Nat) (e:Int) (hi:i<=l.length) (w:World) (h:Psr w b v i e) (hu:Up V0 w) :
  Calls Tryz.prog 219 #[.agg #[.pointer (some ⟨b,0,none⟩)],.string x] w (PaT (On b) b v (at0 (typL B.nck B.long (tks l)) (kS (tks l) x (i,e))) (fun _ _=>True) w):=by
 have hll:=P.Q.hl;have hbV:=P.Q.hb;have hb:b<w.heap.size:=qC h;obtain⟨W0,hW0⟩:∃W0,w.alloc (.cells #[.pointer (some ⟨b,0,none⟩)] 183)=W0:=⟨_,rfl⟩;have u0:Up w W0:=by rw[<- hW0];exact(Up.refl w).alloc _
 have b1:W0.heap[w.heap.size]? = some (.cells #[.pointer (some ⟨b,0,none⟩)] 183 (0,0)):=by rw[<- hW0];exact heap_alloc_new w _
 have cN:=zN b v i e x W0 P.Q.T (h.up u0) (hu.trans u0) (by omega);have HPX:=Lib.hid P;have HU:=Lib.hid (hu.trans u0);have HW0:=Lib.hid hW0;have U0:=Lib.hid u0;have B1:=Lib.hid b1;have hkl:=zI l x (s:=(i,e)) hi;clear hW0 u0 b1 h hu P
 go_enter Tryz.func219,Tryz.ntmps219
 go_wp2_with fail;rw[HW0.out];refine cN.mono ?_;rintro en w1 ⟨⟨u,rfl⟩,g1,p1⟩;have cX:=zWg HPX.out _ _ hkl w1 p1 (g1.up HU.out fun q hq=>by rw[hq];exact hbV);have r1:w1.heap[w.heap.size]? = some (.cells #[.pointer (some ⟨b,0,none⟩)] 183 (0,0)):=g1.row B1.out (by unfold On;omega);have k1:w1.cell? ⟨w.heap.size,0,none⟩=some (.pointer (some ⟨b,0,none⟩)):=cell_of_row w1 w.heap.size 0 _ _ _ r1;have hb1:=qC r1;have G1:=Lib.hid g1;clear r1 g1 p1 cN;go_wp2_with fail;refine cX.mono ?_;rintro en w2 hP;obtain⟨A,rfl,g2,p2,n2⟩:=hP.psr;have G2:=Lib.hid g2;have P2:=Lib.hid p2;have N2:=Lib.hid n2;clear g2 p2 n2 hP cX;go_wp2_with fail
 go_ret
 exact PaT.mk ((Gs.of U0.out).trans (G1.out.trans G2.out)) P2.out fun t j ht=>(N2.out t j ht).base (by have:=U0.out.size;have:=G1.out.size;omega)
theorem xK (P:Px9 V0 v l b) (i:Nat) (e:Int) (hi:i<=l.length) (w:World) (h:Psr w b v i e) (hu:Up V0 w):Calls Tryz.prog 44 #[.pointer (some ⟨b,0,none⟩),.func (.func 75) #[] #[]] w (NmP b v (nmS (nam B.nck (tks l) i) e) (nS B.nck (tks l) (i,e)).1 (nS B.nck (tks l) (i,e)).2 w):=
 eI b v i e _ w (fun w' u=>P.Q.T.name i w' (hu.trans u)) h (by have:=P.Q.hl;omega)
theorem zRw (P:Px9 V0 v l b) (E:Nat->Rs Tr) (hE:∀j,j<=l.length->In l.length j (E j)) (i:Nat) (e:Int) (hi:i<=l.length) (cE:∀(j:Nat) (e':Int),j<=l.length->(e'=0->e=0/\i<j)->RuAt V0 v b 191 E j e'):RuAt V0 v b 235 (fK B.nck l E) i e:=fun w hu h=>by
 have hll:=P.Q.hl;have hbV:=P.Q.hb;have hb:b<w.heap.size:=qC h;obtain⟨W0,hW0⟩:∃W0,w.alloc (.cells #[.pointer (some ⟨b,0,none⟩)] 183)=W0:=⟨_,rfl⟩;have u0:Up w W0:=by rw[<- hW0];exact(Up.refl w).alloc _
 have b1:W0.heap[w.heap.size]? = some (.cells #[.pointer (some ⟨b,0,none⟩)] 183 (0,0)):=by rw[<- hW0];exact heap_alloc_new w _
 have k0:W0.cell? ⟨w.heap.size,0,none⟩=some (.pointer (some ⟨b,0,none⟩)):=cell_of_row W0 w.heap.size 0 _ _ _ b1;obtain⟨s1,hs1⟩:∃s1,nS B.nck (tks l) (i,e)=s1:=⟨_,rfl⟩;obtain⟨s2,hs2⟩:∃s2,nS B.nck (tks l) s1=s2:=⟨_,rfl⟩;obtain⟨s3,hs3⟩:∃s3,kS (tks l) kFat s2=s3:=⟨_,rfl⟩;have l1:s1.1<=l.length:=by rw[<- hs1];exact kJ l _ hi
 have l2:s2.1<=l.length:=by rw[<- hs2];exact kJ l _ l1
 have l3:s3.1<=l.length:=by rw[<- hs3];exact zI l _ l2
 have h30:s3.2=0->e=0/\i<s3.1:=fun h0=>by
  rw[<- hs3] at h0 ⊢;obtain⟨a1,a2⟩:=yP h0;rw[<- hs2] at a1 a2;obtain⟨a3,a4⟩:=mG a1;rw[<- hs1] at a3 a4;obtain⟨a5,a6⟩:=mG a3;rw[hs2] at a2;rw[hs1] at a4 a6;rw[hs2] at a4;exact⟨a5,by have a6:i<s1.1:=a6;omega⟩
 have c1:=fun w' (u:Up W0 w')=>xK P i e hi w' ((h.up u0).up u) ((hu.trans u0).trans u)
 rw[hs1] at c1;have hst:stO (at0 (fK B.nck l E) (i,e))=rS E s3:=by
  rw[<- hs3,<- hs2,<- hs1];exact nK (G:=armG B.nck l E) ((kO _).comp ((yR _ _).comp ((uN _ _).comp (uN _ _)))) fun _=>zKc hE hi
 have C1:=Lib.hid c1;have HPX:=Lib.hid P;have HCE:=Lib.hid cE;have HU:=Lib.hid (hu.trans u0);have HW0:=Lib.hid hW0;have U0:=Lib.hid u0;have B1:=Lib.hid b1;have HST:=Lib.hid hst;have HS1:=Lib.hid hs1;have HS2:=Lib.hid hs2;have HS3:=Lib.hid hs3;have H30:=Lib.hid h30;obtain⟨nm1,hnm1⟩:∃n,nmS (nam B.nck (tks l) i) e=n:=⟨_,rfl⟩;obtain⟨nm2,hnm2⟩:∃n,nmS (nam B.nck (tks l) s1.1) s1.2=n:=⟨_,rfl⟩;rw[hnm1] at C1;have HN1:=Lib.hid hnm1;have HN2:=Lib.hid hnm2;have z0:W0.heap.size=w.heap.size+1:=by rw[<- hW0];simp
 have hw0lt:w.heap.size<W0.heap.size:=by omega
 have hwb:w.heap.size≠b:=by omega
 clear c1 hW0 u0 b1 h hu P hst hs1 hs2 hs3 hnm1 hnm2 h30 cE
 go_enter Tryz.func235,Tryz.ntmps235
 go_wp2_with fail;rw[HW0.out]
 go_region_held3 (fun w'=>w'.cell? ⟨w.heap.size,0,none⟩=some (.pointer (some ⟨b,0,none⟩))) (first | go_keep | assumption) (first
  | (go_at_call 44;refine(C1.out _ (by first | exact Below.refl _ _ | exact qE (Below.refl _ _) 1)).mono ?_;rintro e2 w6 ⟨rfl,g6,p6⟩;have g6:Gs (On b) W0 w6:=⟨g6.os,g6.tape,g6.output,g6.size,g6.block⟩;have k6:w6.cell? ⟨w.heap.size,0,none⟩=some (.pointer (some ⟨b,0,none⟩)):=g6.cell k0 (by unfold On;exact hwb);have hw6:=g6.size;have hw6lt:w.heap.size<w6.heap.size:=(by omega);have G6:=Lib.hid g6;have P6:=Lib.hid p6;clear g6 p6 C1)
  | (go_at_call 44;refine(xK HPX.out s1.1 s1.2 l1 _ (by first | exact P6.out | exact P6.out.up (qE (Below.refl _ _) 1)) (by first | exact G6.out.up HU.out (fun q hq=>(by rw[hq];exact hbV)) | exact(G6.out.up HU.out (fun q hq=>(by rw[hq];exact hbV))).trans (qE (Below.refl _ _) 1))).mono ?_;rintro e2 w7 ⟨rfl,g7,p7⟩;have g7:Gs (On b) w6 w7:=⟨g7.os,g7.tape,g7.output,g7.size,g7.block⟩;have k7:w7.cell? ⟨w.heap.size,0,none⟩=some (.pointer (some ⟨b,0,none⟩)):=g7.cell k6 (by unfold On;exact hwb);have hw7:=g7.size;have hw7lt:w.heap.size<w7.heap.size:=(by omega);have G7:=Lib.hid g7;have P7:=Lib.hid p7;clear g7 p7))
 all_goals go_wp2_with fail
 all_goals
  rw[HN2.out];obtain⟨w8,hw8⟩:∃w8,w7.alloc (.cells #[.int .i64 34,.int .i64 0,.string nm1,.string nm2,.slice none 0 0] 44)=w8:=⟨_,rfl⟩;have u8:Up w7 w8:=by rw[<- hw8];exact(Up.refl w7).alloc _
  have b8:w8.heap[w7.heap.size]? = some (.cells #[.int .i64 34,.int .i64 0,.string nm1,.string nm2,.slice none 0 0] 44 (0,0)):=by rw[<- hw8];exact heap_alloc_new w7 _
  have k8:=u8.cell k7;have g08:Gs (On b) W0 w8:=(G6.out.trans G7.out).trans (Gs.of u8);have p8:Psr w8 b v s2.1 s2.2:=by have h:=P7.out.up u8;rw[show nS B.nck (tks l) (s1.1,s1.2)=s2 from HS2.out] at h;exact h
  have cB:=jO HPX.out E kFat s2.1 s2.2 l2 w8 p8 (g08.up HU.out fun q hq=>by rw[hq];exact hbV) (by rw[show kS (tks l) kFat (s2.1,s2.2)=s3 from HS3.out];exact HCE.out _ _ l3 H30.out);rw[show kS (tks l) kFat (s2.1,s2.2)=s3 from HS3.out] at cB;obtain⟨X,hX⟩:∃X,at0 E s3=X:=⟨_,rfl⟩;rw[hX] at cB;have HX:=Lib.hid hX;have hz8:w8.heap.size=w7.heap.size+1:=by rw[<- hw8];simp
  have B8:=Lib.hid b8;have G08:=Lib.hid g08;rw[hw8];clear hw8 u8 b8 g08 p8 hX k7;go_wp2_with fail;refine cB.mono ?_;rintro en w9 hP;obtain⟨A9,rfl,g9,p9,n9⟩:=hP.psr;have b9:=g9.row B8.out (by unfold On;omega);have c9:w9.cell? ⟨w7.heap.size,4,none⟩=some (.slice none 0 0):=cell_of_row w9 _ 4 _ _ _ b9;have f9:=frozen_of_row w9 w7.heap.size 4 _ _ b9;have hb9:=qC b9;have hz9:=g9.size;have B9:=Lib.hid b9;have G9:=Lib.hid g9;have P9:=Lib.hid p9;have N9:=Lib.hid n9;clear b9 g9 p9 n9 hP cB;go_wp2_with fail
  go_ret
  obtain⟨gF,-,-,hF⟩:=zRv (W:=w) (w4:=w8) (x:=⟨34,0,nm1,nm2⟩) (A:=A9) B9.out (by omega) (by omega) (by omega) _ rfl;have e1:rI (at0 (fK B.nck l E) (i,e))=rI X:=by have h:=congrArg Prod.fst HST.out;rw[show rS E s3=stO X from by unfold rS;rw[HX.out]] at h;exact h
  have e2:rE (at0 (fK B.nck l E) (i,e))=rE X:=by have h:=congrArg Prod.snd HST.out;rw[show rS E s3=stO X from by unfold rS;rw[HX.out]] at h;exact h
  have gA:Gs (On b) w w9:=(Gs.of U0.out).trans (G08.out.trans G9.out);refine PaT.mk ⟨gF.os.trans gA.os,gF.tape.trans gA.tape,gF.output.trans gA.output,Nat.le_trans gA.size gF.size,fun q hq hn=>(gF.block q (by have:=gA.size;omega) (by unfold On;omega)).trans (gA.block q hq hn)⟩ (by rw[e1,e2];exact gF.row P9.out (by unfold On;omega)) fun t j ht=>?_
  by_cases he:e=0
  ·subst he
   rw[qG] at ht;obtain⟨cn,xn,b',j1,j2,h1,h2,h3,h4,h5,rfl⟩:=zN1 ht;have q1:s1=(j1,0):=HS1.out.symm.trans h2;have q3:s3=(j2,0):=by rw[<- HS3.out,<- HS2.out,q1];exact h4
   have hn1:=HN1.out;rw[h1] at hn1;have hn1:cn=nm1:=hn1;have hn2:=HN2.out;rw[q1] at hn2;simp only at hn2;rw[h3] at hn2;have hn2:xn=nm2:=hn2;rw[hn1,hn2];have hXe:X = .inl (b',j):=by rw[<- HX.out,q3,qG];exact h5
   exact hF b' (N9.out b' j hXe)
  ·rw[qM _ (show ¬(i,e).2=0 from he)] at ht
   cases ht
end
def P3 (B0 Bm:Nat) (s:ByteArray) (X:Rs Tr) (w:World):Prop:=∃K A,w.heap[Bm]? = some (.cells #[.int .i64 24,.int .i64 0,.string s,.string ⟨#[]⟩,.slice (some ⟨K,0,none⟩) 1 1] 44 (0,0))/\w.heap[K]? = some (.cells #[.pointer A] 24 (0,0))/\B0<=K/\w.ownsRow B0 24 1 (.slice (some ⟨K,0,none⟩) 1 1) 1 [.pointer A]/\∀t j,X = .inl (t,j)->InT w (fun q=>B0<=q/\q<w.heap.size/\q≠K) (.pointer A) t
theorem Nb.name {w:World} {b:Nat} {x:Nod} {v:Value} (h:Nb w b x v) (s:ByteArray):Nb (w.setCell ⟨b,2,none⟩ (.string s)) b {x with a:=s} v:=by
 unfold Nb at h ⊢
 simp[World.setCell,Array.getElem?_modify,h]
theorem zRx (w:World) (A:Option Addr):(w.alloc (.cells #[.pointer A] 24)).ownsRow w.heap.size 24 1 (.slice (some ⟨w.heap.size,0,none⟩) 1 1) 1 [.pointer A]:=
 ⟨rfl,.inr ⟨w.heap.size,1,#[.pointer A],rfl,Nat.le_refl _,heap_alloc_new w _,Nat.le_refl _,by unfold maxLen;omega,rfl,rfl⟩⟩
section
variable {V0:World} {v:Value} {l:List Te} {b:Nat}
theorem zRy (P:Px9 V0 v l b) (i:Nat) (e:Int) (hi:i<=l.length) (B1 B2 Bm B0:Nat) (w:World) (h1b:B1≠b) (h2b:B2≠b) (hmb:Bm≠b) (h1m:B1≠Bm) (h2m:B2≠Bm) (hVm:V0.heap.size<=Bm) (hB0:B0<=w.heap.size) (_hb0:b<B0) (_hm0:Bm<B0)
  (c1:w.heap[B1]? = some (.cells #[.pointer (some ⟨b,0,none⟩)] 183 (0,0))) (c2:w.heap[B2]? = some (.cells #[.pointer (some ⟨Bm,0,none⟩)] 24 (0,0))) (nb:Nb w Bm ⟨24,0,nob,nob⟩ (.slice none 0 0)) (h:Psr w b v i e) (hu:Up V0 w) :
  Calls Tryz.prog 233 #[.pointer (some ⟨B1,0,none⟩),.pointer (some ⟨B2,0,none⟩)] w (InL (Two b Bm) b v (rI (at0 (typL B.nck B.long (tks l)) (kS (tks l) qH (nS B.nck (tks l) (i,e))))) (rE (at0 (typL B.nck B.long (tks l)) (kS (tks l) qH (nS B.nck (tks l) (i,e))))) (P3 B0 Bm (nmS (nam B.nck (tks l) i) e) (at0 (typL B.nck B.long (tks l)) (kS (tks l) qH (nS B.nck (tks l) (i,e))))) w):=by
 have hbV:=P.Q.hb;obtain⟨s2,hs2⟩:∃s2,nS B.nck (tks l) (i,e)=s2:=⟨_,rfl⟩;have l2:s2.1<=l.length:=by rw[<- hs2];exact kJ l _ hi
 obtain⟨nm,hnm⟩:∃n,nmS (nam B.nck (tks l) i) e=n:=⟨_,rfl⟩;have cN:=fun w' (u:Up w w')=>xK P i e hi w' (h.up u) (hu.trans u)
 rw[hs2,hnm] at cN;rw[hs2,hnm];obtain⟨X,hX⟩:∃X,at0 (typL B.nck B.long (tks l)) (kS (tks l) qH s2)=X:=⟨_,rfl⟩;rw[hX];have HX:=Lib.hid hX;have k1:w.cell? ⟨B1,0,none⟩=some (.pointer (some ⟨b,0,none⟩)):=cell_of_row w B1 0 _ _ _ c1;have k2:w.cell? ⟨B2,0,none⟩=some (.pointer (some ⟨Bm,0,none⟩)):=cell_of_row w B2 0 _ _ _ c2;have hb1:=qC c1;have hb2:=qC c2;have hbm:Bm<w.heap.size:=qC nb;have HN:=Lib.hid cN;have HPX:=Lib.hid P;have HC1:=Lib.hid c1;have HC2:=Lib.hid c2;have HNB:=Lib.hid nb;have HU:=Lib.hid hu;clear cN P hs2 hnm hX c1 c2 nb hu h
 go_enter Tryz.func233,Tryz.ntmps233
 go_wp2_with fail
 go_region_held3 (fun w'=>w'.cell? ⟨B2,0,none⟩=some (.pointer (some ⟨Bm,0,none⟩))/\w'.cell? ⟨B1,0,none⟩=some (.pointer (some ⟨b,0,none⟩))) (first | go_keep | (refine⟨?_,?_⟩<;>(rw[zS _ _ _ (by simp only;omega)];assumption)))
  ((go_at_call 44;refine(HN.out _ (by first | exact Below.refl _ _ | exact qE (Below.refl _ _) 1)).mono ?_;rintro e2 w2 ⟨rfl,g2,p2⟩;have g2:Gs (On b) w w2:=⟨g2.os,g2.tape,g2.output,g2.size,g2.block⟩;have nb2:Nb w2 Bm ⟨24,0,nob,nob⟩ (.slice none 0 0):=g2.row HNB.out (by unfold On;exact hmb);have c4:w2.cell? ⟨Bm,2,none⟩=some (.string nob):=cell_of_row w2 Bm 2 _ _ _ nb2;have f4:w2.frozen? ⟨Bm,2,none⟩=false:=frozen_of_row w2 Bm 2 _ _ nb2;have k22:=g2.cell k2 (by unfold On;exact h2b);have k21:=g2.cell k1 (by unfold On;exact h1b);have hz2:=g2.size;have G2:=Lib.hid g2;have P2:=Lib.hid p2;have N2:=Lib.hid nb2;clear g2 p2 nb2 HN))
 obtain⟨q2,q1⟩:=‹(w2.setCell _ _).cell? _=_/\_›;obtain⟨w3,hw3⟩:∃w3,w2.setCell ⟨Bm,2,none⟩ (.string nm)=w3:=⟨_,rfl⟩;rw[hw3] at q1 q2;rw[hw3];have g03:Gs (Two b Bm) w w3:=by rw[<- hw3];exact G2.out.two.set _ _ (.inl (.inr rfl))
 have n3:Nb w3 Bm ⟨24,0,nm,nob⟩ (.slice none 0 0):=by rw[<- hw3];exact N2.out.name nm
 have p3:Psr w3 b v s2.1 s2.2:=by rw[<- hw3];exact((Gs.refl (On Bm) w2).set ⟨Bm,2,none⟩ _ (.inl rfl)).row P2.out (by unfold On;omega)
 have u3:Up V0 w3:=g03.up HU.out fun q hq=>by rcases hq with h | h<;>rw[h]<;>assumption
 have cT:=fun w' (u:Up w3 w')=>fA HPX.out qH s2.1 s2.2 l2 w' (p3.up u) (u3.trans u)
 rw[show at0 (typL B.nck B.long (tks l)) (kS (tks l) qH (s2.1,s2.2))=X from HX.out] at cT;have CT:=Lib.hid cT;have G03:=Lib.hid g03;have N3:=Lib.hid n3;have hz3:=g03.size;clear hw3 g03 n3 p3 u3 cT c4 f4 k21 k22;go_wp2_with fail
 go_region_held3 (fun w'=>w'.cell? ⟨B2,0,none⟩=some (.pointer (some ⟨Bm,0,none⟩))/\w'.cell? ⟨B1,0,none⟩=some (.pointer (some ⟨b,0,none⟩))) (first | go_keep | (refine⟨?_,?_⟩<;>exact((Up.refl _).alloc _).cell (by rw[zS _ _ _ (by simp only;omega)];assumption)) | (refine⟨?_,?_⟩<;>(rw[zS _ _ _ (by simp only;omega)];assumption)))
  ((go_at_call 219;refine(CT.out _ (by first | exact Below.refl _ _ | exact qE (Below.refl _ _) 1)).mono ?_;rintro e2 w5 hP;obtain⟨A5,rfl,g5,p5,n5⟩:=hP.psr;have g5:Gs (On b) w3 w5:=⟨g5.os,g5.tape,g5.output,g5.size,g5.block⟩;have nb5:=g5.row N3.out (by unfold On;exact hmb);have c54:w5.cell? ⟨Bm,4,none⟩=some (.slice none 0 0):=cell_of_row w5 Bm 4 _ _ _ nb5;have f54:w5.frozen? ⟨Bm,4,none⟩=false:=frozen_of_row w5 Bm 4 _ _ nb5;have hb5:Bm<w5.heap.size:=qC nb5;have k52:=g5.cell q2 (by unfold On;exact h2b);have k51:=g5.cell q1 (by unfold On;exact h1b);have hz5:=g5.size;have G5:=Lib.hid g5;have P5:=Lib.hid p5;have N5:=Lib.hid nb5;have M5:=Lib.hid n5;clear g5 p5 nb5 n5 hP CT))
 go_end0;clear q1 q2 ‹_/\_›;obtain⟨WF,hWF⟩:∃WF,(w5.setCell ⟨Bm,4,none⟩ (.slice (some ⟨w5.heap.size,0,none⟩) 1 1)).alloc (.cells #[.pointer A5] 24)=WF:=⟨_,rfl⟩;obtain⟨gF,rF,kF,-⟩:=zRv (W:=V0) (w4:=w3) (x:=⟨24,0,nm,nob⟩) (A:=A5) N5.out hVm (by have:=G03.out.size;omega) hz5 WF hWF;have zF:WF.heap.size=w5.heap.size+1:=by rw[<- hWF];simp[World.setCell]
 have z5:(w5.setCell ⟨Bm,4,none⟩ (.slice (some ⟨w5.heap.size,0,none⟩) 1 1)).heap.size=w5.heap.size:=by simp[World.setCell]
 have oF:=zRx (w5.setCell ⟨Bm,4,none⟩ (.slice (some ⟨w5.heap.size,0,none⟩) 1 1)) A5;rw[z5,hWF] at oF;rw[hWF];have g05:Gs (Two b Bm) w w5:=G03.out.trans G5.out.two;refine⟨⟨_,rfl⟩,g05.trans (gF.wide fun k _ hq=>.inr hq),gF.row P5.out (by unfold On;exact fun e=>hmb e.symm),w5.heap.size,A5,rF,kF,by omega,uC oF (by omega),fun t j hX=>?_⟩;have ht:NewT w3.drew w5 (.pointer A5) t:=M5.out t j hX;exact InT.keep ht (fun q hq=>⟨by have:w3.heap.size<=q:=hq.1;omega,by have:=hq.2;omega,by have:=hq.2;omega⟩) fun q hq=>gF.block q hq.2 (by have:w3.heap.size<=q:=hq.1;unfold On;omega)
end
end Go.Proofs.YtgeghilbikljcaaGreatDoor
