/-
  The document's atom.
-/
import Derived.Test.YtbpijnalmakfaaaGreatDoorGs37
import Derived.Test.YtbpijnalmakfaaaGreatDoorGs52
set_option maxHeartbeats 40000000
set_option maxRecDepth 100000
namespace Go.Proofs.YtbpijnalmakfaaaGreatDoor
open Go.RowKit
theorem yZs {lg:ByteArray→Bool} {l:List Te} {i:Nat} {t:Te} (ht:l[i]? = some t) {n:Int} (h:hdE lg l i = .num n):t.t.k=2∧t.n=n:=by
 rw[pT ht] at h;unfold hdT at h
 by_cases h3:t.t.k=3
 ·rw[if_pos h3] at h
  repeat' split at h
  all_goals cases h
 ·rw[if_neg h3] at h
  by_cases h2:t.t.k=2
  ·rw[if_pos h2] at h
   split at h
   ·injection h with h;exact⟨h2,h⟩
   ·cases h
  ·rw[if_neg h2] at h
   repeat' split at h
   all_goals cases h
theorem yZt {lg:ByteArray→Bool} {l:List Te} {i:Nat} {t:Te} (ht:l[i]? = some t) {s:ByteArray} (h:hdE lg l i = .var s):t.t.k=1∧t.t.s=s:=by
 rw[pT ht] at h;unfold hdT at h
 by_cases h3:t.t.k=3
 ·rw[if_pos h3] at h
  repeat' split at h
  all_goals cases h
 ·rw[if_neg h3] at h
  by_cases h2:t.t.k=2
  ·rw[if_pos h2] at h
   split at h
   all_goals cases h
  ·rw[if_neg h2] at h
   by_cases h1:t.t.k=1
   ·rw[if_pos h1] at h
    split at h
    ·injection h with h;exact⟨h1,h⟩
    ·cases h
   ·rw[if_neg h1] at h
    cases h
theorem pR {lg:ByteArray→Bool} {l:List Te} {i:Nat} {t:Te} (ht:l[i]? = some t) {x:Hd} (h:hdE lg l i=x) (hx:x = .boo 1∨x = .boo 0∨x = .sel 27∨x = .sel 28∨x = .opn):t.t.k=3∧((x = .boo 1∧t.t.s=kTrue)∨(x = .boo 0∧t.t.s=yH)∨(x = .sel 27∧t.t.s=kOne)∨(x = .sel 28∧t.t.s=kTwo)∨(x = .opn∧t.t.s=kOpen)):=by
 rw[pT ht] at h;unfold hdT at h
 by_cases h3:t.t.k=3
 ·refine⟨h3,?_⟩
  rw[if_pos h3] at h
  split at h
  ·exact .inl ⟨h.symm,‹_›⟩
  ·split at h
   ·exact .inr (.inl ⟨h.symm,‹_›⟩)
   ·split at h
    ·exact .inr (.inr (.inr (.inr ⟨h.symm,‹_›⟩)))
    ·split at h
     ·exact .inr (.inr (.inl ⟨h.symm,‹_›⟩))
     ·split at h
      ·exact .inr (.inr (.inr (.inl ⟨h.symm,‹_›⟩)))
      ·subst h
       rcases hx with h | h | h | h | h<;>cases h
 ·exfalso
  rw[if_neg h3] at h
  split at h
  ·split at h
   all_goals (subst h;rcases hx with h | h | h | h | h<;>cases h)
  ·split at h
   ·split at h
    all_goals (subst h;rcases hx with h | h | h | h | h<;>cases h)
   ·subst h
    rcases hx with h | h | h | h | h<;>cases h
theorem zWu {W w:World} {o:Obj} {k n:Int} {s:ByteArray} (hW:W.heap.size≤w.heap.size):NewT W ((w.alloc o).alloc (.cells #[.int .i64 k,.int .i64 n,.string s,.string ⟨#[]⟩,.slice none 0 0] 57)) (.pointer (some ⟨w.heap.size+1,0,none⟩)) (⟨k,n,s,nob⟩,.nil):=by
 have h:=lH (W:=W) (w:=w.alloc o) (k:=k) (n:=n) (s:=s) (by have:=((Up.refl w).alloc o).size;omega);rw[show(w.alloc o).heap.size=w.heap.size+1 from by simp] at h;exact h
theorem zDd (l:List Te) (A E:Nat→Rs Tr) (i:Nat) (hl:l.length≤1000000) (hz:∀t∈l,t.t.s.size≤1000000000) (w:World) (v:Value) (hv:Tke w v l) (x:Int) (h:hdE B.long l i = .num x) :
  Calls Tryz.prog 228 #[v,.int .i64 (i:Int)] w (qO (qK B.long l A E i) w):=by
 have hlt:i<l.length:=jV (lg:=B.long) (by rw[h];rfl);obtain⟨t,ht⟩:∃t,l[i]? = some t:=⟨_,List.getElem?_eq_getElem hlt⟩;have cS:=kU l i hz w v hv;rw[h] at cS;have HV:=Lib.hid hv;have hw1:=qS i 1 (by omega) (by omega);have hw2:=qS i 2 (by omega) (by omega);obtain⟨e1,e2⟩:=yZs ht h;have hR:qK B.long l A E i = .inl ((⟨20,x,nob,nob⟩,.nil),i+1):=by unfold qK;rw[h]
 rw[hR];obtain⟨V,hVe⟩:∃V,v=V:=⟨_,rfl⟩;obtain⟨G,c,hsl,hc⟩:=hv;obtain⟨b,o,rfl,hb,c0,c1,c2,m,c3⟩:=hc i t ht;obtain⟨n,hn⟩:∃n,l.length=n:=⟨_,rfl⟩;rw[hn] at hsl;subst hsl;have hki:(i:Int)<(n:Int):=by omega
 rw[e1] at c0;rw[e2] at c2;clear e1 e2 h hR;clear hc ht hz hVe
 go_enter Tryz.func228,Tryz.ntmps228
 go_wp2_with fail;refine cS.mono ?_;rintro e w1 ⟨rfl,u1⟩;have d0:=(show Up w w1 from u1).cell c0;have d1:=(show Up w w1 from u1).cell c1;have d2:=(show Up w w1 from u1).cell c2;have d3:=(show Up w w1 from u1).cell c3;clear c0 c1 c2 c3 cS;go_wp2_with fail
 go_ret3
 exact⟨_,_,_,rfl,⟨by first | exact zWu u1.size | exact lH (by have:=u1.size;simp;omega),by first | rfl | omega,rfl⟩,by first | exact(u1.alloc _).alloc _⟩
theorem zDe (l:List Te) (A E:Nat→Rs Tr) (i:Nat) (hl:l.length≤1000000) (hz:∀t∈l,t.t.s.size≤1000000000) (w:World) (v:Value) (hv:Tke w v l) (x:ByteArray) (h:hdE B.long l i = .var x) :
  Calls Tryz.prog 228 #[v,.int .i64 (i:Int)] w (qO (qK B.long l A E i) w):=by
 have hlt:i<l.length:=jV (lg:=B.long) (by rw[h];rfl);obtain⟨t,ht⟩:∃t,l[i]? = some t:=⟨_,List.getElem?_eq_getElem hlt⟩;have cS:=kU l i hz w v hv;rw[h] at cS;have HV:=Lib.hid hv;have hw1:=qS i 1 (by omega) (by omega);have hw2:=qS i 2 (by omega) (by omega);obtain⟨e1,e2⟩:=yZt ht h;have hR:qK B.long l A E i = .inl (nd 23 x .nil,i+1):=by unfold qK;rw[h]
 rw[hR];obtain⟨V,hVe⟩:∃V,v=V:=⟨_,rfl⟩;obtain⟨G,c,hsl,hc⟩:=hv;obtain⟨b,o,rfl,hb,c0,c1,c2,m,c3⟩:=hc i t ht;obtain⟨n,hn⟩:∃n,l.length=n:=⟨_,rfl⟩;rw[hn] at hsl;subst hsl;have hki:(i:Int)<(n:Int):=by omega
 rw[e1] at c0;rw[e2] at c1;clear e1 e2 h hR;clear hc ht hz hVe
 go_enter Tryz.func228,Tryz.ntmps228
 go_wp2_with fail;refine cS.mono ?_;rintro e w1 ⟨rfl,u1⟩;have d0:=(show Up w w1 from u1).cell c0;have d1:=(show Up w w1 from u1).cell c1;have d2:=(show Up w w1 from u1).cell c2;have d3:=(show Up w w1 from u1).cell c3;clear c0 c1 c2 c3 cS;go_wp2_with fail;refine(yI 23 x _ _ _ _).mono ?_;rintro e w2 ⟨rfl,rfl⟩;go_wp2_with fail
 go_ret3
 exact⟨_,_,_,rfl,⟨by first | exact zWu u1.size | exact lH (by have:=u1.size;simp;omega),by first | rfl | omega,rfl⟩,by first | exact(u1.alloc _).alloc _⟩
theorem zDf (l:List Te) (A E:Nat→Rs Tr) (i:Nat) (hl:l.length≤1000000) (hz:∀t∈l,t.t.s.size≤1000000000) (w:World) (v:Value) (hv:Tke w v l) (h:hdE B.long l i = .boo 1) :
  Calls Tryz.prog 228 #[v,.int .i64 (i:Int)] w (qO (qK B.long l A E i) w):=by
 have hlt:i<l.length:=jV (lg:=B.long) (by rw[h];rfl);obtain⟨t,ht⟩:∃t,l[i]? = some t:=⟨_,List.getElem?_eq_getElem hlt⟩;have cS:=kU l i hz w v hv;rw[h] at cS;have HV:=Lib.hid hv;have hw1:=qS i 1 (by omega) (by omega);have hw2:=qS i 2 (by omega) (by omega);obtain⟨e1,e2⟩:=pR ht h (by simp);have e2:t.t.s=kTrue:=by simpa using e2
 have hR:qK B.long l A E i = .inl ((⟨21,1,nob,nob⟩,.nil),i+1):=by unfold qK;rw[h]
 rw[hR];obtain⟨V,hVe⟩:∃V,v=V:=⟨_,rfl⟩;obtain⟨G,c,hsl,hc⟩:=hv;obtain⟨b,o,rfl,hb,c0,c1,c2,m,c3⟩:=hc i t ht;obtain⟨n,hn⟩:∃n,l.length=n:=⟨_,rfl⟩;rw[hn] at hsl;subst hsl;have hki:(i:Int)<(n:Int):=by omega
 rw[e1] at c0;obtain⟨s,hs⟩:∃s,t.t.s=s:=⟨_,rfl⟩;rw[hs] at c1;rw[e2] at hs;have hs:=hs.symm;have qkTrue:(s.toList==[116,114,117,101])=true:=(jA s kTrue).trans (by rw[hs];decide);have pkTrue:s.toList=[116,114,117,101]:=beq_iff_eq.1 qkTrue;clear e1 e2 h hR hs;clear hc ht hz hVe
 go_enter Tryz.func228,Tryz.ntmps228
 go_wp2_with fail;refine cS.mono ?_;rintro e w1 ⟨rfl,u1⟩;have d0:=(show Up w w1 from u1).cell c0;have d1:=(show Up w w1 from u1).cell c1;have d2:=(show Up w w1 from u1).cell c2;have d3:=(show Up w w1 from u1).cell c3;clear c0 c1 c2 c3 cS;go_wp2_with fail
 go_ret3
 exact⟨_,_,_,rfl,⟨by first | exact zWu u1.size | exact lH (by have:=u1.size;simp;omega),by first | rfl | omega,rfl⟩,by first | exact(u1.alloc _).alloc _⟩
theorem zDg (l:List Te) (A E:Nat→Rs Tr) (i:Nat) (hl:l.length≤1000000) (hz:∀t∈l,t.t.s.size≤1000000000) (w:World) (v:Value) (hv:Tke w v l) (h:hdE B.long l i = .boo 0) :
  Calls Tryz.prog 228 #[v,.int .i64 (i:Int)] w (qO (qK B.long l A E i) w):=by
 have hlt:i<l.length:=jV (lg:=B.long) (by rw[h];rfl);obtain⟨t,ht⟩:∃t,l[i]? = some t:=⟨_,List.getElem?_eq_getElem hlt⟩;have cS:=kU l i hz w v hv;rw[h] at cS;have HV:=Lib.hid hv;have hw1:=qS i 1 (by omega) (by omega);have hw2:=qS i 2 (by omega) (by omega);obtain⟨e1,e2⟩:=pR ht h (by simp);have e2:t.t.s=yH:=by simpa using e2
 have hR:qK B.long l A E i = .inl ((⟨21,0,nob,nob⟩,.nil),i+1):=by unfold qK;rw[h]
 rw[hR];obtain⟨V,hVe⟩:∃V,v=V:=⟨_,rfl⟩;obtain⟨G,c,hsl,hc⟩:=hv;obtain⟨b,o,rfl,hb,c0,c1,c2,m,c3⟩:=hc i t ht;obtain⟨n,hn⟩:∃n,l.length=n:=⟨_,rfl⟩;rw[hn] at hsl;subst hsl;have hki:(i:Int)<(n:Int):=by omega
 rw[e1] at c0;obtain⟨s,hs⟩:∃s,t.t.s=s:=⟨_,rfl⟩;rw[hs] at c1;rw[e2] at hs;have hs:=hs.symm;have qkTrue:(s.toList==[116,114,117,101])=false:=(jA s kTrue).trans (by rw[hs];decide);have pkTrue:¬s.toList=[116,114,117,101]:=beq_eq_false_iff_ne.1 qkTrue;have qkFalse:(s.toList==[102,97,108,115,101])=true:=(jA s yH).trans (by rw[hs];decide);have pkFalse:s.toList=[102,97,108,115,101]:=beq_iff_eq.1 qkFalse;clear e1 e2 h hR hs;clear hc ht hz hVe
 go_enter Tryz.func228,Tryz.ntmps228
 go_wp2_with fail;refine cS.mono ?_;rintro e w1 ⟨rfl,u1⟩;have d0:=(show Up w w1 from u1).cell c0;have d1:=(show Up w w1 from u1).cell c1;have d2:=(show Up w w1 from u1).cell c2;have d3:=(show Up w w1 from u1).cell c3;clear c0 c1 c2 c3 cS;go_wp2_with fail;refine(yI 21 nob _ _ _ _).mono ?_;rintro e w2 ⟨rfl,rfl⟩;go_wp2_with fail
 go_ret3
 exact⟨_,_,_,rfl,⟨by first | exact zWu u1.size | exact lH (by have:=u1.size;simp;omega),by first | rfl | omega,rfl⟩,by first | exact(u1.alloc _).alloc _⟩
theorem zDh (l:List Te) (A E:Nat→Rs Tr) (i:Nat) (hl:l.length≤1000000) (hz:∀t∈l,t.t.s.size≤1000000000) (w:World) (v:Value) (hv:Tke w v l) (cA:∀(j:Nat) (W:World),i<j→j≤l.length→Up w W→Calls Tryz.prog 228 #[v,.int .i64 (j:Int)] W (qO (A j) W)) (h:hdE B.long l i = .sel 27) :
  Calls Tryz.prog 228 #[v,.int .i64 (i:Int)] w (qO (qK B.long l A E i) w):=by
 have hlt:i<l.length:=jV (lg:=B.long) (by rw[h];rfl);obtain⟨t,ht⟩:∃t,l[i]? = some t:=⟨_,List.getElem?_eq_getElem hlt⟩;have cS:=kU l i hz w v hv;rw[h] at cS;have HV:=Lib.hid hv;have hw1:=qS i 1 (by omega) (by omega);have hw2:=qS i 2 (by omega) (by omega);obtain⟨e1,e2⟩:=pR ht h (by simp);have e2:t.t.s=kOne:=by simpa using e2
 have hR:qK B.long l A E i=thn (A (i+1)) fun a j=>.inl (nd 27 nob (fr1 a),j):=by unfold qK;rw[h]
 rw[hR];obtain⟨V,hVe⟩:∃V,v=V:=⟨_,rfl⟩;obtain⟨G,c,hsl,hc⟩:=hv;obtain⟨b,o,rfl,hb,c0,c1,c2,m,c3⟩:=hc i t ht;obtain⟨n,hn⟩:∃n,l.length=n:=⟨_,rfl⟩;rw[hn] at hsl;subst hsl;have hki:(i:Int)<(n:Int):=by omega
 have cA:=fun W u=>cA (i+1) W (Nat.lt_succ_self i) hlt u
 obtain⟨R1,hR1⟩:∃R1,A (i+1)=R1:=⟨_,rfl⟩;rw[hR1] at cA ⊢;rw[e1] at c0;obtain⟨s,hs⟩:∃s,t.t.s=s:=⟨_,rfl⟩;rw[hs] at c1;rw[e2] at hs;have hs:=hs.symm;have qkTrue:(s.toList==[116,114,117,101])=false:=(jA s kTrue).trans (by rw[hs];decide);have pkTrue:¬s.toList=[116,114,117,101]:=beq_eq_false_iff_ne.1 qkTrue;have qkFalse:(s.toList==[102,97,108,115,101])=false:=(jA s yH).trans (by rw[hs];decide);have pkFalse:¬s.toList=[102,97,108,115,101]:=beq_eq_false_iff_ne.1 qkFalse;have qkOne:(s.toList==[35,49])=true:=(jA s kOne).trans (by rw[hs];decide);have pkOne:s.toList=[35,49]:=beq_iff_eq.1 qkOne;have qkTwo:(s.toList==[35,50])=false:=(jA s kTwo).trans (by rw[hs];decide);have pkTwo:¬s.toList=[35,50]:=beq_eq_false_iff_ne.1 qkTwo;clear hR1 e1 e2 h hR hs;clear hc ht hz hVe
 go_enter Tryz.func228,Tryz.ntmps228
 go_wp2_with fail;refine cS.mono ?_;rintro e w1 ⟨rfl,u1⟩;have d0:=(show Up w w1 from u1).cell c0;have d1:=(show Up w w1 from u1).cell c1;have d2:=(show Up w w1 from u1).cell c2;have d3:=(show Up w w1 from u1).cell c3;clear c0 c1 c2 c3 cS;go_wp2_with fail;refine(cA _ (u1.alloc _)).mono ?_;rintro e w3 ⟨va,q,er,rfl,hV,u3⟩;have x1:w3.cell? ⟨w1.heap.size,1,none⟩=some (.string s):=u3.cell (sU rfl);have U3:Up w w3:=(u1.alloc _).trans u3;obtain⟨pa,rfl⟩:=hV.ptr;have HVV:=Lib.hid hV;clear hV;go_wp2_with fail;refine(yI 27 nob _ _ _ _).mono ?_;rintro e w4 ⟨rfl,rfl⟩;go_wp2_with fail
 go_ret3
 refine⟨_,_,_,rfl,?_,(U3.alloc _).alloc _⟩;have hV:=HVV.out
 cases R1 with
 | inr r=>exact⟨hV.1,hV.2.1,_,rfl⟩
 | inl r=>exact⟨has1 U3.size (hV.1.from (u1.alloc _) (Up.refl _)),hV.2.1,hV.2.2⟩
theorem zDi (l:List Te) (A E:Nat→Rs Tr) (i:Nat) (hl:l.length≤1000000) (hz:∀t∈l,t.t.s.size≤1000000000) (w:World) (v:Value) (hv:Tke w v l) (cA:∀(j:Nat) (W:World),i<j→j≤l.length→Up w W→Calls Tryz.prog 228 #[v,.int .i64 (j:Int)] W (qO (A j) W)) (h:hdE B.long l i = .sel 28) :
  Calls Tryz.prog 228 #[v,.int .i64 (i:Int)] w (qO (qK B.long l A E i) w):=by
 have hlt:i<l.length:=jV (lg:=B.long) (by rw[h];rfl);obtain⟨t,ht⟩:∃t,l[i]? = some t:=⟨_,List.getElem?_eq_getElem hlt⟩;have cS:=kU l i hz w v hv;rw[h] at cS;have HV:=Lib.hid hv;have hw1:=qS i 1 (by omega) (by omega);have hw2:=qS i 2 (by omega) (by omega);obtain⟨e1,e2⟩:=pR ht h (by simp);have e2:t.t.s=kTwo:=by simpa using e2
 have hR:qK B.long l A E i=thn (A (i+1)) fun a j=>.inl (nd 28 nob (fr1 a),j):=by unfold qK;rw[h]
 rw[hR];obtain⟨V,hVe⟩:∃V,v=V:=⟨_,rfl⟩;obtain⟨G,c,hsl,hc⟩:=hv;obtain⟨b,o,rfl,hb,c0,c1,c2,m,c3⟩:=hc i t ht;obtain⟨n,hn⟩:∃n,l.length=n:=⟨_,rfl⟩;rw[hn] at hsl;subst hsl;have hki:(i:Int)<(n:Int):=by omega
 have cA:=fun W u=>cA (i+1) W (Nat.lt_succ_self i) hlt u
 obtain⟨R1,hR1⟩:∃R1,A (i+1)=R1:=⟨_,rfl⟩;rw[hR1] at cA ⊢;rw[e1] at c0;obtain⟨s,hs⟩:∃s,t.t.s=s:=⟨_,rfl⟩;rw[hs] at c1;rw[e2] at hs;have hs:=hs.symm;have qkTrue:(s.toList==[116,114,117,101])=false:=(jA s kTrue).trans (by rw[hs];decide);have pkTrue:¬s.toList=[116,114,117,101]:=beq_eq_false_iff_ne.1 qkTrue;have qkFalse:(s.toList==[102,97,108,115,101])=false:=(jA s yH).trans (by rw[hs];decide);have pkFalse:¬s.toList=[102,97,108,115,101]:=beq_eq_false_iff_ne.1 qkFalse;have qkOne:(s.toList==[35,49])=false:=(jA s kOne).trans (by rw[hs];decide);have pkOne:¬s.toList=[35,49]:=beq_eq_false_iff_ne.1 qkOne;have qkTwo:(s.toList==[35,50])=true:=(jA s kTwo).trans (by rw[hs];decide);have pkTwo:s.toList=[35,50]:=beq_iff_eq.1 qkTwo;clear hR1 e1 e2 h hR hs;clear hc ht hz hVe
 go_enter Tryz.func228,Tryz.ntmps228
 go_wp2_with fail;refine cS.mono ?_;rintro e w1 ⟨rfl,u1⟩;have d0:=(show Up w w1 from u1).cell c0;have d1:=(show Up w w1 from u1).cell c1;have d2:=(show Up w w1 from u1).cell c2;have d3:=(show Up w w1 from u1).cell c3;clear c0 c1 c2 c3 cS;go_wp2_with fail;refine(cA _ (u1.alloc _)).mono ?_;rintro e w3 ⟨va,q,er,rfl,hV,u3⟩;have x1:w3.cell? ⟨w1.heap.size,1,none⟩=some (.string s):=u3.cell (sU rfl);have U3:Up w w3:=(u1.alloc _).trans u3;obtain⟨pa,rfl⟩:=hV.ptr;have HVV:=Lib.hid hV;clear hV;go_wp2_with fail;refine(yI 28 nob _ _ _ _).mono ?_;rintro e w4 ⟨rfl,rfl⟩;go_wp2_with fail
 go_ret3
 refine⟨_,_,_,rfl,?_,(U3.alloc _).alloc _⟩;have hV:=HVV.out
 cases R1 with
 | inr r=>exact⟨hV.1,hV.2.1,_,rfl⟩
 | inl r=>exact⟨has1 U3.size (hV.1.from (u1.alloc _) (Up.refl _)),hV.2.1,hV.2.2⟩
theorem zKw (l:List Te) (A E:Nat→Rs Tr) (i:Nat) (hl:l.length≤1000000) (hz:∀t∈l,t.t.s.size≤1000000000) (w:World) (v:Value) (hv:Tke w v l) (H:zWt l E i w v) (h:hdE B.long l i = .opn) (hk:key (tks l) (i+1) kShut=true) :
  Calls Tryz.prog 228 #[v,.int .i64 (i:Int)] w (qO (qK B.long l A E i) w):=by
 have hlt:i<l.length:=jV (lg:=B.long) (by rw[h];rfl);obtain⟨t,ht⟩:∃t,l[i]? = some t:=⟨_,List.getElem?_eq_getElem hlt⟩;have cS:=kU l i hz w v hv;rw[h] at cS;have HV:=Lib.hid hv;have hw1:=qS i 1 (by omega) (by omega);have hw2:=qS i 2 (by omega) (by omega);obtain⟨e1,e2⟩:=pR ht h (by simp);have e2:t.t.s=kOpen:=by simpa using e2
 have cK1:=H.key (i+1) kShut;rw[hk] at cK1;have hR:qK B.long l A E i = .inl (nd 22 nob .nil,i+2):=by unfold qK;rw[h];simp only;rw[if_pos hk]
 rw[hR];clear hR h;obtain⟨V,hVe⟩:∃V,v=V:=⟨_,rfl⟩;obtain⟨G,c,hsl,hc⟩:=hv;obtain⟨b,o,rfl,hb,c0,c1,c2,m,c3⟩:=hc i t ht;obtain⟨n,hn⟩:∃n,l.length=n:=⟨_,rfl⟩;rw[hn] at hsl;subst hsl;have hki:(i:Int)<(n:Int):=by omega
 rw[e1] at c0;obtain⟨s,hs⟩:∃s,t.t.s=s:=⟨_,rfl⟩;rw[hs] at c1;rw[e2] at hs;have hs:=hs.symm;have qkTrue:(s.toList==[116,114,117,101])=false:=(jA s kTrue).trans (by rw[hs];decide);have pkTrue:¬s.toList=[116,114,117,101]:=beq_eq_false_iff_ne.1 qkTrue;have qkFalse:(s.toList==[102,97,108,115,101])=false:=(jA s yH).trans (by rw[hs];decide);have pkFalse:¬s.toList=[102,97,108,115,101]:=beq_eq_false_iff_ne.1 qkFalse;have qkOne:(s.toList==[35,49])=false:=(jA s kOne).trans (by rw[hs];decide);have pkOne:¬s.toList=[35,49]:=beq_eq_false_iff_ne.1 qkOne;have qkTwo:(s.toList==[35,50])=false:=(jA s kTwo).trans (by rw[hs];decide);have pkTwo:¬s.toList=[35,50]:=beq_eq_false_iff_ne.1 qkTwo;clear e1 e2 hs;clear hc ht hz hVe
 go_enter Tryz.func228,Tryz.ntmps228
 go_wp2_with fail;refine cS.mono ?_;rintro e w1 ⟨rfl,u1⟩;have d0:=(show Up w w1 from u1).cell c0;have d1:=(show Up w w1 from u1).cell c1;have d2:=(show Up w w1 from u1).cell c2;have d3:=(show Up w w1 from u1).cell c3;clear c0 c1 c2 c3 cS;go_wp2_with fail;refine(cK1 _ (u1.alloc _)).mono ?_;rintro e w2 ⟨rfl,u2⟩;have U2:Up w w2:=(u1.alloc _).trans u2;go_wp2_with fail;refine(yI 22 nob _ _ _ _).mono ?_;rintro e w3 ⟨rfl,rfl⟩;go_wp2_with fail
 go_ret3
 exact⟨_,_,_,rfl,⟨lH U2.size,by first | rfl | omega,rfl⟩,U2.alloc _⟩
theorem zDj (l:List Te) (A E:Nat→Rs Tr) (i:Nat) (hl:l.length≤1000000) (hz:∀t∈l,t.t.s.size≤1000000000) (w:World) (v:Value) (hv:Tke w v l) (H:zWt l E i w v) (h:hdE B.long l i = .opn) (hk:key (tks l) (i+1) kShut=false) :
  Calls Tryz.prog 228 #[v,.int .i64 (i:Int)] w (qO (qK B.long l A E i) w):=by
 have hlt:i<l.length:=jV (lg:=B.long) (by rw[h];rfl);obtain⟨t,ht⟩:∃t,l[i]? = some t:=⟨_,List.getElem?_eq_getElem hlt⟩;have cS:=kU l i hz w v hv;rw[h] at cS;have HV:=Lib.hid hv;have hw1:=qS i 1 (by omega) (by omega);have hw2:=qS i 2 (by omega) (by omega);obtain⟨e1,e2⟩:=pR ht h (by simp);have e2:t.t.s=kOpen:=by simpa using e2
 have cK1:=H.key (i+1) kShut;rw[hk] at cK1;obtain⟨R,hRe⟩:∃R,qK B.long l A E i=R:=⟨_,rfl⟩;have hRR:R=thn (E (i+1)) fun a j=>(if key (tks l) j qJ then thn (thenK (tks l) (E (j+1)) [kShut]) (fun b m=>.inl (nd 26 nob (fr2 a b),m)) else thn (keysL (tks l) j [kShut]) fun _ m=>.inl (a,m)):=by
  rw[←hRe];unfold qK;rw[h];simp only;rw[if_neg (by rw[hk];decide)]
 rw[hRe];have HR:=Lib.hid hRR;have cX:=fun W u=>H.expr (i+1) W (Nat.lt_succ_self i) hlt u
 have aX:=H.inE (i+1) hlt;obtain⟨R1,hR1⟩:∃R1,E (i+1)=R1:=⟨_,rfl⟩;rw[hR1] at cX aX;have HR1:=Lib.hid hR1;clear hR1 hRe hRR h;obtain⟨V,hVe⟩:∃V,v=V:=⟨_,rfl⟩;obtain⟨G,c,hsl,hc⟩:=hv;obtain⟨b,o,rfl,hb,c0,c1,c2,m,c3⟩:=hc i t ht;obtain⟨n,hn⟩:∃n,l.length=n:=⟨_,rfl⟩;rw[hn] at hsl;subst hsl;have hki:(i:Int)<(n:Int):=by omega
 rw[e1] at c0;obtain⟨s,hs⟩:∃s,t.t.s=s:=⟨_,rfl⟩;rw[hs] at c1;rw[e2] at hs;have hs:=hs.symm;have qkTrue:(s.toList==[116,114,117,101])=false:=(jA s kTrue).trans (by rw[hs];decide);have pkTrue:¬s.toList=[116,114,117,101]:=beq_eq_false_iff_ne.1 qkTrue;have qkFalse:(s.toList==[102,97,108,115,101])=false:=(jA s yH).trans (by rw[hs];decide);have pkFalse:¬s.toList=[102,97,108,115,101]:=beq_eq_false_iff_ne.1 qkFalse;have qkOne:(s.toList==[35,49])=false:=(jA s kOne).trans (by rw[hs];decide);have pkOne:¬s.toList=[35,49]:=beq_eq_false_iff_ne.1 qkOne;have qkTwo:(s.toList==[35,50])=false:=(jA s kTwo).trans (by rw[hs];decide);have pkTwo:¬s.toList=[35,50]:=beq_eq_false_iff_ne.1 qkTwo;clear e1 e2 hs;clear hc ht hz hVe
 go_enter Tryz.func228,Tryz.ntmps228
 go_wp2_with fail;refine cS.mono ?_;rintro e w1 ⟨rfl,u1⟩;have d0:=(show Up w w1 from u1).cell c0;have d1:=(show Up w w1 from u1).cell c1;have d2:=(show Up w w1 from u1).cell c2;have d3:=(show Up w w1 from u1).cell c3;clear c0 c1 c2 c3 cS;go_wp2_with fail;refine(cK1 _ (u1.alloc _)).mono ?_;rintro e w2 ⟨rfl,u2⟩;have U2:Up w w2:=(u1.alloc _).trans u2;go_wp2_with fail;refine(cX _ U2).mono ?_;rintro e w3 ⟨va,ja,ea,rfl,hV,u3⟩;have U3:Up w w3:=U2.trans u3
 cases R1 with
 | inr r=>
  obtain⟨p,er⟩:=r;obtain⟨rfl,rfl,A1,rfl⟩:=hV;have hne:=aX.ne rfl;go_wp2_with fail
  go_ret3
  rw[show R = .inr (p,ea) from by rw[HR.out,HR1.out];rfl];exact⟨_,_,_,rfl,⟨rfl,rfl,none,rfl⟩,U3⟩
 | inl r=>
  obtain⟨a,j⟩:=r;obtain⟨hT,rfl,rfl⟩:=hV;obtain⟨o1,p1,rfl⟩:=InT.ptr hT;have hj:i+1<j∧j≤l.length:=aX;have cC:=H.key j qJ
  cases hb:key (tks l) j qJ with
  | true=>
   rw[hb] at cC;have hj1:j+1≤l.length:=qH hb;have hw3:=qS j 1 (by omega) (by omega);have cB:=fun W vk u h=>H.sub (j+1) [kShut] W vk (by omega) hj1 u h
   obtain⟨R3,hR3⟩:∃R3,thenK (tks l) (E (j+1)) [kShut]=R3:=⟨_,rfl⟩;rw[hR3] at cB;have hRR:R=thn R3 fun b m=>.inl (nd 26 nob (fr2 a b),m):=by rw[HR.out,HR1.out];show(if key (tks l) j qJ=true then _ else _)=_;rw[hb,if_pos rfl,hR3]
   have HRR:=Lib.hid hRR;clear hRR hb hR3 cX aX;go_wp2_with fail;refine(cC _ U3).mono ?_;rintro e w4 ⟨rfl,u4⟩;have U4:Up w w4:=U3.trans u4;go_wp2_with fail;refine(cB _ _ (U4.alloc _) (TxS.row1 w4 kShut _)).mono ?_;rintro e w5 ⟨vb,q,er,rfl,hV,u5⟩;have U5:Up w w5:=(U4.alloc _).trans u5;obtain⟨pb,rfl⟩:=hV.ptr;have HVV:=Lib.hid hV;clear hV;go_wp2_with fail;refine(yI 26 nob _ _ _ _).mono ?_;rintro e w6 ⟨rfl,rfl⟩;go_wp2_with fail
   go_ret3
   rw[HRR.out];refine⟨_,_,_,rfl,?_,(U5.alloc _).alloc _⟩;have hV:=HVV.out
   cases R3 with
   | inr r=>exact⟨hV.1,hV.2.1,_,rfl⟩
   | inl r=>exact⟨zXg U5.size (hT.from U2 (u4.trans (((Up.refl _).alloc _).trans u5))) (hV.1.from (U4.alloc _) (Up.refl _)),hV.2.1,hV.2.2⟩
  | false=>
   rw[hb] at cC;have cB:=fun W vk u h=>H.keys j [kShut] W vk hj.2 u h
   obtain⟨R3,hR3⟩:∃R3,keysL (tks l) j [kShut]=R3:=⟨_,rfl⟩;rw[hR3] at cB;have hRR:R=thn R3 fun _ m=>.inl (a,m):=by rw[HR.out,HR1.out];show(if key (tks l) j qJ=true then _ else _)=_;rw[hb,if_neg (by decide),hR3]
   have HRR:=Lib.hid hRR;clear hRR hb hR3 cX aX;go_wp2_with fail;refine(cC _ U3).mono ?_;rintro e w4 ⟨rfl,u4⟩;have U4:Up w w4:=U3.trans u4;go_wp2_with fail;refine(cB _ _ (U4.alloc _) (TxS.row1 w4 kShut _)).mono ?_;rintro e w5 ⟨q,er,rfl,hV,u5⟩;have U5:Up w w5:=(U4.alloc _).trans u5;have HVV:=Lib.hid hV;clear hV;go_wp2_with fail
   go_ret3
   rw[HRR.out];refine⟨_,_,_,rfl,?_,U5⟩;have hV:=HVV.out
   cases R3 with
   | inr r=>exact⟨hV.1,hV.2,_,rfl⟩
   | inl r=>exact⟨hT.from U2 (u4.trans (((Up.refl _).alloc _).trans u5)),hV.1,hV.2⟩
theorem yZu (l:List Te) (A E:Nat→Rs Tr) (i:Nat) (hz:∀t∈l,t.t.s.size≤1000000000) (w:World) (v:Value) (hv:Tke w v l) (h:hdE B.long l i = .no) :
  Calls Tryz.prog 228 #[v,.int .i64 (i:Int)] w (qO (qK B.long l A E i) w):=by
 have cS:=kU l i hz w v hv;rw[h] at cS;have hR:qK B.long l A E i = .inr (i,6):=by unfold qK;rw[h]
 rw[hR];clear h hR hv hz
 go_enter Tryz.func228,Tryz.ntmps228
 go_wp2_with fail;refine cS.mono ?_;rintro e w1 ⟨rfl,u1⟩;go_wp2_with fail
 go_ret3
 exact⟨_,_,_,rfl,⟨rfl,rfl,none,rfl⟩,u1⟩
theorem yZv {W w:World} {vt:Value} {t:Tr} {c x:ByteArray} (hW:W.heap.size≤w.heap.size) (ht:NewT W w vt t) :
  NewT W ((w.alloc (.cells #[vt] 24)).alloc (.cells #[.int .i64 34,.int .i64 0,.string c,.string x,.slice (some ⟨w.heap.size,0,none⟩) 1 1] 57)) (.pointer (some ⟨w.heap.size+1,0,none⟩)) (⟨34,0,c,x⟩,fr1 t):=by
 have e1:(w.alloc (.cells #[vt] 24)).heap.size=w.heap.size+1:=by simp
 rw[←e1];obtain⟨W1,hW1⟩:∃W1,w.alloc (.cells #[vt] 24)=W1:=⟨_,rfl⟩;have s1:W1.heap[w.heap.size]? = some (.cells #[vt] 24 (0,0)):=by rw[←hW1];exact heap_alloc_new w _
 have u1:Up w W1:=by rw[←hW1];exact(Up.refl w).alloc _
 have z1:=u1.size;rw[hW1];obtain⟨W2,hW2⟩:∃W2,W1.alloc (.cells #[.int .i64 34,.int .i64 0,.string c,.string x,.slice (some ⟨w.heap.size,0,none⟩) 1 1] 57)=W2:=⟨_,rfl⟩;have s2:W2.heap[W1.heap.size]? = some (.cells #[.int .i64 34,.int .i64 0,.string c,.string x,.slice (some ⟨w.heap.size,0,none⟩) 1 1] 57 (0,0)):=by rw[←hW2];exact heap_alloc_new W1 _
 have u2:Up W1 W2:=by rw[←hW2];exact(Up.refl W1).alloc _
 have s3:W2.heap[w.heap.size]? = some (.cells #[vt] 24 (0,0)):=u2.row s1;rw[hW2];exact yX (x:=⟨34,0,c,x⟩) (f:=fr1 t) s2 rfl (Nat.le_refl _) ⟨by omega,qC s2⟩ ⟨hW,qC s3⟩ ⟨⟨_,cell_of_row W2 w.heap.size 0 _ _ _ s3,ht.up (u1.trans u2)⟩,trivial⟩
def armW (w4:World) (vt:Value) (c x:ByteArray):World:=((w4.alloc (.cells #[vt] 24)).alloc (.cells #[.int .i64 34,.int .i64 0,.string c,.string x,.slice (some ⟨w4.heap.size,0,none⟩) 1 1] 57)).alloc (.cells #[.pointer (some ⟨w4.heap.size+1,0,none⟩)] 24)
theorem zNl (w4:World) (vt:Value) (c x:ByteArray):Up w4 (armW w4 vt c x):=(((Up.refl w4).alloc _).alloc _).alloc _
theorem zKx (w4:World) (vt:Value) (c x:ByteArray):(armW w4 vt c x).heap.size=w4.heap.size+3:=by unfold armW;simp
theorem zDk {wr w4:World} {vt:Value} {c x:ByteArray} {t:Tr} (h:NewT wr w4 vt t) (hw:wr.heap.size≤w4.heap.size):NewT wr (armW w4 vt c x) (.pointer (some ⟨w4.heap.size+1,0,none⟩)) (⟨34,0,c,x⟩,fr1 t):=
 (yZv hw h).up ((Up.refl _).alloc _)
theorem zKy (w4:World) (vt:Value) (c x:ByteArray):∀j u,[Value.pointer (some ⟨w4.heap.size+1,0,none⟩)][j]? = some u→(armW w4 vt c x).cell? ((⟨w4.heap.size+2,0,none⟩:Addr).add j)=some u:=by
 intro j u hj;have e:((w4.alloc (.cells #[vt] 24)).alloc (.cells #[.int .i64 34,.int .i64 0,.string c,.string x,.slice (some ⟨w4.heap.size,0,none⟩) 1 1] 57)).heap.size=w4.heap.size+2:=by simp
 have h:=cell_one_new ((w4.alloc (.cells #[vt] 24)).alloc (.cells #[.int .i64 34,.int .i64 0,.string c,.string x,.slice (some ⟨w4.heap.size,0,none⟩) 1 1] 57)) (.pointer (some ⟨w4.heap.size+1,0,none⟩)) 24 j u hj;rw[e] at h;exact h
theorem KidsV.nil (W w:World):KidsV W w (.slice none 0 0) .nil:=⟨[],none,0,rfl,Nat.zero_le _,trivial,fun _=>⟨rfl,rfl⟩,fun h=>absurd h (Nat.lt_irrefl _)⟩
theorem CoSt.kidsV {W wr:World} {vo:Value} {acc:Fr} {ps:List Value} (h:CoSt W wr vo acc ps) (h0:0<acc.len) (hl:acc.len≤1000000):KidsV W wr vo acc:=by
 obtain⟨A,c,hv,hc,hlt,hcell⟩:=h.form;exact⟨ps,A,c,hv,hl,PtF.keep (fun _ hq=>hq.1) (fun _ _=>rfl) h.kids,fun h=>by omega,hcell⟩
theorem yZw (l:List Te) (n0 i:Nat) (hn0:2*(l.length-i)+1≤n0) (hi:i≤l.length) (hl:l.length≤1000000) (hz:∀t∈l,t.t.s.size≤1000000000) (w:World) (v:Value) (hv:Tke w v l)
  (cE:∀(m j:Nat) (W:World),m<n0→2*(l.length-j)+2≤m→j≤l.length→Up w W→Calls Tryz.prog 27 #[v,.int .i64 (j:Int)] W (qO (exprF B.nck B.long l m j) W)) :
  Calls Tryz.prog 62 #[v,.int .i64 (i:Int)] w (zDc (armsF B.nck B.long l n0 i .nil) w):=by
 have CE:=Lib.hid cE;have CN:Hid (∀(j:Nat) (ks:List ByteArray) (W:World) (vk:Value),Up w W→TxS W vk ks→Calls Tryz.prog 59 #[v,.int .i64 (j:Int),vk] W (NmR (nameQ B.nck (tks l) j ks) W)):=Lib.hid fun j ks W vk u h=>zDa l j hl hz ks W v vk (hv.up u) h
 have CK:Hid (∀(j:Nat) (x:ByteArray) (W:World),Up w W→Calls Tryz.prog 57 #[v,.int .i64 (j:Int),.string x] W (BoU (key (tks l) j x) W)):=Lib.hid fun j x W u=>by rw[←xE];exact vL (tks l) j x W v (hv.up u).tkm
 have CKS:Hid (∀(j:Nat) (ks:List ByteArray) (W:World) (vk:Value),j≤l.length→Up w W→TxS W vk ks→Calls Tryz.prog 125 #[v,.int .i64 (j:Int),vk] W (KeP (keysL (tks l) j ks) W)):=Lib.hid fun j ks W vk hj u h=>lZ l j hj hl ks W v vk (hv.up u) h
 obtain⟨R,hR⟩:∃R,armsF B.nck B.long l n0 i .nil=R:=⟨_,rfl⟩;have HR:=Lib.hid hR;have HN0:=Lib.hid hn0;rw[hR];clear cE hR hz hv hn0
 go_enter Tryz.func62,Tryz.ntmps62
 go_wp2_with fail
 go_loopw [1,7,8,9,10,11,12] (fun iv vo _ _ _ _ _ wr=>∃(k f:Nat) (acc:Fr) (ps:List Value),iv = .int .i64 (k:Int)∧i≤k∧k≤l.length∧f≤n0∧2*(l.length-k)+1≤f∧R=armsF B.nck B.long l f k acc∧acc.len≤k∧CoSt w wr vo acc ps∧Up w wr) (fun iv _ _ _ _ _ _ _=>l.length-(intOf iv).toNat)
 case atStart=>exact⟨i,n0,.nil,[],rfl,Nat.le_refl _,hi,Nat.le_refl _,HN0.out,HR.out.symm,Nat.zero_le _,CoSt.start _ _,Up.refl _⟩
 case round=>
  obtain⟨k,f,acc,ps,rfl,hik,hkl,hfn,hfk,hE,hak,hst,hu⟩:=hrel;obtain⟨f,rfl⟩:∃g,f=g+1:=⟨f-1,by omega⟩;rw[mD] at hE;obtain⟨A,c,rfl,hc,hlt,hcell⟩:=hst.form;have HST:=Lib.hid hst;have HE:=Lib.hid hE;have HC:=Lib.hid hcell;have HLT:=Lib.hid hlt;obtain⟨n,hn⟩:∃n,acc.len=n:=⟨_,rfl⟩;rw[hn] at hc hak ⊢;have HN:=Lib.hid hn;have cN1:=CN.out k [];have aN1:=zV (p:=B.nck) (ks:=[]) hkl;obtain⟨R1,hR1⟩:∃R1,nameQ B.nck (tks l) k []=R1:=⟨_,rfl⟩;rw[hR1] at cN1 aN1;have HR1:=Lib.hid hR1;clear hst hE hcell hlt hn hR1;go_wp2_with fail;refine(cN1 _ _ hu (TxS.nil _)).mono ?_;rintro e w1 ⟨s1,j1,e1,rfl,hV,u1⟩;have U1:Up w w1:=Up.trans hu u1
  cases R1 with
  | inr r=>
   obtain⟨p,er⟩:=r;obtain⟨rfl,rfl⟩:=hV;have hne:=aN1.ne rfl;go_wp2_with fail
   go_ret3
   rw[show R = .inr (p,e1) from by rw[HE.out];unfold armsS;rw[HR1.out];rfl];exact⟨_,.nil,_,_,rfl,KidsV.nil _ _,⟨rfl,rfl⟩,U1⟩
  | inl r=>
   obtain⟨c1,q1⟩:=r;obtain⟨rfl,rfl,rfl⟩:=hV;have hq1:k<q1∧q1≤l.length:=aN1;have cN2:=CN.out q1 [kFat];have aN2:=zV (p:=B.nck) (ks:=[kFat]) hq1.2;obtain⟨R2,hR2⟩:∃R2,nameQ B.nck (tks l) q1 [kFat]=R2:=⟨_,rfl⟩;rw[hR2] at cN2 aN2;have HR2:=Lib.hid hR2;clear hR2 cN1 aN1;go_wp2_with fail;refine(cN2 _ _ (U1.alloc _) (TxS.row1 w1 kFat _)).mono ?_;rintro e w2 ⟨s2,j2,e2,rfl,hV,u2⟩;have U2:Up w w2:=(U1.alloc _).trans u2
   cases R2 with
   | inr r=>
    obtain⟨p,er⟩:=r;obtain⟨rfl,rfl⟩:=hV;have hne:=aN2.ne rfl;go_wp2_with fail
    go_ret3
    rw[show R = .inr (p,e2) from by rw[HE.out];unfold armsS;rw[HR1.out];show thn (nameQ B.nck (tks l) q1 [kFat]) _=_;rw[HR2.out];rfl];exact⟨_,.nil,_,_,rfl,KidsV.nil _ _,⟨rfl,rfl⟩,U2⟩
   | inl r=>
    obtain⟨x1,q2⟩:=r;obtain⟨rfl,rfl,rfl⟩:=hV;have hq2:q1<q2∧q2≤l.length:=aN2;have cE3:=fun W u=>CE.out f q2 W (by omega) (by omega) hq2.2 u
    have aE3:=xR (nk:=B.nck) (lg:=B.long) (l:=l) (n:=f) hq2.2;obtain⟨R3,hR3⟩:∃R3,exprF B.nck B.long l f q2=R3:=⟨_,rfl⟩;rw[hR3] at cE3 aE3;have HR3:=Lib.hid hR3;clear hR3 cN2 aN2;go_wp2_with fail;refine(cE3 _ U2).mono ?_;rintro e w3 ⟨vb,j3,e3,rfl,hV,u3⟩;have U3:Up w w3:=U2.trans u3
    cases R3 with
    | inr r=>
     obtain⟨p,er⟩:=r;obtain⟨rfl,rfl,A1,rfl⟩:=hV;have hne:=aE3.ne rfl;go_wp2_with fail
     go_ret3
     rw[show R = .inr (p,e3) from by rw[HE.out];unfold armsS;rw[HR1.out];show thn (nameQ B.nck (tks l) q1 [kFat]) _=_;rw[HR2.out];show thn (exprF B.nck B.long l f q2) _=_;rw[HR3.out];rfl];exact⟨_,.nil,_,_,rfl,KidsV.nil _ _,⟨rfl,rfl⟩,U3⟩
    | inl r=>
     obtain⟨b,q3⟩:=r;obtain⟨h3,rfl,rfl⟩:=hV;obtain⟨o1,p1,rfl⟩:=InT.ptr h3;have hq3:q2<q3∧q3≤l.length:=aE3;have HS:Hid (R=if key (tks l) q3 kBar then armsF B.nck B.long l f (q3+1) (acc.app (fr1 (⟨34,0,s1,s2⟩,fr1 b))) else thn (keysL (tks l) q3 [kEnd]) fun _ m=>.inl (acc.app (fr1 (⟨34,0,s1,s2⟩,fr1 b)),m)):=Lib.hid (by rw[HE.out];unfold armsS;rw[HR1.out];show thn (nameQ B.nck (tks l) q1 [kFat]) _=_;rw[HR2.out];show thn (exprF B.nck B.long l f q2) _=_;rw[HR3.out];rfl);have kb:=CK.out q3 kBar;obtain⟨i0,hi0,hz0,hz1,hz2⟩:=info_parts mF;have hst5:=HST.out.up ((((Up.refl _).trans u1).trans (((Up.refl _).alloc _).trans u2)).trans (u3.trans (zNl w3 (.pointer (some ⟨o1,p1,none⟩)) s1 s2)));have ho5:=hst5.own;rw[HN.out] at ho5;have hc5:=zKy w3 (.pointer (some ⟨o1,p1,none⟩)) s1 s2;have hz5:=zKx w3 (.pointer (some ⟨o1,p1,none⟩)) s1 s2;have HO5:=Lib.hid ho5;have HC5:=Lib.hid hc5;have HW5:Hid (w.heap.size≤(armW w3 (.pointer (some ⟨o1,p1,none⟩)) s1 s2).heap.size):=Lib.hid (by have h1:=U3.size;omega);clear ho5 hc5 hst5 cE3 aE3
     go_wp2_with (at_builtin;refine wpList_append_lies _ rfl _ _ 55 rfl w.heap.size 24 i0 _ 1 8 Tryz.underlying55 hi0 hz0 hz1 hz2 rfl (by omega) (.slice A n c) n ps rfl HO5.out ⟨w3.heap.size+2,0,none⟩ 1 1 [.pointer (some ⟨w3.heap.size+1,0,none⟩)] rfl rfl HC5.out (by intro u hu;rw[List.mem_singleton.1 hu];rfl) (by omega) (by unfold maxLen;omega) (by omega) HW5.out (w3.heap.size+3) hz5 ?_;intro g6 cap6 w6 ho6 hg6 hat6 hlt6)
     have hst2:=HST.out;rw[HN.out] at hst2;have hlt2:∀g,(Value.slice A n c).ownBlock=some g→w.heap.size≤g∧g<wr.heap.size:=World.ownsRow.lt hst2.own;have hu3:Up wr w3:=(Up.trans u1 (((Up.refl _).alloc _).trans u2)).trans u3;have hu5:Up wr (armW w3 (.pointer (some ⟨o1,p1,none⟩)) s1 s2):=hu3.trans (zNl w3 (.pointer (some ⟨o1,p1,none⟩)) s1 s2);have hWr:w.heap.size≤wr.heap.size:=(Up.trans hu (Up.refl _)).size;have hst6:=hst2.more hu5 HN.out hlt2 hWr (zDk (h3.base (Up.trans u1 (((Up.refl _).alloc _).trans u2)).size) hu3.size) rfl ho6 hg6 (by rw[hz5];exact hat6);have U6:Up w w6:=(Up.trans hu hu5).grown hg6 HW5.out fun g hg=>(hlt2 g hg).1
     have hln:(acc.app (fr1 (⟨34,0,s1,s2⟩,fr1 b))).len=n+1:=by rw[Fr.len_app,HN.out];rfl
     have HST6:=Lib.hid hst6;have HLN:=Lib.hid hln;have kb6:=kb w6 U6;clear hst2 hlt2 hst6 hln ho6 hg6 hat6 kb
     cases hB:key (tks l) q3 kBar with
     | false=>
      rw[hB] at kb6;have cE7:=fun W vk u h=>CKS.out q3 [kEnd] W vk hq3.2 u h
      obtain⟨R7,hR7⟩:∃R7,keysL (tks l) q3 [kEnd]=R7:=⟨_,rfl⟩;rw[hR7] at cE7;have HRR:Hid (R=thn R7 fun _ m=>.inl (acc.app (fr1 (⟨34,0,s1,s2⟩,fr1 b)),m)):=Lib.hid (by rw[HS.out,hB,←hR7];rfl);clear hB hR7;go_wp2_with fail;refine kb6.mono ?_;rintro e w7 ⟨rfl,u7⟩;have U7:=U6.trans u7;go_wp2_with fail;refine(cE7 _ _ (U7.alloc _) (TxS.row1 w7 kEnd _)).mono ?_;rintro e w8 ⟨q,er,rfl,hV,u8⟩;have U8:Up w w8:=(U7.alloc _).trans u8;have HVV:=Lib.hid hV;clear hV;go_wp2_with fail
      go_ret3
      rw[HRR.out];have hks:=(HST6.out.up (u7.trans (((Up.refl _).alloc _).trans u8))).kidsV (by rw[HLN.out];omega) (by rw[HLN.out];omega);have hV:=HVV.out;refine⟨_,_,_,_,rfl,hks,?_,U8⟩
      cases R7 with
      | inr r=>exact hV
      | inl r=>exact⟨rfl,hV.1,hV.2⟩
     | true=>
      rw[hB] at kb6;have hq4:q3+1≤l.length:=qH hB;have hw4:=qS q3 1 (by omega) (by omega);have HRR:Hid (R=armsF B.nck B.long l f (q3+1) (acc.app (fr1 (⟨34,0,s1,s2⟩,fr1 b)))):=Lib.hid (by rw[HS.out,hB];rfl);clear hB;go_wp2_with fail;refine kb6.mono ?_;rintro e w7 ⟨rfl,u7⟩;go_wp2_with fail;exact⟨⟨q3+1,f,_,_,yG (by omega),by omega,by omega,by omega,by omega,HRR.out,by rw[HLN.out];omega,HST6.out.up u7,U6.trans u7⟩,by simp[intOf];omega⟩
theorem zKz {l:List Te} {N:Nat} {A E:Nat→Rs Tr} {M:Nat→Fr→Rs Fr} {i:Nat} {w:World} {v:Value} (H:zWt l E i w v) (cM:ArmsC l M i w v) (hk:key (tks l) i kCase=true) :
  Calls Tryz.prog 27 #[v,.int .i64 (i:Int)] w (qO (exprS B.nck B.long l N A E M i) w):=by
 have hil:=H.hi;have hll:=H.hl;have k0:=H.key i kFn;have k1:=H.key i kLet;have k2:=H.key i kIf;have k3:=H.key i kCase;rw[yJ hk (by decide)] at k0;rw[yJ hk (by decide)] at k1;rw[yJ hk (by decide)] at k2;rw[hk] at k3;have hR:exprS B.nck B.long l N A E M i=caseS l E M (i+1):=by unfold exprS;rw[if_neg (by rw[yJ hk (by decide)];decide),if_neg (by rw[yJ hk (by decide)];decide),if_neg (by rw[yJ hk (by decide)];decide),if_pos hk]
 rw[hR];have hw1:=qS i 1 (by omega) (by omega);obtain⟨R,hRe⟩:∃R,caseS l E M (i+1)=R:=⟨_,rfl⟩;rw[hRe];have HR:=Lib.hid hRe;clear hR hk hRe
 go_enter Tryz.func27,Tryz.ntmps27
 go_wp2_with fail;refine(k0 w (Up.refl w)).mono ?_;rintro e x0 ⟨rfl,u0⟩;have V0:=u0;go_wp2_with fail;refine(k1 x0 V0).mono ?_;rintro e x1 ⟨rfl,u1⟩;have V1:=V0.trans u1;go_wp2_with fail;refine(k2 x1 V1).mono ?_;rintro e x2 ⟨rfl,u2⟩;have V2:=V1.trans u2;go_wp2_with fail;refine(k3 x2 V2).mono ?_;rintro e x3 ⟨rfl,u3⟩;have V3:=V2.trans u3;have c0:=fun W vk u h=>H.sub (i+1) [kOf] W vk (Nat.lt_succ_self i) hil u h
 have a0:=qM (ks:=[kOf]) (H.inE (i+1) hil);obtain⟨R0,hR0⟩:∃R0,thenK (tks l) (E (i+1)) [kOf]=R0:=⟨_,rfl⟩;rw[hR0] at c0 a0;have HR0:=Lib.hid hR0;clear hR0;go_wp2_with fail;refine(c0 _ _ (V3.alloc _) (TxS.row1 x3 kOf _)).mono ?_;rintro e w1 ⟨v0,j0,e0,rfl,hV,z0⟩;have U1:Up w w1:=(V3.alloc _).trans z0
 cases R0 with
 | inr r=>
  obtain⟨p,er⟩:=r;obtain⟨rfl,rfl,A1,rfl⟩:=hV;have hne:=a0.ne rfl;go_wp2_with fail
  go_ret3
  rw[show R = .inr (p,e0) from by rw[←HR.out];unfold caseS;rw[HR0.out];rfl];exact⟨_,_,_,rfl,⟨rfl,rfl,none,rfl⟩,U1⟩
 | inl r=>
  obtain⟨t0,q0⟩:=r;obtain⟨h0,rfl,rfl⟩:=hV;obtain⟨o0,p0,rfl⟩:=InT.ptr h0;have hq0:i+1<q0∧q0≤l.length:=a0;clear c0 a0;have c1:=fun W u=>cM q0 W (by omega) hq0.2 u
  obtain⟨R1,hR1⟩:∃R1,M q0 .nil=R1:=⟨_,rfl⟩;rw[hR1] at c1;have HR1:=Lib.hid hR1;clear hR1;go_wp2_with fail;refine(c1 _ U1).mono ?_;rintro e w2 ⟨v1,f1,j1,e1,rfl,hK,hV,z1⟩;have U2:Up w w2:=U1.trans z1;obtain⟨v9,w9,g9,c9,r9,rfl,hc9,hg9,hf9,y9⟩:=zS2 #[.pointer (some ⟨o0,p0,none⟩)] (n:=1) rfl (by decide) (W:=w) (w:=w2) (f0:=fr1 t0) U2.size (⟨h0.from (V3.alloc _) (((Up.refl _).trans z1)),trivial⟩) (KidsV.from hK U1);have HF9:=Lib.hid hf9;clear hf9
  go_wp2_with (at_builtin;refine kK _ _ _ rfl rfl rfl rfl r9 ?_)
  refine(yI 32 nob _ _ _ _).mono ?_;rintro e w8 ⟨rfl,rfl⟩;go_wp2_with fail
  go_ret3
  have hRR:R=thn R1 fun k m=>.inl (nd 32 nob (.cons t0.1 t0.2 k),m):=by rw[←HR.out];unfold caseS;rw[HR0.out];show thn (M q0 .nil) _=_;rw[HR1.out]
  rw[hRR];refine⟨_,_,_,rfl,?_,(U2.trans y9).alloc _⟩
  cases R1 with
  | inr r=>exact⟨hV.1,hV.2,_,rfl⟩
  | inl r=>
   obtain⟨rfl,h2,h3⟩:=hV;exact⟨zYd (by simp only[Fr.len];omega) hc9 hg9 HF9.out (U2.trans y9).size,h2,h3⟩
theorem zJ0 {l:List Te} {N:Nat} {A E:Nat→Rs Tr} {M:Nat→Fr→Rs Fr} {i:Nat} {w:World} {v:Value} (H:zWt l E i w v) (cM:ArmsC l M i w v) (hk:key (tks l) i kFold=true) :
  Calls Tryz.prog 27 #[v,.int .i64 (i:Int)] w (qO (exprS B.nck B.long l N A E M i) w):=by
 have hil:=H.hi;have hll:=H.hl;have k0:=H.key i kFn;have k1:=H.key i kLet;have k2:=H.key i kIf;have k3:=H.key i kCase;have k4:=H.key i kFold;rw[yJ hk (by decide)] at k0;rw[yJ hk (by decide)] at k1;rw[yJ hk (by decide)] at k2;rw[yJ hk (by decide)] at k3;rw[hk] at k4;have hR:exprS B.nck B.long l N A E M i=foldS B.nck B.long l E M (i+1):=by unfold exprS;rw[if_neg (by rw[yJ hk (by decide)];decide),if_neg (by rw[yJ hk (by decide)];decide),if_neg (by rw[yJ hk (by decide)];decide),if_neg (by rw[yJ hk (by decide)];decide),if_pos hk]
 rw[hR];have hw1:=qS i 1 (by omega) (by omega);obtain⟨R,hRe⟩:∃R,foldS B.nck B.long l E M (i+1)=R:=⟨_,rfl⟩;rw[hRe];have HR:=Lib.hid hRe;clear hR hk hRe
 go_enter Tryz.func27,Tryz.ntmps27
 go_wp2_with fail;refine(k0 w (Up.refl w)).mono ?_;rintro e x0 ⟨rfl,u0⟩;have V0:=u0;go_wp2_with fail;refine(k1 x0 V0).mono ?_;rintro e x1 ⟨rfl,u1⟩;have V1:=V0.trans u1;go_wp2_with fail;refine(k2 x1 V1).mono ?_;rintro e x2 ⟨rfl,u2⟩;have V2:=V1.trans u2;go_wp2_with fail;refine(k3 x2 V2).mono ?_;rintro e x3 ⟨rfl,u3⟩;have V3:=V2.trans u3;go_wp2_with fail;refine(k4 x3 V3).mono ?_;rintro e x4 ⟨rfl,u4⟩;have V4:=V3.trans u4;have c0:=fun W vk u h=>H.sub (i+1) [kTo] W vk (Nat.lt_succ_self i) hil u h
 have a0:=qM (ks:=[kTo]) (H.inE (i+1) hil);obtain⟨R0,hR0⟩:∃R0,thenK (tks l) (E (i+1)) [kTo]=R0:=⟨_,rfl⟩;rw[hR0] at c0 a0;have HR0:=Lib.hid hR0;clear hR0;go_wp2_with fail;refine(c0 _ _ (V4.alloc _) (TxS.row1 x4 kTo _)).mono ?_;rintro e w1 ⟨v0,j0,e0,rfl,hV,z0⟩;have U1:Up w w1:=(V4.alloc _).trans z0
 cases R0 with
 | inr r=>
  obtain⟨p,er⟩:=r;obtain⟨rfl,rfl,A1,rfl⟩:=hV;have hne:=a0.ne rfl;go_wp2_with fail
  go_ret3
  rw[show R = .inr (p,e0) from by rw[←HR.out];unfold foldS;rw[HR0.out];rfl];exact⟨_,_,_,rfl,⟨rfl,rfl,none,rfl⟩,U1⟩
 | inl r=>
  obtain⟨t0,q0⟩:=r;obtain⟨h0,rfl,rfl⟩:=hV;obtain⟨o0,p0,rfl⟩:=InT.ptr h0;have hq0:i+1<q0∧q0≤l.length:=a0;clear c0 a0;have c1:=fun W vk u h=>H.typ q0 [kOf] W vk hq0.2 u h
  have a1:=qM (ks:=[kOf]) (jI (nk:=B.nck) (lg:=B.long) hq0.2);obtain⟨R1,hR1⟩:∃R1,thenK (tks l) (typL B.nck B.long (tks l) q0) [kOf]=R1:=⟨_,rfl⟩;rw[hR1] at c1 a1;have HR1:=Lib.hid hR1;clear hR1;go_wp2_with fail;refine(c1 _ _ (U1.alloc _) (TxS.row1 w1 kOf _)).mono ?_;rintro e w2 ⟨v1,j1,e1,rfl,hV,z1⟩;have U2:Up w w2:=(U1.alloc _).trans z1
  cases R1 with
  | inr r=>
   obtain⟨p,er⟩:=r;obtain⟨rfl,rfl,A1,rfl⟩:=hV;have hne:=a1.ne rfl;go_wp2_with fail
   go_ret3
   rw[show R = .inr (p,e1) from by rw[←HR.out];unfold foldS;rw[HR0.out];show thn (thenK (tks l) (typL B.nck B.long (tks l) q0) [kOf]) _=_;rw[HR1.out];rfl];exact⟨_,_,_,rfl,⟨rfl,rfl,none,rfl⟩,U2⟩
  | inl r=>
   obtain⟨t1,q1⟩:=r;obtain⟨h1,rfl,rfl⟩:=hV;obtain⟨o1,p1,rfl⟩:=InT.ptr h1;have hq1:q0<q1∧q1≤l.length:=a1;clear c1 a1;have c2:=fun W u=>cM q1 W (by omega) hq1.2 u
   obtain⟨R2,hR2⟩:∃R2,M q1 .nil=R2:=⟨_,rfl⟩;rw[hR2] at c2;have HR2:=Lib.hid hR2;clear hR2;go_wp2_with fail;refine(c2 _ U2).mono ?_;rintro e w3 ⟨v2,f2,j2,e2,rfl,hK,hV,z2⟩;have U3:Up w w3:=U2.trans z2;obtain⟨v9,w9,g9,c9,r9,rfl,hc9,hg9,hf9,y9⟩:=zS2 #[.pointer (some ⟨o0,p0,none⟩),.pointer (some ⟨o1,p1,none⟩)] (n:=2) rfl (by decide) (W:=w) (w:=w3) (f0:=fr2 t0 t1) U3.size (⟨h0.from (V4.alloc _) (((((Up.refl _).alloc _).trans z1).trans z2)),h1.from (U1.alloc _) (((Up.refl _).trans z2)),trivial⟩) (KidsV.from hK U2);have HF9:=Lib.hid hf9;clear hf9
   go_wp2_with (at_builtin;refine kK _ _ _ rfl rfl rfl rfl r9 ?_)
   refine(yI 33 nob _ _ _ _).mono ?_;rintro e w8 ⟨rfl,rfl⟩;go_wp2_with fail
   go_ret3
   have hRR:R=thn R2 fun k m=>.inl (nd 33 nob (.cons t0.1 t0.2 (.cons t1.1 t1.2 k)),m):=by rw[←HR.out];unfold foldS;rw[HR0.out];show thn (thenK (tks l) (typL B.nck B.long (tks l) q0) [kOf]) _=_;rw[HR1.out];show thn (M q1 .nil) _=_;rw[HR2.out]
   rw[hRR];refine⟨_,_,_,rfl,?_,(U3.trans y9).alloc _⟩
   cases R2 with
   | inr r=>exact⟨hV.1,hV.2,_,rfl⟩
   | inl r=>
    obtain⟨rfl,h2,h3⟩:=hV;exact⟨zYd (by simp only[Fr.len];omega) hc9 hg9 HF9.out (U3.trans y9).size,h2,h3⟩
end Go.Proofs.YtbpijnalmakfaaaGreatDoor
