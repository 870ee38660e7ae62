/-
  The document's cons: what it makes of tokens from a place on, given what typ makes.
-/
import Derived.Test.YtbpijnalmakfaaaGreatDoorGs45
import Derived.Test.YtbpijnalmakfaaaGreatDoorGs50
set_option maxHeartbeats 40000000
set_option maxRecDepth 100000
namespace Go.Proofs.YtbpijnalmakfaaaGreatDoor
open Go.RowKit
theorem zS0:∀{f:Fr} {j:Nat} {t:Tr} {s:ByteArray},f.get j=some t→t.1.a=s→hasN f s=true
 | .nil,j,t,s,h,_=>by cases j<;>cases h
 | .cons x k r,0,t,s,h,e=>by injection h with h;subst h;unfold hasN;rw[decide_eq_true e];rfl
 | .cons x k r,j+1,t,s,h,e=>by
  have h:r.get j=some t:=h;unfold hasN;rw[zS0 h e,Bool.or_true]
theorem zS1:∀{f:Fr} {s:ByteArray},(∀(j:Nat) (t:Tr),f.get j=some t→¬t.1.a=s)→hasN f s=false
 | .nil,_,_=>rfl
 | .cons x k r,s,h=>by
  unfold hasN;rw[decide_eq_false (h 0 (x,k) rfl),zS1 fun j t hj=>h (j+1) t hj]
  rfl
structure CoSt (W wr:World) (vo:Value) (acc:Fr) (ps:List Value):Prop where
 own:wr.ownsRow W.heap.size 24 1 vo acc.len ps
 kids:PtF wr (fun q=>NewS W wr q∧vo.ownBlock≠some q) ps acc
theorem yT0 {W a b:World} {v:Value} {n:Nat} {xs:List Value} {e:TypeId} (h:a.ownsRow W.heap.size e 1 v n xs) (u:Up a b):b.ownsRow W.heap.size e 1 v n xs:=by
 obtain⟨h1,h2⟩:=h;refine⟨h1,?_⟩
 rcases h2 with h2 | ⟨g,cap,cur,h3,h4,h5,h6⟩
 ·exact .inl h2
 ·exact .inr ⟨g,cap,cur,h3,h4,u.row h5,h6⟩
theorem CoSt.up {W a b:World} {vo:Value} {acc:Fr} {ps:List Value} (h:CoSt W a vo acc ps) (u:Up a b):CoSt W b vo acc ps:=
 ⟨yT0 h.own u,PtF.keep (fun _ hq=>⟨⟨hq.1.1,Nat.lt_of_lt_of_le hq.1.2 u.size⟩,hq.2⟩) (fun q hq=>Below.block u q hq.1.2) h.kids⟩
theorem CoSt.start (W wr:World):CoSt W wr (.slice none 0 0) .nil []:=⟨World.ownsRow_nil _ _ _ _,trivial⟩
theorem CoSt.form {W wr:World} {vo:Value} {acc:Fr} {ps:List Value} (h:CoSt W wr vo acc ps):∃A c,vo = .slice A acc.len c∧acc.len≤c∧(∀g,vo.ownBlock=some g→W.heap.size≤g∧g<wr.heap.size)∧(0<acc.len→∃g,A=some ⟨g,0,none⟩∧∀(j:Nat) u,ps[j]? = some u→wr.cell? ⟨g,0+j,none⟩=some u):=by
 have hlt:=World.ownsRow.lt h.own
 rcases h.own.2 with ⟨h1,h2⟩ | ⟨g,cap,cur,h3,h4,h5,h6,_,h7,h8⟩
 ·exact⟨none,0,by rw[h1,h2],by omega,hlt,fun h=>by omega⟩
 ·refine⟨some ⟨g,0,none⟩,cap,h3,h6,hlt,fun _=>⟨g,rfl,fun j u hj=>?_⟩⟩
  rw[Nat.zero_add,cell_of_row wr g j _ _ _ h5];rw[←h8,List.getElem?_take] at hj
  split at hj
  ·rw[←hj,Array.getElem?_toList]
  ·cases hj
theorem yZn {W w:World} {vt:Value} {t:Tr} {s:ByteArray} (hW:W.heap.size≤w.heap.size) (ht:NewT W w vt t) :
  NewT W ((w.alloc (.cells #[vt] 24)).alloc (.cells #[.int .i64 8,.int .i64 0,.string s,.string ⟨#[]⟩,.slice (some ⟨w.heap.size,0,none⟩) 1 1] 57)) (.pointer (some ⟨w.heap.size+1,0,none⟩)) (nd 8 s (fr1 t)):=by
 have e1:(w.alloc (.cells #[vt] 24)).heap.size=w.heap.size+1:=by simp
 rw[←e1];obtain⟨W1,hW1⟩:∃W1,w.alloc (.cells #[vt] 24)=W1:=⟨_,rfl⟩;have s1:W1.heap[w.heap.size]? = some (.cells #[vt] 24 (0,0)):=by rw[←hW1];exact heap_alloc_new w _
 have u1:Up w W1:=by rw[←hW1];exact(Up.refl w).alloc _
 have z1:=u1.size;rw[hW1];obtain⟨W2,hW2⟩:∃W2,W1.alloc (.cells #[.int .i64 8,.int .i64 0,.string s,.string ⟨#[]⟩,.slice (some ⟨w.heap.size,0,none⟩) 1 1] 57)=W2:=⟨_,rfl⟩;have s2:W2.heap[W1.heap.size]? = some (.cells #[.int .i64 8,.int .i64 0,.string s,.string ⟨#[]⟩,.slice (some ⟨w.heap.size,0,none⟩) 1 1] 57 (0,0)):=by rw[←hW2];exact heap_alloc_new W1 _
 have u2:Up W1 W2:=by rw[←hW2];exact(Up.refl W1).alloc _
 have s3:W2.heap[w.heap.size]? = some (.cells #[vt] 24 (0,0)):=u2.row s1;rw[hW2];exact yX (x:=⟨8,0,s,nob⟩) (f:=fr1 t) s2 rfl (Nat.le_refl _) ⟨by omega,qC s2⟩ ⟨hW,qC s3⟩ ⟨⟨_,cell_of_row W2 w.heap.size 0 _ _ _ s3,ht.up (u1.trans u2)⟩,trivial⟩
theorem CoSt.more {W wr w5 w6:World} {vo v6 vc:Value} {acc:Fr} {ps:List Value} {t:Tr} {g cap n:Nat} (h:CoSt W wr vo acc ps) (u:Up wr w5) (hn:acc.len=n) (hlt:∀g,vo.ownBlock=some g→W.heap.size≤g∧g<wr.heap.size) (hW:W.heap.size≤wr.heap.size)
  (ht:NewT wr w5 vc t) (hv:v6 = .slice (some ⟨g,0,none⟩) (n+1) cap) (ho:w6.ownsRow W.heap.size 24 1 v6 (n+1) (ps++[vc])) (hg:w5.grownBy w6 vo.ownBlock) (hat:vo.ownBlock=some g∨g=w5.heap.size) :
  CoSt W w6 v6 (acc.app (fr1 t)) (ps++[vc]):=by
 have hz:=hg.size;have hu:=u.size;have hob:v6.ownBlock=some g:=by rw[hv];rfl
 have hgn:∀q,q<w5.heap.size→vo.ownBlock≠some q→v6.ownBlock≠some q:=fun q hq hne e=>by
  rw[hob] at e;injection e with e
  rcases hat with h1 | h1
  ·rw[e] at h1;exact hne h1
  ·omega
 have kp:∀q,q<w5.heap.size→vo.ownBlock≠some q→w6.heap[q]? = w5.heap[q]?:=fun q hq hne=>hg.block q hq fun e=>hne e.symm
 refine⟨?_,?_⟩
 ·rw[Fr.len_app]
  show w6.ownsRow _ _ 1 v6 (acc.len+1) _
  rw[hn];exact ho
 ·refine PtF.snoc (t:=t) ?_ (PtF.keep (fun q hq=>⟨⟨hq.1.1,by have:=hq.1.2;omega⟩,hgn q (by have:=hq.1.2;omega) hq.2⟩) (fun q hq=>(kp q (by have:=hq.1.2;omega) hq.2).trans (Below.block u q hq.1.2)) h.kids)
  have hne:∀q,NewS wr w5 q→vo.ownBlock≠some q:=fun q hq e=>by have:=(hlt q e).2;have:=hq.1;omega
  exact InT.keep ht (fun q hq=>⟨⟨by have:=hq.1;omega,by have:=hq.2;omega⟩,hgn q hq.2 (hne q hq)⟩) fun q hq=>kp q hq.2 (hne q hq)
theorem CoSt.done {W wr:World} {vo:Value} {acc:Fr} {ps:List Value} (h:CoSt W wr vo acc ps) (h0:0<acc.len):∃g c,vo = .slice (some ⟨g,0,none⟩) acc.len c∧acc.len≤c∧NewS W wr g∧0<acc.len∧InF wr (NewS W wr) acc g 0:=by
 obtain⟨A,c,hv,hc,hlt,hcell⟩:=h.form;obtain⟨g,rfl,hcs⟩:=hcell h0;refine⟨g,c,hv,hc,hlt g (by rw[hv];rfl),h0,?_⟩;exact PtF.row (PtF.keep (fun _ hq=>hq.1) (fun _ _=>rfl) h.kids) hcs
theorem PtF.kidC {w:World} {S:Nat→Prop}:∀{vs:List Value} {f:Fr} {m:Nat} {t:Tr},PtF w S vs f→f.get m=some t→∃v,vs[m]? = some v∧InT w S v t
 | [],.nil,m,_,_,hg=>by cases m<;>cases hg
 | v::_,.cons _ _ _,0,_,h,hg=>by injection hg with hg;subst hg;exact⟨v,rfl,h.1⟩
 | _::vs,.cons _ _ r,m+1,_,h,hg=>PtF.kidC (vs:=vs) (f:=r) (m:=m) h.2 hg
def conW (w4:World) (vt:Value) (s:ByteArray):World:=((w4.alloc (.cells #[vt] 24)).alloc (.cells #[.int .i64 8,.int .i64 0,.string s,.string ⟨#[]⟩,.slice (some ⟨w4.heap.size,0,none⟩) 1 1] 57)).alloc (.cells #[.pointer (some ⟨w4.heap.size+1,0,none⟩)] 24)
theorem zNi (w4:World) (vt:Value) (s:ByteArray):Up w4 (conW w4 vt s):=(((Up.refl w4).alloc _).alloc _).alloc _
theorem zKt (w4:World) (vt:Value) (s:ByteArray):(conW w4 vt s).heap.size=w4.heap.size+3:=by unfold conW;simp
theorem zD8 {wr w4:World} {vt:Value} {s:ByteArray} {t:Tr} (h:NewT wr w4 vt t) (hw:wr.heap.size≤w4.heap.size):NewT wr (conW w4 vt s) (.pointer (some ⟨w4.heap.size+1,0,none⟩)) (nd 8 s (fr1 t)):=
 (yZn hw h).up ((Up.refl _).alloc _)
theorem zKu (w4:World) (vt:Value) (s:ByteArray):∀j u,[Value.pointer (some ⟨w4.heap.size+1,0,none⟩)][j]? = some u→(conW w4 vt s).cell? ((⟨w4.heap.size+2,0,none⟩:Addr).add j)=some u:=by
 intro j u hj;have e:((w4.alloc (.cells #[vt] 24)).alloc (.cells #[.int .i64 8,.int .i64 0,.string s,.string ⟨#[]⟩,.slice (some ⟨w4.heap.size,0,none⟩) 1 1] 57)).heap.size=w4.heap.size+2:=by simp
 have h:=cell_one_new ((w4.alloc (.cells #[vt] 24)).alloc (.cells #[.int .i64 8,.int .i64 0,.string s,.string ⟨#[]⟩,.slice (some ⟨w4.heap.size,0,none⟩) 1 1] 57)) (.pointer (some ⟨w4.heap.size+1,0,none⟩)) 24 j u hj;rw[e] at h;exact h
theorem zD9 (l:List Tk) (i:Nat) (hi:i≤l.length) (hl:l.length≤1000000) (hz:∀t∈l,t.s.size≤1000000000) (w:World) (v:Value) (hv:Tkm w v l)
  (cT:∀j,i<j→j≤l.length→∀w',Up w w'→Calls Tryz.prog 174 #[v,.int .i64 (j:Int)] w' (qO (typL B.nck B.long l j) w')) :
  Calls Tryz.prog 253 #[v,.int .i64 (i:Int)] w (zWs (consL B.nck B.long l i .nil) w):=by
 have HV:=Lib.hid hv;have HT:=Lib.hid cT;have cN:∀(k:Nat) W,Up w W→Calls Tryz.prog 126 #[v,.int .i64 (k:Int)] W (NaP (nam B.nck l k) W):=fun k W u=>by rw[←uE];exact tL l k W v (hv.up u) hz
 have cK:∀(k:Nat) (x:ByteArray) W,Up w W→Calls Tryz.prog 57 #[v,.int .i64 (k:Int),.string x] W (BoU (key l k x) W):=fun k x W u=>by rw[←xE];exact vL l k x W v (hv.up u)
 have CN:=Lib.hid cN;have CK:=Lib.hid cK;clear hv cT hz cN cK
 go_enter Tryz.func253,Tryz.ntmps253
 go_wp2_with fail
 go_loopw [1,7,8,9,10,11,12,13] (fun iv vo _ _ _ _ _ _ wr=>∃(k:Nat) (acc:Fr) (ps:List Value),iv = .int .i64 (k:Int)∧i≤k∧k≤l.length∧consL B.nck B.long l i .nil=consL B.nck B.long l k acc∧acc.len≤k∧CoSt w wr vo acc ps∧Up w wr) (fun iv _ _ _ _ _ _ _ _=>l.length-(intOf iv).toNat)
 case atStart=>exact⟨i,.nil,[],rfl,Nat.le_refl _,hi,rfl,Nat.zero_le _,CoSt.start _ _,Up.refl _⟩
 case round=>
  obtain⟨k,acc,ps,rfl,hik,hkl,hE,hak,hst,hu⟩:=hrel;obtain⟨A,c,rfl,hc,hlt,hcell⟩:=hst.form;have cN1:=CN.out k;have HST:=Lib.hid hst;have HU:=Lib.hid hu;have HE:=Lib.hid hE;have HC:=Lib.hid hcell;have HLT:=Lib.hid hlt;obtain⟨n,hn⟩:∃n,acc.len=n:=⟨_,rfl⟩;rw[hn] at hc hak ⊢;have HN:=Lib.hid hn;clear hst hE hcell hlt hn
  cases hN:nam B.nck l k with
  | none=>
   rw[hN] at cN1;have HR:Hid (consL B.nck B.long l i .nil = .inr (k,6)):=Lib.hid (by rw[HE.out,vR];unfold consS;rw[hN]);clear hN;go_wp2_with fail;refine(cN1 _ hu).mono ?_;rintro e w2 ⟨rfl,u2⟩;go_wp2_with fail
   go_ret3
   rw[HR.out];exact⟨_,_,_,rfl,⟨rfl,rfl,rfl⟩,Up.trans hu u2⟩
  | some s=>
   rw[hN] at cN1;have HNM:=Lib.hid hN;clear hN;go_wp2_with fail;refine(cN1 _ hu).mono ?_;rintro e w2 ⟨rfl,u2⟩;have U2:Up w w2:=Up.trans hu u2;have HST2:=Lib.hid (HST.out.up u2);have HU12:=Lib.hid u2;clear cN1 hu u2;go_wp2_with fail
   go_loopw [10] (fun kv w3=>∃j:Nat,j≤n∧kv = .int .i64 (j:Int)∧w3=w2∧∀(j':Nat) (t:Tr),j'<j→acc.get j'=some t→¬t.1.a=s) (fun kv _=>n-(intOf kv).toNat)
   case atStart=>exact⟨0,Nat.zero_le _,rfl,rfl,fun j' t hj=>absurd hj (Nat.not_lt_zero _)⟩
   case round=>
    obtain⟨j,hj,rfl,rfl,hall⟩:=hrel;have HALL:=Lib.hid hall;clear hall
    by_cases hjn:j<n
    ·obtain⟨⟨x,f⟩,ht⟩:=Fr.get_some (f:=acc) (i:=j) (by rw[HN.out];exact hjn)
     obtain⟨g,rfl,hcs⟩:=HC.out (by rw[HN.out];omega);obtain⟨pv,hpv,hint⟩:=PtF.kidC HST2.out.kids ht;obtain⟨q,p,A',c',rfl,hq,c0,c1,c2,c3,c4,hcc,hkid⟩:=InT.open hint;have hck:=HU12.out.cell (hcs j _ hpv);rw[Nat.zero_add] at hck;have hjz:(j:Int)<(n:Int):=by omega
     clear hint hkid hcs hpv c0 c1 c3 c4 hcc hq
     by_cases e:x.a=s
     ·have hb:(x.a.toList==s.toList)=true:=by rw[iP,decide_eq_true e]
      have HR:Hid (consL B.nck B.long l i .nil = .inr (k,9)):=Lib.hid (by rw[HE.out,vR];unfold consS;rw[HNM.out];simp only[zS0 ht e,if_true]);clear ht;go_wp2_with fail
      go_ret3
      rw[HR.out];exact⟨_,_,_,rfl,⟨rfl,rfl,rfl⟩,U2⟩
     ·have hb:(x.a.toList==s.toList)=false:=by rw[iP,decide_eq_false e]
      have HX:Hid (acc.get j=some (x,f)):=Lib.hid ht;clear ht;go_wp2_with fail
      go_roundw
      case rel=>exact⟨j+1,by omega,by go_num,by trivial,fun j' t hj' ht'=>by
       rcases Nat.lt_succ_iff_lt_or_eq.1 hj' with h | h
       ·exact HALL.out j' t h ht'
       ·rw[h,HX.out] at ht'
        injection ht' with ht';rw[←ht'];exact e⟩
      case measure=>simp[intOf];omega
    ·have hjn:j=n:=by omega
     have hno:hasN acc s=false:=zS1 fun j' t ht=>HALL.out j' t (by have:=Fr.get_lt ht;rw[HN.out] at this;omega) ht
     have HNO:=Lib.hid hno;subst hjn;have k1:∀W,Up w W→Calls Tryz.prog 57 #[v,.int .i64 ((k:Int)+1),.string kOf] W (BoU (key l (k+1) kOf) W):=fun W u=>by
      have h:=CK.out (k+1) kOf W u;rw[show((k+1:Nat):Int)=(k:Int)+1 by omega] at h;exact h
     clear hno
     cases hO:key l (k+1) kOf with
     | false=>
      rw[hO] at k1;have HR:Hid (consL B.nck B.long l i .nil = .inr (k+1,6)):=Lib.hid (by rw[HE.out,vR];unfold consS;rw[HNM.out];simp only[HNO.out,hO,if_false,Bool.false_eq_true]);clear hO;go_wp2_with fail;refine(k1 _ U2).mono ?_;rintro e w3 ⟨rfl,u3⟩;go_wp2_with fail
      go_ret3
      rw[HR.out];exact⟨_,_,_,rfl,⟨by omega,rfl,rfl⟩,Up.trans U2 u3⟩
     | true=>
      rw[hO] at k1;have hlt1:=yN hO;have cT1:∀W,Up w W→Calls Tryz.prog 174 #[v,.int .i64 ((k:Int)+2)] W (qO (typL B.nck B.long l (k+2)) W):=fun W u=>by
       have h:=HT.out (k+2) (by omega) (by omega) W u;rw[show((k+2:Nat):Int)=(k:Int)+2 by omega] at h;exact h
      have hle:=mG (nk:=B.nck) (lg:=B.long) l (k+2) (by omega);have hah:=sE (nk:=B.nck) (lg:=B.long) l (k+2)
      cases hT:typL B.nck B.long l (k+2) with
      | inr e=>
       obtain⟨p,er⟩:=e;rw[hT] at hle cT1;have hne:¬er=0:=hle.2 p er rfl;have HR:Hid (consL B.nck B.long l i .nil = .inr (p,er)):=Lib.hid (by rw[HE.out,vR];unfold consS;rw[HNM.out];simp only[HNO.out,hO,hT,if_true,if_false,Bool.false_eq_true]);clear hO hT hle hah;go_wp2_with fail;refine(k1 _ U2).mono ?_;rintro e w3 ⟨rfl,u3⟩;go_wp2_with fail;refine(cT1 _ (Up.trans U2 u3)).mono ?_;rintro e w4 ⟨va,ja,ea,rfl,⟨rfl,rfl,A1,rfl⟩,u4⟩;go_wp2_with fail
       go_ret3
       rw[HR.out];exact⟨_,_,_,rfl,⟨rfl,rfl,rfl⟩,Up.trans (Up.trans U2 u3) u4⟩
      | inl r=>
       obtain⟨t,q⟩:=r;rw[hT] at hle cT1 hah;have hql:q≤l.length:=hle.1;have hkq:k+2<q:=hah;have HS:Hid (consL B.nck B.long l i .nil=if key l q kBar then consL B.nck B.long l (q+1) (acc.app (fr1 (nd 8 s (fr1 t)))) else .inl (acc.app (fr1 (nd 8 s (fr1 t))),q)):=Lib.hid (by rw[HE.out,vR];unfold consS;rw[HNM.out];simp only[HNO.out,hO,hT,if_true,if_false,Bool.false_eq_true]);have kb:=CK.out q kBar;obtain⟨i0,hi0,hz0,hz1,hz2⟩:=info_parts mF;clear hO hT hle hah;go_wp2_with fail;refine(k1 _ U2).mono ?_;rintro e w3 ⟨rfl,u3⟩;go_wp2_with fail;refine(cT1 _ (Up.trans U2 u3)).mono ?_;rintro e w4 ⟨va,ja,ea,rfl,⟨h4,rfl,rfl⟩,u4⟩;obtain⟨q1,o1,rfl⟩:=InT.ptr h4;go_wp2_with fail;refine(yI 8 s _ _ _ _).mono ?_;rintro e w5 ⟨rfl,rfl⟩;have hst5:=HST2.out.up ((u3.trans u4).trans (zNi w4 (.pointer (some ⟨q1,o1,none⟩)) s));have ho5:=hst5.own;rw[HN.out] at ho5;have hc5:=zKu w4 (.pointer (some ⟨q1,o1,none⟩)) s;have hz5:=zKt w4 (.pointer (some ⟨q1,o1,none⟩)) s;have HO5:=Lib.hid ho5;have HC5:=Lib.hid hc5;have HW5:Hid (w.heap.size≤(conW w4 (.pointer (some ⟨q1,o1,none⟩)) s).heap.size):=Lib.hid (by have h1:=U2.size;have h2:=u3.size;have h3:=u4.size;omega);clear ho5 hc5 hst5 k1 cT1
       go_wp2_with (at_builtin;refine wpList_append_lies _ rfl _ _ 55 rfl w.heap.size 24 i0 _ 1 8 Tryz.underlying55 hi0 hz0 hz1 hz2 rfl (by omega) (.slice A j c) j ps rfl HO5.out ⟨w4.heap.size+2,0,none⟩ 1 1 [.pointer (some ⟨w4.heap.size+1,0,none⟩)] rfl rfl HC5.out (by intro u hu;rw[List.mem_singleton.1 hu];rfl) (by omega) (by unfold maxLen;omega) (by omega) HW5.out (w4.heap.size+3) hz5 ?_;intro g6 cap6 w6 ho6 hg6 hat6 hlt6)
       have hst2:=HST2.out;rw[HN.out] at hst2;have hlt2:∀g,(Value.slice A j c).ownBlock=some g→w.heap.size≤g∧g<wr.heap.size:=World.ownsRow.lt hst2.own;have hu5:Up wr (conW w4 (.pointer (some ⟨q1,o1,none⟩)) s):=(u3.trans u4).trans (zNi w4 (.pointer (some ⟨q1,o1,none⟩)) s);have hst6:=hst2.more hu5 HN.out hlt2 U2.size (zD8 (h4.base u3.size) (u3.trans u4).size) rfl ho6 hg6 (by rw[hz5];exact hat6);have U6:Up w w6:=(Up.trans U2 hu5).grown hg6 HW5.out fun g hg=>(hlt2 g hg).1
       have hln:(acc.app (fr1 (nd 8 s (fr1 t)))).len=j+1:=by rw[Fr.len_app,HN.out];rfl
       have HST6:=Lib.hid hst6;have HLN:=Lib.hid hln;have kb6:=kb w6 U6;clear hst2 hlt2 hst6 hln ho6 hg6 hat6 kb
       cases hB:key l q kBar with
       | false=>
        rw[hB] at kb6;have HR:Hid (consL B.nck B.long l i .nil = .inl (acc.app (fr1 (nd 8 s (fr1 t))),q)):=Lib.hid (by rw[HS.out,hB];rfl);clear hB;refine kb6.mono ?_;rintro e w7 ⟨rfl,u7⟩;go_wp2_with fail
        go_ret3
        rw[HR.out];exact⟨_,_,_,rfl,⟨by have h:=(HST6.out.up u7).done (by rw[HLN.out];omega);rw[HLN.out] at h ⊢;exact h,rfl,rfl⟩,Up.trans U6 u7⟩
       | true=>
        rw[hB] at kb6;have hq2:=yN hB;have HR:Hid (consL B.nck B.long l i .nil=consL B.nck B.long l (q+1) (acc.app (fr1 (nd 8 s (fr1 t))))):=Lib.hid (by rw[HS.out,hB];rfl);clear hB;refine kb6.mono ?_;rintro e w7 ⟨rfl,u7⟩;go_wp2_with fail;exact⟨⟨q+1,_,_,yG (by omega),by omega,by omega,HR.out,by rw[HLN.out];omega,HST6.out.up u7,Up.trans U6 u7⟩,by simp[intOf];omega⟩
theorem zNj (l:List Tk) (hl:l.length≤1000000) (hz:∀t∈l,t.s.size≤1000000000):∀(d i:Nat),l.length-i≤d→i≤l.length→∀(w:World) (v:Value),Tkm w v l→
  Calls Tryz.prog 174 #[v,.int .i64 (i:Int)] w (qO (typL B.nck B.long l i) w)∧Calls Tryz.prog 253 #[v,.int .i64 (i:Int)] w (zWs (consL B.nck B.long l i .nil) w)
 | d,i,hd,hi,w,v,hv=>by
  have ih:∀j,i<j→j≤l.length→∀(w':World),Up w w'→Calls Tryz.prog 174 #[v,.int .i64 (j:Int)] w' (qO (typL B.nck B.long l j) w')∧Calls Tryz.prog 253 #[v,.int .i64 (j:Int)] w' (zWs (consL B.nck B.long l j .nil) w'):=fun j hij hjl w' u=>by
   cases d with
   | zero=>omega
   | succ d=>exact zNj l hl hz d j (by omega) hjl w' v (hv.up u)
  have cT:=fun j hij hjl w' u=>(ih j hij hjl w' u).1
  have cC:=fun j hij hjl w' u=>(ih j hij hjl w' u).2
  have pr:∀(e j:Nat),l.length-j≤e→i≤j→j≤l.length→∀w',Up w w'→Calls Tryz.prog 199 #[v,.int .i64 (j:Int)] w' (qO (prodL B.nck B.long l j) w'):=by
   intro e
   induction e with
   | zero=>
    intro j hj hij hjl w' u;exact bP l j hjl hl w' v (hv.up u) (fun w2 u2=>zTz l j hjl hl hz w2 v (hv.up (u.trans u2)) (fun j2 h1 h2 w3 u3=>cT j2 (by omega) h2 w3 ((u.trans u2).trans u3)) (fun j2 h1 h2 w3 u3=>cC j2 (by omega) h2 w3 ((u.trans u2).trans u3))) (fun j2 h1 h2 _ _=>by omega)
   | succ e ihe=>
    intro j hj hij hjl w' u;exact bP l j hjl hl w' v (hv.up u) (fun w2 u2=>zTz l j hjl hl hz w2 v (hv.up (u.trans u2)) (fun j2 h1 h2 w3 u3=>cT j2 (by omega) h2 w3 ((u.trans u2).trans u3)) (fun j2 h1 h2 w3 u3=>cC j2 (by omega) h2 w3 ((u.trans u2).trans u3))) (fun j2 h1 h2 w3 u3=>ihe j2 (by omega) (by omega) h2 w3 (u.trans u3))
  exact⟨yZm l i hi hl w v hv (fun w' u=>pr _ i (Nat.le_refl _) (Nat.le_refl _) hi w' u) cT,zD9 l i hi hl hz w v hv cT⟩
 termination_by d=>d
section
variable (nk lg:ByteArray→Bool)
end
theorem yZo (l:List Tk) (i:Int) (hl:l.length≤1000000) (hz:∀t∈l,t.s.size≤1000000000) (w:World) (v:Value) (hv:Tkm w v l) :
  Calls Tryz.prog 127 #[v,.int .i64 i] w (mH (typZ B.nck B.long l i) w):=by
 have HV:=Lib.hid hv;have HZ:=Lib.hid hz;obtain⟨A,c,rfl,-⟩:=hv;obtain⟨n,hn⟩:∃n,l.length=n:=⟨_,rfl⟩;have HN:=Lib.hid hn
 by_cases h0:i<0
 ·have HR:Hid (typZ B.nck B.long l i = .inr (0,2)):=Lib.hid (by unfold typZ;rw[if_pos (.inl h0)])
  rw[HR.out]
  go_enter Tryz.func127,Tryz.ntmps127
  go_wp2_with fail
  go_ret3
  exact⟨_,_,_,rfl,⟨rfl,rfl,rfl⟩,Up.refl _⟩
 ·by_cases h1:(n:Int)<i
  ·have HR:Hid (typZ B.nck B.long l i = .inr (0,2)):=Lib.hid (by unfold typZ;rw[if_pos (.inr (by rw[hn];exact h1))])
   rw[HR.out];rw[hn]
   go_enter Tryz.func127,Tryz.ntmps127
   go_wp2_with fail
   go_ret3
   exact⟨_,_,_,rfl,⟨rfl,rfl,rfl⟩,Up.refl _⟩
  ·obtain⟨k,rfl⟩:=Int.eq_ofNat_of_zero_le (by omega:0≤i)
   have hkn:k≤l.length:=by omega
   have HR:Hid (typZ B.nck B.long l (k:Int)=typL B.nck B.long l k):=Lib.hid (by unfold typZ;rw[if_neg (by rw[hn];omega),Int.toNat_natCast]);rw[HR.out];have cT:=(zNj l hl HZ.out _ k (Nat.le_refl _) hkn w _ HV.out).1;have hle:=mG (nk:=B.nck) (lg:=B.long) l k hkn;rw[hn] at cT ⊢;clear hz hn
   cases hT:typL B.nck B.long l k with
   | inr e=>
    obtain⟨p,er⟩:=e;rw[hT] at hle cT;have hne:¬er=0:=hle.2 p er rfl;clear hT hle
    go_enter Tryz.func127,Tryz.ntmps127
    go_wp2_with fail;refine cT.mono ?_;rintro e w1 ⟨va,ja,ea,rfl,⟨rfl,rfl,A1,rfl⟩,u1⟩;go_wp2_with fail
    go_ret3
    exact⟨_,_,_,rfl,⟨rfl,rfl,rfl⟩,u1⟩
   | inl r=>
    obtain⟨t,q⟩:=r;rw[hT] at cT;clear hT hle
    go_enter Tryz.func127,Tryz.ntmps127
    go_wp2_with fail;refine cT.mono ?_;rintro e w1 ⟨va,ja,ea,rfl,⟨h1,rfl,rfl⟩,u1⟩;go_wp2_with fail
    go_ret3
    exact⟨_,_,_,rfl,⟨h1,rfl,rfl⟩,u1⟩
def TxS (w:World) (v:Value) (ks:List ByteArray):Prop:=∃A c,v = .slice A ks.length c∧∀(j:Nat) (s:ByteArray),ks[j]? = some s→∃b o,A=some ⟨b,o,none⟩∧w.cell? ⟨b,o+j,none⟩=some (.string s)
theorem TxS.up {W w:World} {v:Value} {l:List ByteArray} (h:TxS W v l) (u:Up W w):TxS w v l:=by
 obtain⟨A,c,rfl,h⟩:=h;refine⟨A,c,rfl,fun j t ht=>?_⟩;obtain⟨b,o,h1,h2⟩:=h j t ht;exact⟨b,o,h1,u.cell h2⟩
theorem TxS.nil (w:World):TxS w (.slice none 0 0) []:=⟨none,0,rfl,fun j s h=>by cases h⟩
def KeV (R:Rs Unit) (j e:Int):Prop:=match R with
 | .inl (_,q)=>j=(q:Int)∧e=0
 | .inr (p,r)=>j=(p:Int)∧e=r
def KeP (R:Rs Unit) (w:World) (e:Ending) (w':World):Prop:=∃j er,e = .returned (.tuple #[.int .i64 j,.int .i64 er])∧KeV R j er∧Up w w'
theorem zQk {l:List Tk} {ks:List ByteArray} {k i:Nat} {s:ByteArray} (hs:ks[k]? = some s):keysL l i (ks.drop k)=if key l i s then keysL l (i+1) (ks.drop (k+1)) else .inr (i,6):=by
 obtain⟨hk,hs⟩:=List.getElem?_eq_some_iff.1 hs;rw[List.drop_eq_getElem_cons hk,hs,keysL]
theorem lZ (l:List Te) (i:Nat) (hi:i≤l.length) (hl:l.length≤1000000) (ks:List ByteArray) (w:World) (v vk:Value) (hv:Tke w v l) (hk:TxS w vk ks) :
  Calls Tryz.prog 125 #[v,.int .i64 (i:Int),vk] w (KeP (keysL (tks l) i ks) w):=by
 have HV:=Lib.hid hv;have HKS:=Lib.hid hk;obtain⟨A,c,rfl,hkc⟩:=hk;obtain⟨n,hn⟩:∃n,ks.length=n:=⟨_,rfl⟩;have HN:=Lib.hid hn;have HC:=Lib.hid hkc;obtain⟨R,hR⟩:∃R,keysL (tks l) i ks=R:=⟨_,rfl⟩;have HR:=Lib.hid hR;rw[hR,hn];clear hkc hR hn hv
 go_enter Tryz.func125,Tryz.ntmps125
 go_wp2_with fail
 go_loopw [1,8] (fun x y wr=>∃k:Nat,k≤n∧x = .int .i64 ((i+k:Nat):Int)∧y = .int .i64 (k:Int)∧i+k≤l.length∧R=keysL (tks l) (i+k) (ks.drop k)∧Up w wr) (fun _ y _=>n+1-(intOf y).toNat)
 case atStart=>exact⟨0,Nat.zero_le _,rfl,rfl,hi,HR.out.symm,Up.refl _⟩
 case round=>
  obtain⟨k,hk,rfl,rfl,hik,hRk,hur⟩:=hrel;have HUR:=Lib.hid hur
  by_cases hlt:k<n
  ·have hkz:(k:Int)<(n:Int):=by omega
   obtain⟨s,hs⟩:∃s,ks[k]? = some s:=⟨_,List.getElem?_eq_getElem (by rw[HN.out];exact hlt)⟩;obtain⟨b,o,rfl,hcell⟩:=HC.out k s hs;have kc:wr.cell? ⟨b,o+k,none⟩=some (.string s):=hur.cell hcell;have cK:=vL (tks l) ((i+k:Nat):Int) s wr v (HV.out.up hur).tkm;have ez:keyZ (tks l) ((i+k:Nat):Int) s=key (tks l) (i+k) s:=by unfold keyZ;rw[decide_eq_true (by omega),Int.toNat_natCast,Bool.true_and]
   rw[ez] at cK;rw[zQk hs] at hRk
   cases hb:key (tks l) (i+k) s with
   | false=>
    rw[hb] at cK hRk;have HRK:=Lib.hid hRk;clear hRk hs hcell hb ez hur;go_wp2_with fail;refine cK.mono ?_;rintro e w1 ⟨rfl,u1⟩;go_wp2_with fail
    go_ret2
    refine⟨_,_,rfl,?_,HUR.out.trans u1⟩;rw[HRK.out];exact⟨rfl,rfl⟩
   | true=>
    rw[hb] at cK hRk;have hlt2:i+k<l.length:=qH hb;have HRK:=Lib.hid hRk;have hw1:IntKind.i64.wrap (((i+k:Nat):Int)+1)=((i+(k+1):Nat):Int):=by rw[IntKind.wrap_i64]<;>omega
    have hw2:IntKind.i64.wrap ((k:Int)+1)=((k+1:Nat):Int):=by rw[IntKind.wrap_i64]<;>omega
    clear hRk hs hcell hb ez hur;go_wp2_with fail;refine cK.mono ?_;rintro e w1 ⟨rfl,u1⟩;go_wp2_with fail
    go_roundw
    case rel=>exact⟨k+1,by omega,by first | rfl | rw[hw1],by first | rfl | rw[hw2],by omega,by rw[HRK.out];rfl,HUR.out.trans u1⟩
    case measure=>first | (simp[intOf];omega) | simp[intOf]
  ·obtain rfl:k=n:=by omega
   have hkz:¬(k:Int)<(k:Int):=by omega
   have hRe:R = .inl ((),i+k):=by rw[hRk,List.drop_of_length_le (by rw[HN.out];exact Nat.le_refl _)];rfl
   have HRE:=Lib.hid hRe;clear hRk hRe hur;go_wp2_with fail
   go_ret2
   refine⟨_,_,rfl,?_,HUR.out⟩;rw[HRE.out];exact⟨rfl,rfl⟩
def NmV (R:Rs ByteArray) (s:ByteArray) (j e:Int):Prop:=match R with
 | .inl (a,q)=>s=a∧j=(q:Int)∧e=0
 | .inr (p,r)=>j=(p:Int)∧e=r
def NmR (R:Rs ByteArray) (w:World) (e:Ending) (w':World):Prop:=∃s j er,e = .returned (.tuple #[.string s,.int .i64 j,.int .i64 er])∧NmV R s j er∧Up w w'
theorem zDa (l:List Te) (i:Nat) (hl:l.length≤1000000) (hz:∀t∈l,t.t.s.size≤1000000000) (ks:List ByteArray) (w:World) (v vk:Value) (hv:Tke w v l) (hk:TxS w vk ks) :
  Calls Tryz.prog 59 #[v,.int .i64 (i:Int),vk] w (NmR (nameQ B.nck (tks l) i ks) w):=by
 have hz':∀t∈tks l,t.s.size≤1000000000:=fun t ht=>by
  obtain⟨u,hu,rfl⟩:=List.mem_map.1 ht;exact hz u hu
 have cN:=tL (tks l) (i:Int) w v hv.tkm hz';have ez:namZ B.nck (tks l) (i:Int)=nam B.nck (tks l) i:=by unfold namZ;rw[if_pos (by omega),Int.toNat_natCast]
 rw[ez] at cN
 cases hs:nam B.nck (tks l) i with
 | none=>
  rw[hs] at cN;have hR:nameQ B.nck (tks l) i ks = .inr (i,6):=by unfold nameQ;rw[hs]
  rw[hR];clear hs ez hz hz' hv hk hR
  go_enter Tryz.func59,Tryz.ntmps59
  go_wp2_with fail;refine cN.mono ?_;rintro e w1 ⟨rfl,u1⟩;go_wp2_with fail
  go_ret3
  exact⟨_,_,_,rfl,⟨rfl,rfl⟩,u1⟩
 | some s=>
  rw[hs] at cN;have hlt:=zX2 hs;have hR:nameQ B.nck (tks l) i ks=thn (keysL (tks l) (i+1) ks) fun _ m=>.inl (s,m):=by unfold nameQ;rw[hs]
  rw[hR];have hw1:IntKind.i64.wrap ((i:Int)+1)=((i+1:Nat):Int):=by rw[IntKind.wrap_i64]<;>omega
  have cK:=fun(W:World) (u:Up w W)=>lZ l (i+1) hlt hl ks W v vk (hv.up u) (hk.up u)
  obtain⟨R,hRR⟩:∃R,keysL (tks l) (i+1) ks=R:=⟨_,rfl⟩;rw[hRR] at cK ⊢;clear hs ez hz hz' hv hk hR hRR
  go_enter Tryz.func59,Tryz.ntmps59
  go_wp2_with fail;refine cN.mono ?_;rintro e w1 ⟨rfl,u1⟩;go_wp2_with fail;refine(cK w1 u1).mono ?_;rintro e w2 ⟨j,er,rfl,hV,u2⟩;go_wp2_with fail
  go_ret3
  refine⟨_,_,_,rfl,?_,u1.trans u2⟩
  cases R with
  | inl r=>exact⟨rfl,hV.1,hV.2⟩
  | inr r=>exact hV
def ExAt (l:List Te) (E:Nat→Rs Tr) (f:FuncId) (i:Nat):Prop:=∀(w:World) (v:Value),Tke w v l→Calls Tryz.prog f #[v,.int .i64 (i:Int)] w (qO (E i) w)
theorem yT1 (l:List Te) (E:Nat→Rs Tr) (hE:∀j,j≤l.length→In l.length j (E j)) (i:Nat) (hi:i≤l.length) (hl:l.length≤1000000) (cE:ExAt l E 27 i) (ks:List ByteArray) (w:World) (v vk:Value) (hv:Tke w v l) (hk:TxS w vk ks) :
  Calls Tryz.prog 60 #[v,.int .i64 (i:Int),vk] w (qO (thenK (tks l) (E i) ks) w):=by
 have cX:=cE w v hv;have hin:=hE i hi;unfold thenK
 cases hR:E i with
 | inr e=>
  obtain⟨p,er⟩:=e;rw[hR] at cX;have hne:¬er=0:=hin.ne hR;clear hv hk hin hR cE hE
  go_enter Tryz.func60,Tryz.ntmps60
  go_wp2_with fail;refine cX.mono ?_;rintro e w1 ⟨va,ja,ea,rfl,⟨rfl,rfl,A1,rfl⟩,u1⟩;go_wp2_with fail
  go_ret3
  exact⟨_,_,_,rfl,⟨rfl,rfl,none,rfl⟩,u1⟩
 | inl r=>
  obtain⟨a,j⟩:=r;rw[hR] at cX;have hj:j≤l.length:=xL hin hR;have cK:=fun(W:World) (u:Up w W)=>lZ l j hj hl ks W v vk (hv.up u) (hk.up u)
  show Calls _ _ _ _ (qO (thn (keysL (tks l) j ks) fun _ m=>.inl (a,m)) w)
  obtain⟨R,hRR⟩:∃R,keysL (tks l) j ks=R:=⟨_,rfl⟩;rw[hRR] at cK ⊢;clear hv hk hin hR cE hE hRR
  go_enter Tryz.func60,Tryz.ntmps60
  go_wp2_with fail;refine cX.mono ?_;rintro e w1 ⟨va,ja,ea,rfl,⟨h1,rfl,rfl⟩,u1⟩;go_wp2_with fail;refine(cK w1 u1).mono ?_;rintro e w2 ⟨j2,er,rfl,hV,u2⟩;go_wp2_with fail
  go_ret3
  refine⟨_,_,_,rfl,?_,u1.trans u2⟩
  cases R with
  | inl r=>exact⟨h1.up u2,hV.1,hV.2⟩
  | inr r=>
   obtain⟨q,o,rfl⟩:=InT.ptr h1;exact⟨hV.1,hV.2,_,rfl⟩
theorem yT2 (l:List Te) (i:Nat) (hi:i≤l.length) (hl:l.length≤1000000) (hz:∀t∈l,t.t.s.size≤1000000000) (ks:List ByteArray) (w:World) (v vk:Value) (hv:Tke w v l) (hk:TxS w vk ks) :
  Calls Tryz.prog 63 #[v,.int .i64 (i:Int),vk] w (qO (thenK (tks l) (typL B.nck B.long (tks l) i) ks) w):=by
 have hz':∀t∈tks l,t.s.size≤1000000000:=fun t ht=>by
  obtain⟨u,hu,rfl⟩:=List.mem_map.1 ht;exact hz u hu
 have cX:=yZo (tks l) (i:Int) (by rw[zD];exact hl) hz' w v hv.tkm;have eT:typZ B.nck B.long (tks l) (i:Int)=typL B.nck B.long (tks l) i:=by unfold typZ;rw[if_neg (by rw[zD];omega),Int.toNat_natCast]
 rw[eT] at cX;have hin:=jI (nk:=B.nck) (lg:=B.long) hi;unfold thenK
 cases hR:typL B.nck B.long (tks l) i with
 | inr e=>
  obtain⟨p,er⟩:=e;rw[hR] at cX;have hne:¬er=0:=hin.ne hR;clear hv hk hin hR eT hz hz'
  go_enter Tryz.func63,Tryz.ntmps63
  go_wp2_with fail;refine cX.mono ?_;rintro e w1 ⟨va,ja,ea,rfl,⟨rfl,rfl,rfl⟩,u1⟩;go_wp2_with fail
  go_ret3
  exact⟨_,_,_,rfl,⟨rfl,rfl,none,rfl⟩,u1⟩
 | inl r=>
  obtain⟨a,j⟩:=r;rw[hR] at cX;have hj:j≤l.length:=xL hin hR;have cK:=fun(W:World) (u:Up w W)=>lZ l j hj hl ks W v vk (hv.up u) (hk.up u)
  show Calls _ _ _ _ (qO (thn (keysL (tks l) j ks) fun _ m=>.inl (a,m)) w)
  obtain⟨R,hRR⟩:∃R,keysL (tks l) j ks=R:=⟨_,rfl⟩;rw[hRR] at cK ⊢;clear hv hk hin hR eT hRR hz hz'
  go_enter Tryz.func63,Tryz.ntmps63
  go_wp2_with fail;refine cX.mono ?_;rintro e w1 ⟨va,ja,ea,rfl,⟨h1,rfl,rfl⟩,u1⟩;go_wp2_with fail;refine(cK w1 u1).mono ?_;rintro e w2 ⟨j2,er,rfl,hV,u2⟩;go_wp2_with fail
  go_ret3
  refine⟨_,_,_,rfl,?_,u1.trans u2⟩
  cases R with
  | inl r=>exact⟨h1.up u2,hV.1,hV.2⟩
  | inr r=>
   obtain⟨q,o,rfl⟩:=InT.ptr h1;exact⟨hV.1,hV.2,_,rfl⟩
theorem TxS.row1 (w:World) (a:ByteArray) (ty:TypeId):TxS (w.alloc (.cells #[.string a] ty)) (.slice (some ⟨w.heap.size,0,none⟩) 1 1) [a]:=by
 refine⟨some ⟨w.heap.size,0,none⟩,1,rfl,fun j s h=>⟨_,_,rfl,?_⟩⟩;have h0:=heap_alloc_new w (.cells #[.string a] ty)
 match j,h with
 | 0,h=>
  injection h with h;subst h;exact cell_of_row _ _ 0 _ _ _ h0
theorem TxS.row2 (w:World) (a b:ByteArray) (ty:TypeId):TxS (w.alloc (.cells #[.string a,.string b] ty)) (.slice (some ⟨w.heap.size,0,none⟩) 2 2) [a,b]:=by
 refine⟨some ⟨w.heap.size,0,none⟩,2,rfl,fun j s h=>⟨_,_,rfl,?_⟩⟩;have h0:=heap_alloc_new w (.cells #[.string a,.string b] ty)
 match j,h with
 | 0,h=>
  injection h with h;subst h;exact cell_of_row _ _ 0 _ _ _ h0
 | 1,h=>
  injection h with h;subst h;exact cell_of_row _ _ 1 _ _ _ h0
section
variable {W w:World}
theorem has1 {va:Value} {a:Tr} {k:Int} {s:ByteArray} (hW:W.heap.size≤w.heap.size) (ha:NewT W w va a) :
  NewT W ((w.alloc (.cells #[va] 24)).alloc (.cells #[.int .i64 k,.int .i64 0,.string s,.string ⟨#[]⟩,.slice (some ⟨w.heap.size,0,none⟩) 1 1] 57)) (.pointer (some ⟨w.heap.size+1,0,none⟩)) (nd k s (fr1 a)):=by
 have e1:(w.alloc (.cells #[va] 24)).heap.size=w.heap.size+1:=by simp
 rw[←e1];obtain⟨W1,hW1⟩:∃W1,w.alloc (.cells #[va] 24)=W1:=⟨_,rfl⟩;have s1:W1.heap[w.heap.size]? = some (.cells #[va] 24 (0,0)):=by rw[←hW1];exact heap_alloc_new w _
 have u1:Up w W1:=by rw[←hW1];exact(Up.refl w).alloc _
 have z1:=u1.size;rw[hW1];obtain⟨W2,hW2⟩:∃W2,W1.alloc (.cells #[.int .i64 k,.int .i64 0,.string s,.string ⟨#[]⟩,.slice (some ⟨w.heap.size,0,none⟩) 1 1] 57)=W2:=⟨_,rfl⟩;have s2:W2.heap[W1.heap.size]? = some (.cells #[.int .i64 k,.int .i64 0,.string s,.string ⟨#[]⟩,.slice (some ⟨w.heap.size,0,none⟩) 1 1] 57 (0,0)):=by rw[←hW2];exact heap_alloc_new W1 _
 have u2:Up W1 W2:=by rw[←hW2];exact(Up.refl W1).alloc _
 have s3:W2.heap[w.heap.size]? = some (.cells #[va] 24 (0,0)):=u2.row s1;rw[hW2];exact yX (x:=⟨k,0,s,nob⟩) (f:=fr1 a) s2 rfl (Nat.le_refl _) ⟨by omega,qC s2⟩ ⟨hW,qC s3⟩ ⟨⟨_,cell_of_row W2 w.heap.size 0 _ _ _ s3,ha.up (u1.trans u2)⟩,trivial⟩
theorem has3 {va vb vc:Value} {a b c:Tr} {k:Int} {s:ByteArray} (hW:W.heap.size≤w.heap.size) (ha:NewT W w va a) (hb:NewT W w vb b) (hc:NewT W w vc c) :
  NewT W ((w.alloc (.cells #[va,vb,vc] 24)).alloc (.cells #[.int .i64 k,.int .i64 0,.string s,.string ⟨#[]⟩,.slice (some ⟨w.heap.size,0,none⟩) 3 3] 57)) (.pointer (some ⟨w.heap.size+1,0,none⟩)) (nd k s (fr3 a b c)):=by
 have e1:(w.alloc (.cells #[va,vb,vc] 24)).heap.size=w.heap.size+1:=by simp
 rw[←e1];obtain⟨W1,hW1⟩:∃W1,w.alloc (.cells #[va,vb,vc] 24)=W1:=⟨_,rfl⟩;have s1:W1.heap[w.heap.size]? = some (.cells #[va,vb,vc] 24 (0,0)):=by rw[←hW1];exact heap_alloc_new w _
 have u1:Up w W1:=by rw[←hW1];exact(Up.refl w).alloc _
 have z1:=u1.size;rw[hW1];obtain⟨W2,hW2⟩:∃W2,W1.alloc (.cells #[.int .i64 k,.int .i64 0,.string s,.string ⟨#[]⟩,.slice (some ⟨w.heap.size,0,none⟩) 3 3] 57)=W2:=⟨_,rfl⟩;have s2:W2.heap[W1.heap.size]? = some (.cells #[.int .i64 k,.int .i64 0,.string s,.string ⟨#[]⟩,.slice (some ⟨w.heap.size,0,none⟩) 3 3] 57 (0,0)):=by rw[←hW2];exact heap_alloc_new W1 _
 have u2:Up W1 W2:=by rw[←hW2];exact(Up.refl W1).alloc _
 have s3:W2.heap[w.heap.size]? = some (.cells #[va,vb,vc] 24 (0,0)):=u2.row s1;rw[hW2];exact yX (x:=⟨k,0,s,nob⟩) (f:=fr3 a b c) s2 rfl (Nat.le_refl _) ⟨by omega,qC s2⟩ ⟨hW,qC s3⟩ ⟨⟨_,cell_of_row W2 w.heap.size 0 _ _ _ s3,ha.up (u1.trans u2)⟩,⟨_,cell_of_row W2 w.heap.size 1 _ _ _ s3,hb.up (u1.trans u2)⟩,⟨_,cell_of_row W2 w.heap.size 2 _ _ _ s3,hc.up (u1.trans u2)⟩,trivial⟩
end
theorem RsV.ptr {R:Rs Tr} {w w':World} {v:Value} {j e:Int} (h:RsV R w w' v j e):∃A,v = .pointer A:=by
 cases R with
 | inl r=>obtain⟨q,o,rfl⟩:=InT.ptr h.1;exact⟨_,rfl⟩
 | inr r=>exact h.2.2
theorem qS (i k:Nat) (hi:i≤1000000) (hk:k≤1000000):IntKind.i64.wrap ((i:Int)+(k:Int))=((i+k:Nat):Int):=by rw[IntKind.wrap_i64]<;>omega
structure zWt (l:List Te) (E:Nat→Rs Tr) (i:Nat) (w:World) (v:Value):Prop where
 hi:i<l.length
 hl:l.length≤1000000
 inE:∀j,j≤l.length→In l.length j (E j)
 key:∀(j:Nat) (x:ByteArray) (W:World),Up w W→Calls Tryz.prog 57 #[v,.int .i64 (j:Int),.string x] W (BoU (Proofs.YtbpijnalmakfaaaGreatDoor.key (tks l) j x) W)
 name:∀(j:Nat) (ks:List ByteArray) (W:World) (vk:Value),Up w W→TxS W vk ks→Calls Tryz.prog 59 #[v,.int .i64 (j:Int),vk] W (NmR (nameQ B.nck (tks l) j ks) W)
 keys:∀(j:Nat) (ks:List ByteArray) (W:World) (vk:Value),j≤l.length→Up w W→TxS W vk ks→Calls Tryz.prog 125 #[v,.int .i64 (j:Int),vk] W (KeP (keysL (tks l) j ks) W)
 typ:∀(j:Nat) (ks:List ByteArray) (W:World) (vk:Value),j≤l.length→Up w W→TxS W vk ks→Calls Tryz.prog 63 #[v,.int .i64 (j:Int),vk] W (qO (thenK (tks l) (typL B.nck B.long (tks l) j) ks) W)
 sub:∀(j:Nat) (ks:List ByteArray) (W:World) (vk:Value),i<j→j≤l.length→Up w W→TxS W vk ks→Calls Tryz.prog 60 #[v,.int .i64 (j:Int),vk] W (qO (thenK (tks l) (E j) ks) W)
 expr:∀(j:Nat) (W:World),i<j→j≤l.length→Up w W→Calls Tryz.prog 27 #[v,.int .i64 (j:Int)] W (qO (E j) W)
theorem yJ {l:List Tk} {i:Nat} {x y:ByteArray} (h:key l i x=true) (hxy:¬x=y):key l i y=false:=by
 unfold key at h ⊢
 cases ht:l[i]? with
 | none=>rfl
 | some t=>
  rw[ht] at h;simp only[Bool.and_eq_true,decide_eq_true_eq] at h
  show(decide (t.k=3)&&decide (t.s=y))=false
  rw[h.2,decide_eq_false hxy,Bool.and_false]
theorem NewT.from {W a b c:World} {v:Value} {t:Tr} (h:NewT a b v t) (u:Up W a) (u2:Up b c):NewT W c v t:=(h.base u.size).up u2
theorem zDb {l:List Te} {N:Nat} {A E:Nat→Rs Tr} {M:Nat→Fr→Rs Fr} {i:Nat} {w:World} {v:Value} (H:zWt l E i w v) (hk:key (tks l) i kLet=true) :
  Calls Tryz.prog 27 #[v,.int .i64 (i:Int)] w (qO (exprS B.nck B.long l N A E M i) w):=by
 have hil:=H.hi;have hll:=H.hl;have k0:=H.key i kFn;have k1:=H.key i kLet;rw[yJ hk (by decide)] at k0;rw[hk] at k1;have hR:exprS B.nck B.long l N A E M i=letS B.nck l E (i+1):=by unfold exprS;rw[if_neg (by rw[yJ hk (by decide)];decide),if_pos hk]
 rw[hR];have hw1:=qS i 1 (by omega) (by omega);obtain⟨R,hRe⟩:∃R,letS B.nck l E (i+1)=R:=⟨_,rfl⟩;rw[hRe];have HR:=Lib.hid hRe;clear hR hk hRe
 go_enter Tryz.func27,Tryz.ntmps27
 go_wp2_with fail;refine(k0 w (Up.refl w)).mono ?_;rintro e x0 ⟨rfl,u0⟩;have V0:=u0;go_wp2_with fail;refine(k1 x0 V0).mono ?_;rintro e x1 ⟨rfl,u1⟩;have V1:=V0.trans u1;have c0:=fun W vk u h=>H.name (i+1) [kEq] W vk u h
 have a0:=zV (p:=B.nck) (ks:=[kEq]) hil;obtain⟨R0,hR0⟩:∃R0,nameQ B.nck (tks l) (i+1) [kEq]=R0:=⟨_,rfl⟩;rw[hR0] at c0 a0;have HR0:=Lib.hid hR0;clear hR0;go_wp2_with fail;refine(c0 _ _ (V1.alloc _) (TxS.row1 x1 kEq _)).mono ?_;rintro e w1 ⟨s,j0,e0,rfl,hV,z0⟩;have U1:Up w w1:=(V1.alloc _).trans z0
 cases R0 with
 | inr r=>
  obtain⟨p,er⟩:=r;obtain⟨rfl,rfl⟩:=hV;have hne:=a0.ne rfl;go_wp2_with fail
  go_ret3
  rw[show R = .inr (p,e0) from by rw[←HR.out];unfold letS;rw[HR0.out];rfl];exact⟨_,_,_,rfl,⟨rfl,rfl,none,rfl⟩,U1⟩
 | inl r=>
  obtain⟨s0,q0⟩:=r;obtain⟨rfl,rfl,rfl⟩:=hV;have hq0:i+1<q0∧q0≤l.length:=a0;clear c0 a0;have c1:=fun W vk u h=>H.sub q0 [kIn] W vk (by omega) hq0.2 u h
  have a1:=qM (ks:=[kIn]) (H.inE q0 hq0.2);obtain⟨R1,hR1⟩:∃R1,thenK (tks l) (E q0) [kIn]=R1:=⟨_,rfl⟩;rw[hR1] at c1 a1;have HR1:=Lib.hid hR1;clear hR1;go_wp2_with fail;refine(c1 _ _ (U1.alloc _) (TxS.row1 w1 kIn _)).mono ?_;rintro e w2 ⟨v1,j1,e1,rfl,hV,z1⟩;have U2:Up w w2:=(U1.alloc _).trans z1
  cases R1 with
  | inr r=>
   obtain⟨p,er⟩:=r;obtain⟨rfl,rfl,A1,rfl⟩:=hV;have hne:=a1.ne rfl;go_wp2_with fail
   go_ret3
   rw[show R = .inr (p,e1) from by rw[←HR.out];unfold letS;rw[HR0.out];show thn (thenK (tks l) (E q0) [kIn]) _=_;rw[HR1.out];rfl];exact⟨_,_,_,rfl,⟨rfl,rfl,none,rfl⟩,U2⟩
  | inl r=>
   obtain⟨t1,q1⟩:=r;obtain⟨h1,rfl,rfl⟩:=hV;obtain⟨o1,p1,rfl⟩:=InT.ptr h1;have hq1:q0<q1∧q1≤l.length:=a1;clear c1 a1;have c2:=fun W vk u h=>H.sub q1 [kEnd] W vk (by omega) hq1.2 u h
   obtain⟨R2,hR2⟩:∃R2,thenK (tks l) (E q1) [kEnd]=R2:=⟨_,rfl⟩;rw[hR2] at c2;have HR2:=Lib.hid hR2;clear hR2;go_wp2_with fail;refine(c2 _ _ (U2.alloc _) (TxS.row1 w2 kEnd _)).mono ?_;rintro e w3 ⟨v2,j2,e2,rfl,hV,z2⟩;have U3:Up w w3:=(U2.alloc _).trans z2;obtain⟨pb,rfl⟩:=hV.ptr;go_wp2_with fail;refine(yI 29 s _ _ _ _).mono ?_;rintro e w4 ⟨rfl,rfl⟩;go_wp2_with fail
   go_ret3
   have hRR:R=thn R2 fun b m=>.inl (nd 29 s (fr2 t1 b),m):=by rw[←HR.out];unfold letS;rw[HR0.out];show thn (thenK (tks l) (E q0) [kIn]) _=_;rw[HR1.out];show thn (thenK (tks l) (E q1) [kEnd]) _=_;rw[HR2.out]
   rw[hRR];refine⟨_,_,_,rfl,?_,(U3.alloc _).alloc _⟩
   cases R2 with
   | inr r=>exact⟨hV.1,hV.2.1,_,rfl⟩
   | inl r=>exact⟨zXg U3.size (h1.from (U1.alloc _) ((((Up.refl _).alloc _).trans z2))) (hV.1.from (U2.alloc _) (Up.refl _)),hV.2.1,hV.2.2⟩
theorem yZp {l:List Te} {N:Nat} {A E:Nat→Rs Tr} {M:Nat→Fr→Rs Fr} {i:Nat} {w:World} {v:Value} (H:zWt l E i w v) (hk:key (tks l) i kIf=true) :
  Calls Tryz.prog 27 #[v,.int .i64 (i:Int)] w (qO (exprS B.nck B.long l N A E M i) w):=by
 have hil:=H.hi;have hll:=H.hl;have k0:=H.key i kFn;have k1:=H.key i kLet;have k2:=H.key i kIf;rw[yJ hk (by decide)] at k0;rw[yJ hk (by decide)] at k1;rw[hk] at k2;have hR:exprS B.nck B.long l N A E M i=ifS l E (i+1):=by unfold exprS;rw[if_neg (by rw[yJ hk (by decide)];decide),if_neg (by rw[yJ hk (by decide)];decide),if_pos hk]
 rw[hR];have hw1:=qS i 1 (by omega) (by omega);obtain⟨R,hRe⟩:∃R,ifS l E (i+1)=R:=⟨_,rfl⟩;rw[hRe];have HR:=Lib.hid hRe;clear hR hk hRe
 go_enter Tryz.func27,Tryz.ntmps27
 go_wp2_with fail;refine(k0 w (Up.refl w)).mono ?_;rintro e x0 ⟨rfl,u0⟩;have V0:=u0;go_wp2_with fail;refine(k1 x0 V0).mono ?_;rintro e x1 ⟨rfl,u1⟩;have V1:=V0.trans u1;go_wp2_with fail;refine(k2 x1 V1).mono ?_;rintro e x2 ⟨rfl,u2⟩;have V2:=V1.trans u2;have c0:=fun W vk u h=>H.sub (i+1) [kThen] W vk (Nat.lt_succ_self i) hil u h
 have a0:=qM (ks:=[kThen]) (H.inE (i+1) hil);obtain⟨R0,hR0⟩:∃R0,thenK (tks l) (E (i+1)) [kThen]=R0:=⟨_,rfl⟩;rw[hR0] at c0 a0;have HR0:=Lib.hid hR0;clear hR0;go_wp2_with fail;refine(c0 _ _ (V2.alloc _) (TxS.row1 x2 kThen _)).mono ?_;rintro e w1 ⟨v0,j0,e0,rfl,hV,z0⟩;have U1:Up w w1:=(V2.alloc _).trans z0
 cases R0 with
 | inr r=>
  obtain⟨p,er⟩:=r;obtain⟨rfl,rfl,A1,rfl⟩:=hV;have hne:=a0.ne rfl;go_wp2_with fail
  go_ret3
  rw[show R = .inr (p,e0) from by rw[←HR.out];unfold ifS;rw[HR0.out];rfl];exact⟨_,_,_,rfl,⟨rfl,rfl,none,rfl⟩,U1⟩
 | inl r=>
  obtain⟨t0,q0⟩:=r;obtain⟨h0,rfl,rfl⟩:=hV;obtain⟨o0,p0,rfl⟩:=InT.ptr h0;have hq0:i+1<q0∧q0≤l.length:=a0;clear c0 a0;have c1:=fun W vk u h=>H.sub q0 [kElse] W vk (by omega) hq0.2 u h
  have a1:=qM (ks:=[kElse]) (H.inE q0 hq0.2);obtain⟨R1,hR1⟩:∃R1,thenK (tks l) (E q0) [kElse]=R1:=⟨_,rfl⟩;rw[hR1] at c1 a1;have HR1:=Lib.hid hR1;clear hR1;go_wp2_with fail;refine(c1 _ _ (U1.alloc _) (TxS.row1 w1 kElse _)).mono ?_;rintro e w2 ⟨v1,j1,e1,rfl,hV,z1⟩;have U2:Up w w2:=(U1.alloc _).trans z1
  cases R1 with
  | inr r=>
   obtain⟨p,er⟩:=r;obtain⟨rfl,rfl,A1,rfl⟩:=hV;have hne:=a1.ne rfl;go_wp2_with fail
   go_ret3
   rw[show R = .inr (p,e1) from by rw[←HR.out];unfold ifS;rw[HR0.out];show thn (thenK (tks l) (E q0) [kElse]) _=_;rw[HR1.out];rfl];exact⟨_,_,_,rfl,⟨rfl,rfl,none,rfl⟩,U2⟩
  | inl r=>
   obtain⟨t1,q1⟩:=r;obtain⟨h1,rfl,rfl⟩:=hV;obtain⟨o1,p1,rfl⟩:=InT.ptr h1;have hq1:q0<q1∧q1≤l.length:=a1;clear c1 a1;have c2:=fun W u=>H.expr q1 W (by omega) hq1.2 u
   obtain⟨R2,hR2⟩:∃R2,E q1=R2:=⟨_,rfl⟩;rw[hR2] at c2;have HR2:=Lib.hid hR2;clear hR2;go_wp2_with fail;refine(c2 _ U2).mono ?_;rintro e w3 ⟨v2,j2,e2,rfl,hV,z2⟩;have U3:Up w w3:=U2.trans z2;obtain⟨pb,rfl⟩:=hV.ptr;go_wp2_with fail;refine(yI 30 nob _ _ _ _).mono ?_;rintro e w4 ⟨rfl,rfl⟩;go_wp2_with fail
   go_ret3
   have hRR:R=thn R2 fun b m=>.inl (nd 30 nob (fr3 t0 t1 b),m):=by rw[←HR.out];unfold ifS;rw[HR0.out];show thn (thenK (tks l) (E q0) [kElse]) _=_;rw[HR1.out];show thn (E q1) _=_;rw[HR2.out]
   rw[hRR];refine⟨_,_,_,rfl,?_,(U3.alloc _).alloc _⟩
   cases R2 with
   | inr r=>exact⟨hV.1,hV.2.1,_,rfl⟩
   | inl r=>exact⟨has3 U3.size (h0.from (V2.alloc _) (((((Up.refl _).alloc _).trans z1).trans z2))) (h1.from (U1.alloc _) (((Up.refl _).trans z2))) (hV.1.from U2 (Up.refl _)),hV.2.1,hV.2.2⟩
theorem yT3 {l:List Te} {E:Nat→Rs Tr} {i:Nat} {w:World} {v:Value} (H:zWt l E i w v) :
  Calls Tryz.prog 58 #[v,.int .i64 ((i+1:Nat):Int)] w (qO (lamS B.nck B.long l E (i+1)) w):=by
 have hil:=H.hi;have hll:=H.hl;obtain⟨R,hRe⟩:∃R,lamS B.nck B.long l E (i+1)=R:=⟨_,rfl⟩;rw[hRe];have HR:=Lib.hid hRe;clear hRe
 go_enter Tryz.func58,Tryz.ntmps58
 have c0:=fun W vk u h=>H.keys (i+1) [kOpen] W vk hil u h
 have a0:=zX3 (k:=kOpen) (r:=[]) hil;obtain⟨R0,hR0⟩:∃R0,keysL (tks l) (i+1) [kOpen]=R0:=⟨_,rfl⟩;rw[hR0] at c0 a0;have HR0:=Lib.hid hR0;clear hR0;go_wp2_with fail;refine(c0 _ _ ((Up.refl w).alloc _) (TxS.row1 w kOpen _)).mono ?_;rintro e w1 ⟨j0,e0,rfl,hV,z0⟩;have U1:Up w w1:=((Up.refl w).alloc _).trans z0
 cases R0 with
 | inr r=>
  obtain⟨p,er⟩:=r;obtain⟨rfl,rfl⟩:=hV;have hne:=a0.ne rfl;go_wp2_with fail
  go_ret3
  rw[show R = .inr (p,e0) from by rw[←HR.out];unfold lamS;rw[HR0.out];rfl];exact⟨_,_,_,rfl,⟨rfl,rfl,none,rfl⟩,U1⟩
 | inl r=>
  obtain⟨y0,q0⟩:=r;obtain⟨rfl,rfl⟩:=hV;have hq0:i+1<q0∧q0≤l.length:=a0;clear c0 a0;have c1:=fun W vk u h=>H.name q0 [zQ] W vk u h
  have a1:=zV (p:=B.nck) (ks:=[zQ]) hq0.2;obtain⟨R1,hR1⟩:∃R1,nameQ B.nck (tks l) q0 [zQ]=R1:=⟨_,rfl⟩;rw[hR1] at c1 a1;have HR1:=Lib.hid hR1;clear hR1;go_wp2_with fail;refine(c1 _ _ (U1.alloc _) (TxS.row1 w1 zQ _)).mono ?_;rintro e w2 ⟨s,j1,e1,rfl,hV,z1⟩;have U2:Up w w2:=(U1.alloc _).trans z1
  cases R1 with
  | inr r=>
   obtain⟨p,er⟩:=r;obtain⟨rfl,rfl⟩:=hV;have hne:=a1.ne rfl;go_wp2_with fail
   go_ret3
   rw[show R = .inr (p,e1) from by rw[←HR.out];unfold lamS;rw[HR0.out];show thn (nameQ B.nck (tks l) q0 [zQ]) _=_;rw[HR1.out];rfl];exact⟨_,_,_,rfl,⟨rfl,rfl,none,rfl⟩,U2⟩
  | inl r=>
   obtain⟨s1,q1⟩:=r;obtain⟨rfl,rfl,rfl⟩:=hV;have hq1:q0<q1∧q1≤l.length:=a1;clear c1 a1;have c2:=fun W vk u h=>H.typ q1 [kShut,kFat] W vk hq1.2 u h
   have a2:=qM (ks:=[kShut,kFat]) (jI (nk:=B.nck) (lg:=B.long) hq1.2);obtain⟨R2,hR2⟩:∃R2,thenK (tks l) (typL B.nck B.long (tks l) q1) [kShut,kFat]=R2:=⟨_,rfl⟩;rw[hR2] at c2 a2;have HR2:=Lib.hid hR2;clear hR2;go_wp2_with fail;refine(c2 _ _ (U2.alloc _) (TxS.row2 w2 kShut kFat _)).mono ?_;rintro e w3 ⟨v2,j2,e2,rfl,hV,z2⟩;have U3:Up w w3:=(U2.alloc _).trans z2
   cases R2 with
   | inr r=>
    obtain⟨p,er⟩:=r;obtain⟨rfl,rfl,A1,rfl⟩:=hV;have hne:=a2.ne rfl;go_wp2_with fail
    go_ret3
    rw[show R = .inr (p,e2) from by rw[←HR.out];unfold lamS;rw[HR0.out];show thn (nameQ B.nck (tks l) q0 [zQ]) _=_;rw[HR1.out];show thn (thenK (tks l) (typL B.nck B.long (tks l) q1) [kShut,kFat]) _=_;rw[HR2.out];rfl];exact⟨_,_,_,rfl,⟨rfl,rfl,none,rfl⟩,U3⟩
   | inl r=>
    obtain⟨t2,q2⟩:=r;obtain⟨h2,rfl,rfl⟩:=hV;obtain⟨o2,p2,rfl⟩:=InT.ptr h2;have hq2:q1<q2∧q2≤l.length:=a2;clear c2 a2;have c3:=fun W u=>H.expr q2 W (by omega) hq2.2 u
    obtain⟨R3,hR3⟩:∃R3,E q2=R3:=⟨_,rfl⟩;rw[hR3] at c3;have HR3:=Lib.hid hR3;clear hR3;go_wp2_with fail;refine(c3 _ U3).mono ?_;rintro e w4 ⟨v3,j3,e3,rfl,hV,z3⟩;have U4:Up w w4:=U3.trans z3;obtain⟨pb,rfl⟩:=hV.ptr;go_wp2_with fail;refine(yI 24 s _ _ _ _).mono ?_;rintro e w5 ⟨rfl,rfl⟩;go_wp2_with fail
    go_ret3
    have hRR:R=thn R3 fun b m=>.inl (nd 24 s (fr2 t2 b),m):=by rw[←HR.out];unfold lamS;rw[HR0.out];show thn (nameQ B.nck (tks l) q0 [zQ]) _=_;rw[HR1.out];show thn (thenK (tks l) (typL B.nck B.long (tks l) q1) [kShut,kFat]) _=_;rw[HR2.out];show thn (E q2) _=_;rw[HR3.out]
    rw[hRR];refine⟨_,_,_,rfl,?_,(U4.alloc _).alloc _⟩
    cases R3 with
    | inr r=>exact⟨hV.1,hV.2.1,_,rfl⟩
    | inl r=>exact⟨zXg U4.size (h2.from (U2.alloc _) (((Up.refl _).trans z3))) (hV.1.from U3 (Up.refl _)),hV.2.1,hV.2.2⟩
end Go.Proofs.YtbpijnalmakfaaaGreatDoor
