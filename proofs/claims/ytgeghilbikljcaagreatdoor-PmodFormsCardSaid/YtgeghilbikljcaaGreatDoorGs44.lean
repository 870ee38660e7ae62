/-
  The law PmodForms.
-/
import Derived.Test.YtgeghilbikljcaaGreatDoorGs30
import Derived.Test.YtgeghilbikljcaaGreatDoorGs43
set_option maxHeartbeats 40000000
set_option maxRecDepth 100000
namespace Go.Proofs.YtgeghilbikljcaaGreatDoor
open Go.RowKit
section
variable {nk lg:ByteArray->Bool}
theorem aF:∀(ks:List UInt8) (l:List Inf),seqOk l ks=true->∀i∈l,∃c,i.is c=true
 | [],l,h,i,hi=>by
  cases l with
  | nil=>cases hi
  | cons a b=>cases h
 | c::r,l,h,i,hi=>by
  unfold seqOk at h
  split at h
  ·have h1:=List.all_eq_true.1 h i hi
   rw[Bool.and_eq_true] at h1;exact⟨_,h1.1⟩
  ·split at h
   ·rw[Bool.and_eq_true,Bool.and_eq_true] at h
    exact⟨_,List.all_eq_true.1 h.1.2 i hi⟩
   ·split at h
    ·rw[Bool.and_eq_true] at h
     exact⟨_,List.all_eq_true.1 h.2 i hi⟩
    ·cases l with
     | nil=>cases hi
     | cons a b=>
      simp only at h;rw[Bool.and_eq_true] at h
      rcases List.mem_cons.1 hi with rfl | hi
      ·exact⟨_,h.1⟩
      ·exact aF r b h.2 i hi
theorem pU (hn:∀s,nk s=true->s.size<=128) (hg:∀s,lg s=true->s.size<=128) {s:ByteArray} {w:List UInt8} (h:wordR nk lg s w=true):s.size<=1000000000:=by
 unfold wordR at h
 split at h
 ·have:=hn s h;omega
 ·split at h
  ·have:=hg s h;omega
  ·have:=of_decide_eq_true h;omega
theorem aG (hn:∀s,nk s=true->s.size<=128) (hg:∀s,lg s=true->s.size<=128):∀f:Fr,(∀i∈infF nk lg f,∃c,i.is c=true)->okS f
 | .nil,_=>trivial
 | .cons x k r,h=>by
  obtain⟨c,hc⟩:=h ⟨x.k,x.a,isX nk lg x (infF nk lg k)⟩ (List.mem_cons_self ..);obtain⟨rw1,_,h2⟩:=zE.1 hc;obtain⟨_,_,h3,h4,_,_,h5⟩:=zG.1 h2;exact⟨pU hn hg h3,pU hn hg h4,aG hn hg k (aF _ _ h5),aG hn hg r fun i hi=>h i (List.mem_cons_of_mem _ hi)⟩
theorem zPq (hn:∀s,nk s=true->s.size<=128) (hg:∀s,lg s=true->s.size<=128) {t:Tr} {c:Int} (h:isT nk lg t c=true):okST t:=by
 obtain⟨rw1,_,h2⟩:=zE.1 h;obtain⟨_,_,h3,h4,_,_,h5⟩:=zG.1 h2;exact⟨pU hn hg h3,pU hn hg h4,aG hn hg t.2 (aF _ _ h5)⟩
theorem zJy {t:Tr} {c:Int} (h:chk nk lg (some t) c=0):isT nk lg t c=true:=by
 unfold chk at h;simp only at h
 split at h
 ·omega
 ·split at h
  ·omega
  ·split at h
   ·assumption
   ·omega
end
theorem zS9:∀(n:Nat) (l:List Nat) (a:Nat) (toks:List (B.Tok×Nat)),l.length<=n->B.lexL l a = .inl toks->∀x∈toks,x.2<=a+B.sz l
 | n,l,a,toks,hn,h=>by
  by_cases he:l.drop (B.btw l)=[]
  ·rw[B.nB he] at h
   injection h with h;subst h;intro x hx
   cases hx
  ·cases ht:B.tokT (l.drop (B.btw l)) with
   | none=>rw[B.nC he ht] at h;cases h
   | some tn=>
    obtain⟨t,j⟩:=tn;have hj:=B.xB ht;have hj2:=hj.2;simp only[List.length_drop] at hj2;rw[B.fK he ht] at h
    cases hx:B.lexL ((l.drop (B.btw l)).drop j) (a+B.sz (l.take (B.btw l))+B.sz ((l.drop (B.btw l)).take j)) with
    | inr r=>rw[hx] at h;cases h
    | inl q=>
     rw[hx] at h;simp only[Sum.inl.injEq] at h;subst h
     cases n with
     | zero=>omega
     | succ n=>
      have ih:=zS9 n _ _ _ (by simp only[List.length_drop];omega) hx;have hs1:B.sz l=B.sz (l.take (B.btw l))+B.sz (l.drop (B.btw l)):=by rw[<- B.sz_app,List.take_append_drop]
      have hs2:B.sz (l.drop (B.btw l))=B.sz ((l.drop (B.btw l)).take j)+B.sz ((l.drop (B.btw l)).drop j):=by rw[<- B.sz_app,List.take_append_drop]
      intro x hxq
      rcases List.mem_cons.1 hxq with rfl | hxq
      ·show a+B.sz (l.take (B.btw l))<=_
       omega
      ·have:=ih x hxq
       omega
theorem zPr {s:ByteArray} (p:Nat) (hp:p<(B.lexR s).1.length):0<=jP (B.lexR s).1 s p/\jP (B.lexR s).1 s p<=s.size:=by
 obtain⟨l,a,b,hr⟩:∃l a b,B.lexR s=(l,a,b):=⟨_,_,_,rfl⟩;rw[hr] at hp ⊢;simp only at hp ⊢;unfold jP;obtain⟨x,hx⟩:∃x,l[p]? = some x:=⟨_,List.getElem?_eq_getElem hp⟩;rw[hx];simp only
 rcases B.nG hr with ⟨_,_,L,hL,hl⟩ | ⟨_,rfl⟩
 ·have h1:=zS9 L.length L 0 l (Nat.le_refl _) hl x (List.mem_of_getElem? hx)
  have h2:B.sz L=s.size:=by rw[<- B.zI,hL.txt]
  omega
 ·cases hx
theorem zPs (s:ByteArray) (w:World) (hx:Vx7 w) (hs:s.size<=9223372036854775807) :
  Calls Tryz.prog 5 #[.string s] w (BoP true w):=by
 have HX:=Lib.hid hx;clear hx;obtain⟨M,hM⟩:∃M:Nat,min s.size 2000=M:=⟨_,rfl⟩;have hm1:(if (2000:Int)<(s.size:Int) then (2000:Int) else (s.size:Int))=(M:Int):=by split<;>omega
 have hm2:min (s.size:Int) 2000=(M:Int):=by omega
 have hm3:(M:Int)<=(s.size:Int):=by omega
 have hzs:(s.extract 0 M).size<=2000:=by rw[Lib.size_eq,Lib.extract_data,List.length_take];omega
 go_enter Tryz.func5,Tryz.ntmps5
 go_wp2_with fail;obtain⟨X,hX⟩:∃X,s.extract 0 M=X:=⟨_,rfl⟩;rw[hX] at hzs ⊢;clear hX hm1 hm2 hm3 hM;obtain⟨m,hm⟩:∃m,3*(B.lexR X).1.length+4=m:=⟨_,rfl⟩;have cS:=bU X (by omega) m (by omega) w HX.out;have hsm:=fun t a e h=>zJv (m:=m) (s:=X) (t:=t) (a:=a) (e:=e) zRz eX h
 have hno:=fun a e h=>zJw (m:=m) (s:=X) (a:=a) (e:=e) h zPr
 have hze:=zFy m X;obtain⟨o,at1,e1,hR⟩:∃o a e,srcZ m X=(o,a,e):=⟨_,_,_,rfl⟩;rw[hR] at cS hsm hno hze;clear hm hR
 cases o with
 | none=>
  obtain⟨n1,n2,n3⟩:=hno at1 e1 rfl;have n1:(0:Int)<=at1:=n1;clear hsm hno;refine cS.mono ?_;rintro e w1 ⟨v,rfl,u1,hv⟩;have hv:v = .pointer none:=hv;subst hv;have cW:=uN HX.out u1;clear u1 cS;go_wp2_with fail;refine cW.mono ?_;rintro e w2 ⟨rfl,u2⟩;go_wp2_with fail
  go_ret
  exact gP rfl u2
 | some t=>
  obtain⟨rfl,rfl,h3⟩:=hsm t at1 e1 rfl;clear hno hsm;refine cS.mono ?_;rintro e w1 ⟨v,rfl,u1,hv⟩;have hv:NewT w w1 v t:=hv;have hok:okSO (some t):=fun t' ht'=>by
   have ht':=Option.some.inj ht';subst ht';exact zPq zRz eX (zJy h3)
  have cP:=zFx (some t) (by have:szO (some t)<=8192:=hze;omega) hok w1 w1 v (HX.out.up u1).nx hv.has (Up.refl _);rw[h3] at cP;have U1:=Lib.hid u1;clear u1 cS hv hok h3;go_wp2_with fail;refine cP.mono ?_;rintro e w2 ⟨rfl,u2⟩;have cW:=uN HX.out (U1.out.trans u2);clear u2 cP;go_wp2_with fail;refine cW.mono ?_;rintro e w3 ⟨rfl,u3⟩;go_wp2_with fail
  go_ret
  exact gP rfl u3
end Go.Proofs.YtgeghilbikljcaaGreatDoor
