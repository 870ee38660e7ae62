/-
  Plain facts, without the program: what is shown is lexed as it was, but for its places.
-/
import Derived.Test.YtgeghilbikljcaaGreatDoorGj05
import Derived.IntWalk
import Derived.Laws.Cover4
namespace Go.Proofs.YtgeghilbikljcaaGreatDoor.B
open Go.Lib
theorem zZv (v:Int):∀r∈numb v,33<=r/\r<=126:=by
 intro r hr;unfold numb at hr
 split at hr
 ·rcases List.mem_cons.1 hr with rfl | hr
  ·omega
  ·have:=xO _ r hr;omega
 ·have:=xO _ r hr;omega
theorem zS2 (v:Int) (h : -1073741824<=v/\v<=1073741824):sz (numb v)<=21:=by
 have h1:=itoa_length_le v (by omega) (by omega);rw[sW (tC v)];unfold numb dgs;unfold itoa at h1
 split
 ·rename_i hn
  rw[if_pos hn] at h1
  simpa using h1
 ·rename_i hn
  rw[if_neg hn] at h1
  simpa using h1
theorem zVg {d:List Nat} {t:Tok} {n:Nat} (h:tokT d=some (t,n)) :
  t.x=d.take n\/(t.x=numb t.n/\-1073741824<=t.n/\t.n<=1073741824):=by
 cases d with
 | nil=>cases h
 | cons r u=>
  have e2:tokT (r::u)=if cls r=1 then nameT (r::u) else if cls r=2\/r=126 then numT (r::u) else if opens (r::u) then none else signT (r::u):=rfl
  rw[e2] at h
  split at h
  ·left
   unfold nameT at h
   split at h
   ·injection h with h
    injection h with h1 h2;rw[<- h1,<- h2]
   ·split at h
    ·injection h with h
     injection h with h1 h2;rw[<- h1,<- h2]
    ·cases h
  ·split at h
   ·right
    unfold numT at h
    split at h
    ·exact(oN h).2
    ·exact(oN h).2
   ·split at h
    ·cases h
    ·left
     unfold signT at h;obtain⟨x,hx,he⟩:=Option.map_eq_some_iff.1 h;have hp:=(iR hx).2;injection he with h1 h2;rw[<- h1,<- h2];exact(List.prefix_iff_eq_take.1 hp)
theorem zVh {r:Nat} (h:33<=r/\r<=126):rdb (r:Int)=true:=by
 unfold rdb;rw[Bool.not_eq_true',decide_eq_false_iff_not];omega
theorem zS3 {d:List Nat} {t:Tok} {n:Nat} (h:tokT d=some (t,n)) (ho:okl d) (hr:∀r∈d,rdb (r:Int)=true) :
  okl t.x/\(∀r∈t.x,rdb (r:Int)=true)/\sz t.x<=sz (d.take n)+21:=by
 rcases zVg h with e | ⟨e,hv⟩
 ·rw[e]
  exact⟨zT1 ho n,fun r hr'=>hr r (List.mem_of_mem_take hr'),by omega⟩
 ·rw[e]
  refine⟨iQ (tC _),fun r hr'=>zVh (zZv _ r hr'),?_⟩;have:=zS2 t.n hv;omega
def Made (t:Tok):Prop:=∃d n,tokT d=some (t,n)
def tot:List (List Nat)->Nat
 | []=>0
 | x::r=>sz x+1+tot r
theorem zXv:∀(n:Nat) (l:List Nat) (a:Nat) (toks:List (Tok×Nat)),l.length<=n->okl l->(∀r∈l,rdb (r:Int)=true)->lexL l a = .inl toks->
  tot (toks.map (·.1.x))<=sz l+22*toks.length/\∀x∈toks,Made x.1/\okl x.1.x/\∀r∈x.1.x,rdb (r:Int)=true
 | n,l,a,toks,hn,ho,hr,h=>by
  by_cases he:l.drop (btw l)=[]
  ·rw[jI he] at h
   injection h with h;subst h;exact⟨Nat.zero_le _,fun x hx=>by cases hx⟩
  ·cases ht:tokT (l.drop (btw l)) with
   | none=>rw[jJ he ht] at h;cases h
   | some tn=>
    obtain⟨t,j⟩:=tn;have hj:=kP ht;have hj2:=hj.2;simp only[List.length_drop] at hj2;rw[kD he ht] at h;have hod:=sU ho (btw l);have hrd:∀r∈l.drop (btw l),rdb (r:Int)=true:=fun r h=>hr r (List.mem_of_mem_drop h)
    obtain⟨k1,k2,k3⟩:=zS3 ht hod hrd
    cases hx:lexL ((l.drop (btw l)).drop j) (a+sz (l.take (btw l))+sz ((l.drop (btw l)).take j)) with
    | inr r=>rw[hx] at h;cases h
    | inl q=>
     rw[hx] at h;simp only[Sum.inl.injEq] at h;subst h
     cases n with
     | zero=>omega
     | succ n=>
      obtain⟨i1,i2⟩:=zXv n _ _ _ (by simp only[List.length_drop];omega) (sU hod j) (fun r h=>hrd r (List.mem_of_mem_drop h)) hx;have hs1:sz l=sz (l.take (btw l))+sz (l.drop (btw l)):=by rw[<- sz_app,List.take_append_drop]
      have hs2:sz (l.drop (btw l))=sz ((l.drop (btw l)).take j)+sz ((l.drop (btw l)).drop j):=by rw[<- sz_app,List.take_append_drop]
      refine⟨?_,?_⟩
      ·show sz t.x+1+tot (q.map (·.1.x))<=_
       rw[List.length_cons];omega
      ·intro x hx'
       rcases List.mem_cons.1 hx' with rfl | hx'
       ·exact⟨⟨_,_,ht⟩,k1,k2⟩
       ·exact i2 x hx'
end Go.Proofs.YtgeghilbikljcaaGreatDoor.B
namespace Go.Proofs.YtgeghilbikljcaaGreatDoor.B
open Go.RowKit
def RS:List (List Nat):=[[40],[41],[123],[125],[44],[58],[58,62],[61],[61,62],[45,62],[42],[43],[45],[60],[124],[35,49],[35,50]]
def rs (k:Nat):List Nat:=RS.getD k []
end Go.Proofs.YtgeghilbikljcaaGreatDoor.B
