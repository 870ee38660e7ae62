/-
  Plain facts, without the program: what cells are a tree, and which; a tree's cells are its; an opened tree has as many nodes as there are cells.
-/
import Derived.Test.YtbpijnalmakfaaaGreatDoorGw14
namespace Go.Proofs.YtbpijnalmakfaaaGreatDoor
theorem uJ (l:List Tr) (t:Tr):rowOf (l++[t])=(rowOf l).app (.cons t.1 t.2 .nil):=by
 induction l with
 | nil=>rfl
 | cons u r ih=>simp only[List.cons_append,rowOf,Fr.app,ih]
theorem pT (l:List Tr):(rowOf l).len=l.length:=by
 induction l with
 | nil=>rfl
 | cons t r ih=>simp only[rowOf,Fr.len,ih,List.length_cons]
def okK (cs:List Cel):Prop:=∀(i:Nat) (c:Cel),cs[i]? = some c→∀x∈c.ks,0≤x∧x<(i:Int)
def zJ (cs:List Cel):List Int:=cs.flatMap (·.ks)
def okC (cs:List Cel):Prop:=∀i:Nat,i+1<cs.length→(zJ cs).count (i:Int)=1
theorem yVu {cs:List Cel} {i:Nat} {c:Cel} (h:cs[i]? = some c):cel cs i=c:=by unfold cel;rw[List.getD_eq_getElem?_getD,h];rfl
theorem jO {cs:List Cel} {i:Nat} (h:i<cs.length):cs[i]? = some (cel cs i):=by
 rw[List.getElem?_eq_getElem h,yVu (List.getElem?_eq_getElem h)]
theorem zWr {cs:List Cel} (h:okK cs):∀f g i,i<f→i<g→i<cs.length→gr cs f i=gr cs g i
 | 0,_,i,h1,_,_=>absurd h1 (Nat.not_lt_zero _)
 | _+1,0,i,_,h2,_=>absurd h2 (Nat.not_lt_zero _)
 | f+1,g+1,i,h1,h2,hi=>by
  unfold gr
  congr 2
  refine List.map_congr_left fun x hx=>?_
  have hx':=h i _ (jO hi) x hx;exact zWr h f g x.toNat (by omega) (by omega) (by omega)
def sumTo (f:Nat→Int):Nat→Int
 | 0=>0
 | n+1=>sumTo f n+f n
theorem nP {f g:Nat→Int}:∀n,(∀i,i<n→f i=g i)→sumTo f n=sumTo g n
 | 0,_=>rfl
 | n+1,h=>by unfold sumTo;rw[nP n fun i hi=>h i (by omega),h n (by omega)]
theorem zYe (f g:Nat→Int):∀n,sumTo (fun i=>f i+g i) n=sumTo f n+sumTo g n
 | 0=>rfl
 | n+1=>by unfold sumTo;rw[zYe f g n];omega
theorem zYf (f g:Nat→Int):∀n,sumTo (fun i=>f i-g i) n=sumTo f n-sumTo g n
 | 0=>rfl
 | n+1=>by unfold sumTo;rw[zYf f g n];omega
theorem mL {f:Nat→Int}:∀n,(∀i,i<n→f i=0)→sumTo f n=0
 | 0,_=>rfl
 | n+1,h=>by unfold sumTo;rw[mL n fun i hi=>h i (by omega),h n (by omega)];rfl
theorem zYg {s:Nat→Int} {x:Nat}:∀n,x<n→sumTo (fun i=>if i=x then s i else 0) n=s x
 | 0,h=>absurd h (Nat.not_lt_zero _)
 | n+1,h=>by
  unfold sumTo
  by_cases e:n=x
  ·subst e
   rw[mL n fun i hi=>if_neg (by omega),if_pos rfl];omega
  ·rw[zYg n (by omega),if_neg e]
   omega
def sumL (s:Nat→Int):List Int→Int
 | []=>0
 | x::r=>s x.toNat+sumL s r
theorem zYh (s:Nat→Int) (n:Nat):∀l:List Int,(∀x∈l,0≤x∧x<(n:Int))→sumTo (fun i=>s i*((l.count (i:Int):Nat):Int)) n=sumL s l
 | [],_=>mL n fun i _=>by simp
 | x::r,h=>by
  obtain⟨h1,h2⟩:=h x (by simp);have ih:=zYh s n r fun y hy=>h y (by simp[hy])
  have e1:=zYg (s:=s) (x:=x.toNat) n (by omega);unfold sumL;rw[←ih,←e1,←zYe];refine nP n fun i _=>?_
  rw[List.count_cons]
  by_cases e:i=x.toNat
  ·have e2:(x==(i:Int))=true:=by rw[beq_iff_eq];omega
   rw[if_pos e,e2,if_pos rfl,Int.natCast_add,Int.mul_add]
   simp
   omega
  ·have e2:(x==(i:Int))=false:=by rw[beq_eq_false_iff_ne];omega
   rw[if_neg e,e2]
   simp
theorem zTl (cs:List Cel) (f:Nat):∀l:List Int,((rowOf (l.map fun x=>gr cs f x.toNat)).sz:Int)=sumL (fun i=>(szT (gr cs f i):Int)) l
 | []=>rfl
 | x::r=>by
  have ih:=zTl cs f r;unfold sumL;rw[←ih];simp only[List.map_cons,rowOf,Fr.sz,szT];omega
theorem uK {s t:Nat→Int}:∀l:List Int,(∀x∈l,s x.toNat=t x.toNat)→sumL s l=sumL t l
 | [],_=>rfl
 | x::r,h=>by unfold sumL;rw[h x (by simp),uK r fun y hy=>h y (by simp[hy])]
theorem xG {cs:List Cel} {i:Nat} {c:Cel} (h:cs[i]? = some c):zJ (cs.take (i+1))=zJ (cs.take i)++c.ks:=by
 unfold zJ;rw[List.take_add_one,h,List.flatMap_append]
 simp
theorem zWs {cs:List Cel} (h:okK cs):∀i,i≤cs.length→∀x∈zJ (cs.take i),0≤x∧x<(i:Int)
 | 0,_,x,hx=>by simp[zJ] at hx
 | i+1,hi,x,hx=>by
  rw[xG (jO (by omega))] at hx
  rcases List.mem_append.1 hx with hx | hx
  ·have:=zWs h i (by omega) x hx;omega
  ·have:=h i _ (jO (by omega)) x hx;omega
theorem zTm {cs:List Cel} (h:okK cs):∀i,i≤cs.length→sumTo (fun r=>(szT (gr cs cs.length r):Int)*(1-(((zJ (cs.take i)).count (r:Int):Nat):Int))) i=(i:Int)
 | 0,_=>rfl
 | i+1,hi=>by
  have ih:=zTm h i (by omega);have hc:=jO (cs:=cs) (i:=i) (by omega);have hk:=h i _ hc;have hlt:=zWs h i (by omega);unfold sumTo;have e0:(zJ (cs.take (i+1))).count (i:Int)=0:=by
   rw[List.count_eq_zero];intro hm;rw[xG hc] at hm
   rcases List.mem_append.1 hm with hm | hm
   ·have:=hlt _ hm;omega
   ·have:=hk _ hm;omega
  have e1:(szT (gr cs cs.length i):Int)=1+sumL (fun j=>(szT (gr cs cs.length j):Int)) (cel cs i).ks:=by
   obtain⟨n,hn⟩:∃n,cs.length=n+1:=⟨cs.length-1,by omega⟩;have e2:gr cs cs.length i=((cel cs i).x,rowOf ((cel cs i).ks.map fun x=>gr cs n x.toNat)):=by rw[hn];rfl
   rw[e2];have e3:=zTl cs n (cel cs i).ks;have e4:sumL (fun j=>(szT (gr cs n j):Int)) (cel cs i).ks=sumL (fun j=>(szT (gr cs cs.length j):Int)) (cel cs i).ks:=by
    refine uK _ fun x hx=>?_
    have:=hk x hx;rw[zWr h n cs.length x.toNat (by omega) (by omega) (by omega)]
   rw[←e4,←e3];simp only[szT];omega
  have e5:sumTo (fun r=>(szT (gr cs cs.length r):Int)*(1-(((zJ (cs.take (i+1))).count (r:Int):Nat):Int))) i=(i:Int)-sumL (fun j=>(szT (gr cs cs.length j):Int)) (cel cs i).ks:=by
   rw[←ih,←zYh (fun j=>(szT (gr cs cs.length j):Int)) i (cel cs i).ks hk,←zYf];refine nP i fun r _=>?_
   rw[xG hc,List.count_append,←Int.mul_sub]
   congr 1
   omega
  rw[e5,e0,e1]
  simp
  omega
theorem zLx {cs:List Cel} (h:okK cs) (hc:okC cs) (hn:0<cs.length):szT (gr cs cs.length (cs.length-1))=cs.length:=by
 obtain⟨n,hl⟩:∃n,cs.length=n+1:=⟨cs.length-1,by omega⟩;have hs:=zTm h cs.length (Nat.le_refl _);rw[List.take_length] at hs;have e0:(zJ cs).count (n:Int)=0:=by
  rw[List.count_eq_zero];intro hm;have h1:=zWs h cs.length (Nat.le_refl _);rw[List.take_length] at h1;unfold zJ at hm;obtain⟨c,hc',hx⟩:=List.mem_flatMap.1 hm;obtain⟨i,hi,rfl⟩:=List.getElem_of_mem hc';have:=h i _ (List.getElem?_eq_getElem hi) _ hx;omega
 rw[hl] at hs ⊢;unfold sumTo at hs;rw[mL n fun i hi=>by rw[hc i (by omega)];simp,e0] at hs;simp only[Nat.add_sub_cancel]
 simp at hs
 omega
end Go.Proofs.YtbpijnalmakfaaaGreatDoor
namespace Go.Proofs.YtbpijnalmakfaaaGreatDoor
open Go.RowKit
theorem zOy (P:Prop):∃b:Bool,b=true↔P:=by
 by_cases h:P
 ·exact⟨true,⟨fun _=>h,fun _=>rfl⟩⟩
 ·exact⟨false,⟨fun e=>(by cases e),fun hp=>absurd hp h⟩⟩
def Sk (S:Nat→Prop) (H:Nat) (w:World) (v:Value) (q:Nat):Prop:=S q∨(H<q∧q<w.heap.size∧v.ownBlock≠some q)
theorem zTn {w wa w4:World} {H:Nat} {S:Nat→Prop} {e:TypeId} {vk v' u:Value} {new:Fr} {x:Nod} {t:Tr} {ps:List Value} {ob:Obj} (hS:Bel S H)
  (hb:Below H w wa) (hn:Nb wa H x vk) (hp:PtF wa (Sk S H wa vk) ps new) (hv:vk.ownBlock≠some H) (hu:InT wa (Sk S H wa vk) u t)
  (ho:w4.ownsRow (H+1) e 1 v' (new.len+1) (ps++[u])) (hg:(wa.alloc ob).grownBy w4 vk.ownBlock) (hat:v'.ownBlock=vk.ownBlock∨v'.ownBlock=some (wa.heap.size+1)) (hvl:∀g,vk.ownBlock=some g→H+1≤g) :
  OwnT (w4.setCell ⟨H,4,none⟩ v') (H+1) e v' (Sk S H (w4.setCell ⟨H,4,none⟩ v') v') (new.app (.cons t.1 t.2 .nil))∧Nb (w4.setCell ⟨H,4,none⟩ v') H x v'∧Below H w (w4.setCell ⟨H,4,none⟩ v')∧v'.ownBlock≠some H∧(∀g,v'.ownBlock=some g→H+1≤g):=by
 have hasz:(wa.alloc ob).heap.size=wa.heap.size+1:=by simp
 have hsa:wa.heap.size+1≤w4.heap.size:=by have:=hg.size;omega
 have hHa:H<wa.heap.size:=qC hn;have hv'H:∀g,v'.ownBlock=some g→H+1≤g:=by
  intro g hgv
  rcases hat with h | h
  ·exact hvl g (by rw[←h];exact hgv)
  ·rw[h] at hgv;injection hgv with hgv;omega
 have hv'n:v'.ownBlock≠some H:=fun h=>by have:=hv'H H h;omega
 have hal:∀k,k<wa.heap.size→(wa.alloc ob).heap[k]? = wa.heap[k]?:=fun k hk=>((Below.refl wa.heap.size wa).alloc (Nat.le_refl _) ob).block k hk
 have hblk:∀k,k<wa.heap.size→vk.ownBlock≠some k→w4.heap[k]? = wa.heap[k]?:=fun k hk hne=>(hg.block k (by omega) (fun h=>hne h.symm)).trans (hal k hk)
 have hsz5:(w4.setCell ⟨H,4,none⟩ v').heap.size=w4.heap.size:=by simp[World.setCell]
 have hkeep:∀b,Sk S H wa vk b→(w4.setCell ⟨H,4,none⟩ v').heap[b]? = wa.heap[b]?:=by
  intro b hpS;have hne:b≠H:=by
   rcases hpS with h | h
   ·have:=hS _ h;omega
   ·omega
  rw[Below.heap_setCell _ _ _ _ hne];refine hblk _ ?_ ?_
  ·rcases hpS with h | h
   ·have:=hS _ h;omega
   ·exact h.2.1
  ·rcases hpS with h | h
   ·intro he;have:=hvl _ he;have:=hS _ h;omega
   ·exact h.2.2
 have hSk:∀q,Sk S H wa vk q→Sk S H (w4.setCell ⟨H,4,none⟩ v') v' q:=by
  rintro q (h | ⟨h1,h2,h3⟩)
  ·exact .inl h
  ·refine .inr ⟨h1,by rw[hsz5];omega,?_⟩
   rcases hat with h | h
   ·rw[h];exact h3
   ·rw[h];intro he;injection he with he;omega
 refine⟨⟨ps++[u],?_,PtF.snoc (hu.keep hSk hkeep) (hp.keep hSk hkeep)⟩,?_,?_,hv'n,hv'H⟩
 ·rw[Fr.len_app]
  exact zC ho _ _ fun g hg'=>by have:=hv'H g hg';simp only;omega
 ·have h4:Nb w4 H x vk:=(hblk H hHa hv).trans hn
  exact h4.store v'
 ·exact((hb.alloc (by omega) ob).grown hg (by omega) (fun k hk=>by have:=hvl k hk;omega)).setCell (Nat.le_refl _) _
def Sin (S:Nat→Prop) (W w':World) (q:Nat):Prop:=S q∨(W.heap.size≤q∧q<w'.heap.size)
def sU (S:Nat→Prop) (o:Option Tr) (z:Int) (W:World) (e:Ending) (w':World):Prop:=∃v,e = .returned (.tuple #[v,.int .i64 z])∧InO w' (Sin S W w') v o∧Below W.heap.size W w'
theorem yX2 {cs:List Cel} (h:okK cs) {i:Nat} (hi:i<cs.length):gr cs cs.length i=((cel cs i).x,rowOf ((cel cs i).ks.map fun x=>gr cs cs.length x.toNat)):=by
 obtain⟨n,hn⟩:∃n,cs.length=n+1:=⟨cs.length-1,by omega⟩;have e:gr cs cs.length i=((cel cs i).x,rowOf ((cel cs i).ks.map fun x=>gr cs n x.toNat)):=by rw[hn];rfl
 rw[e]
 congr 2
 refine List.map_congr_left fun x hx=>?_
 have hx':=h i _ (jO hi) x hx;exact zWr h n cs.length x.toNat (by omega) (by omega) (by omega)
def No:Nat→Prop:=fun _=>False
theorem zTo {ks:List Int} {k:Nat} {z:Int} (f:Int→Tr) (h:ks[k]? = some z):rowOf ((ks.take (k+1)).map f)=(rowOf ((ks.take k).map f)).app (.cons (f z).1 (f z).2 .nil):=by
 rw[List.take_add_one,h,List.map_append];exact uJ _ _
theorem zFk {B:Nat} {w:World} (h:B≤w.heap.size) (e:TypeId):(w.alloc (.cells #[] e)).ownsRow B e 1 (.slice (some ⟨w.heap.size,0,none⟩) 0 0) 0 []:=
 ⟨rfl,.inr ⟨w.heap.size,0,#[],rfl,h,heap_alloc_new w _,Nat.le_refl _,Nat.zero_le _,rfl,rfl⟩⟩
theorem zYi {w:World} {a:Addr} {v u:Value} (h:w.cell? a=some v):(w.setCell a u).cell? a=some u:=by
 apply World.cell?_setCell_same
 exact h
end Go.Proofs.YtbpijnalmakfaaaGreatDoor
