/-
  Trees in memory: what lies there reads as a tree.
-/
import Derived.Test.YtbpijnalmakfaaaGreatDoorGw14
namespace Go.Proofs.YtbpijnalmakfaaaGreatDoor
open Go.RowKit
theorem InO.below {w w':World} {S:Nat→Prop} {B:Nat} {v:Value} {t:Option Tr} (h:InO w S v t) (hS:Bel S B) (hb:Below B w w'):InO w' S v t:=h.keep (fun _ h=>h) fun _ hp=>hb.block _ (hS _ hp)
theorem xV {x y:Int} (h:x=y):(x==y)=true∧(x != y)=false:=by subst h;simp
theorem zWp {x y:Int} (h:x≠y):(x==y)=false∧(x != y)=true:=by simp[h]
def zQ9 (b:Bool) (w:World) (e:Ending) (w':World):Prop:=e = .returned (.bool b)∧∃q,w'=w.drewN q
theorem vE {a b:Bool} {w w':World} (h:b=a) (hw:∃q,w'=w.drewN q):zQ9 b w (.returned (.bool a)) w':=⟨by rw[h],hw⟩
theorem zTk {b:Bool} {P:Prop} (h:b=true↔P) (hp:P):b=true:=h.2 hp
theorem Fr.app_inj (a:Fr) {b c:Fr} (h:a.app b=a.app c):b=c:=by
 induction a with
 | nil=>exact h
 | cons x k r _ ih=>simp only[Fr.app,Fr.cons.injEq] at h;exact ih h.2.2
theorem zWq {x y:Nod} (h1:x.k=y.k) (h2:x.n=y.n) (h3:x.a=y.a) (h4:x.m=y.m):x=y:=by
 cases x;cases y;simp only at h1 h2 h3 h4;subst h1 h2 h3 h4;rfl
theorem Kid.at {w:World} {Sq:Nat→Prop} {A:Option Addr} {f:Fr} {i:Nat} {t:Tr} (h:Kid w Sq A f 0) (hi:f.get i=some t):∃kb ko v,A=some ⟨kb,ko,none⟩∧Sq kb∧w.cell? ⟨kb,ko+i,none⟩=some v∧InT w Sq v t:=by
 have hlt:=Fr.get_lt hi;obtain⟨kb,ko,hA,h2,h3⟩:=h (by omega);obtain⟨v,hv,hn⟩:=h3.at hi;exact⟨kb,ko,v,hA,h2,hv,hn⟩
theorem PtF.one {w:World} {S:Nat→Prop}:∀{vs:List Value} {f:Fr},PtF w S vs f→∀u∈vs,u.oneCell'=true
 | [],.nil,_,u,hu=>by cases hu
 | [],.cons _ _ _,h,_,_=>h.elim
 | _::_,.nil,h,_,_=>h.elim
 | v::vs,.cons x ks rs,h,u,hu=>by
  rcases List.mem_cons.1 hu with rfl | hu
  ·obtain⟨q,p,rfl⟩:=h.1.ptr
   rfl
  ·exact PtF.one (vs:=vs) (f:=rs) h.2 u hu
theorem OwnT.nil (w:World) (base:Nat) (e:TypeId) (S:Nat→Prop):OwnT w base e (.slice none 0 0) S .nil:=⟨[],World.ownsRow_nil _ _ _ _,trivial⟩
theorem Sp.tail {w:World} {C:Nat} {b o c n:Nat} {i:Int} {p:List Int} (h:∀(j:Nat) (u:Int),(i::p)[j]? = some u→∃b' o',some (⟨b,o,none⟩:Addr)=some ⟨b',o',none⟩∧b'<C∧w.cell? ⟨b',o'+j,none⟩=some (.int .i64 u)) (hc:p.length≤c) (ho:0<p.length→n=o+1):Sp w C (.slice (some ⟨b,n,none⟩) p.length c) p:=by
 refine⟨_,c,rfl,hc,fun j u hu=>?_⟩;obtain⟨b',o',he,hlt,hcell⟩:=h (j+1) u hu;injection he with he;injection he with h1 h2;subst h1 h2;have hn:=ho (by have:=(List.getElem?_eq_some_iff.1 hu).1;omega);refine⟨b,n,rfl,hlt,?_⟩;rw[hn,show o+1+j=o+(j+1) by omega];exact hcell
theorem OwnC.nil (w:World) (H:Nat):OwnC w H (.slice none 0 0) []:=⟨[],World.ownsRow_nil _ _ _ _,trivial⟩
theorem OwnC.below {w w':World} {H:Nat} {v:Value} {cs:List Cel} (h:OwnC w H v cs) (hb:Below w.heap.size w w'):OwnC w' H v cs:=by
 obtain⟨vs,ho,hf⟩:=h;have hs:=hb.size;exact⟨vs,yC ho hb,hf.keep (by rintro q ⟨a,b,c⟩;exact⟨a,by omega,c⟩) fun b hb'=>hb.block b hb'.2.1⟩
theorem Gg.kept {w w':World} {gb mb k k':Nat} (h:Gg w gb mb k) (hne:mb≠gb) (hg:w.grownBy w' (some gb)) (h':w'.heap[gb]? = some (.cells #[.int .i64 (k':Int),.map (some mb)] 203 (0,0))):Gg w' gb mb k':=
 ⟨h',(hg.block mb (qC h.2) (fun e=>hne (by injection e))).trans h.2⟩
theorem PtF.at {w:World} {S:Nat→Prop}:∀{vs:List Value} {f:Fr} {m:Nat} {t:Tr},PtF w S vs f→f.get m=some t→∃v,vs[m]? = some v∧InT w S v t
 | [],.nil,_,_,_,h=>by cases h
 | [],.cons _ _ _,_,_,h,_=>h.elim
 | _::_,.nil,_,_,h,_=>h.elim
 | v::_,.cons _ _ _,0,_,h,hg=>by injection hg with hg;subst hg;exact⟨v,rfl,h.1⟩
 | _::vs,.cons _ _ rs,m+1,_,h,hg=>PtF.at (vs:=vs) (f:=rs) (m:=m) h.2 hg
end Go.Proofs.YtbpijnalmakfaaaGreatDoor
