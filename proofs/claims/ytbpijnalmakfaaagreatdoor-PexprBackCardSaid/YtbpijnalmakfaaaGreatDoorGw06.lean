/-
  Plain facts, without the program: a text out of its runes. 'T l': the runes l as UTF-8; 'sz l': its bytes; 'ok r': r is a rune that may stand in a text.
-/
import Derived.Test.YtbpijnalmakfaaaGreatDoorGw05
namespace Go.Proofs.YtbpijnalmakfaaaGreatDoor.B
open Go.Lib
theorem bad_T (a:List Nat) {r:Nat} (h:ok r) (b:List Nat):bad (T (a++r::b)) (sz a)=false:=by
 rw[fT,zZ7 a h b];intro e;injection e with e1 e2;subst e1;exact absurd e2 (by decide)
theorem yW1 (b:List Nat):∀a:List Nat,okl b→rns (T (a++b)) (sz a)=b∧vls (T (a++b)) (sz a)=true:=by
 induction b with
 | nil=>
  intro a _;rw[List.append_nil,gQ (by rw[qO];omega),tA (by rw[qO];omega)];exact⟨rfl,rfl⟩
 | cons r t ih=>
  intro a h;obtain⟨h1,h2⟩:=kY.1 h;have hw:=mU r;have hlt:sz a<(T (a++r::t)).size:=by rw[qO,sz_app,zO];omega
  have e:a++r::t=(a++[r])++t:=by simp
  have es:sz a+wd r=sz (a++[r]):=by rw[sz_app,zO,yY];omega
  have k:=ih (a++[r]) h2;rw[←e,←es] at k;rw[wL hlt,tD hlt (bad_T a h1 t),zZ7 a h1 t,k.1,k.2];exact⟨rfl,rfl⟩
theorem zIn {l:List Nat} (h:okl l):rns (T l) 0=l:=(yW1 l [] h).1
theorem zIo {a b:List Nat} (ha:okl a) (hb:okl b) (h:T a=T b):a=b:=by
 rw[←zIn ha,←zIn hb,h]
theorem xK {l:List Nat} (h:∀x∈l,x<128):okl l:=fun r hr=>.inl (by have:=h r hr;omega)
end Go.Proofs.YtbpijnalmakfaaaGreatDoor.B
namespace Go.Proofs.YtbpijnalmakfaaaGreatDoor.B
open Go.RowKit
theorem Ss.below {w w':World} {B:Nat} {v:Value} {l:List ByteArray} (h:Ss w B v l) (hb:Below B w w'):Ss w' B v l:=by
 obtain⟨A,c,hv,hlc,hc⟩:=h;refine⟨A,c,hv,hlc,fun j u hu=>?_⟩;obtain⟨b,o,hA,hlt,hcell⟩:=hc j u hu;exact⟨b,o,hA,hlt,(hb.cell hlt).trans hcell⟩
theorem Tks.below {w w':World} {B:Nat} {v:Value} {l:List (Tok×Nat)} (h:Tks w B v l) (hb:Below B w w'):Tks w' B v l:=by
 obtain⟨A,c,hv,hc⟩:=h;refine⟨A,c,hv,fun j t ht=>?_⟩;obtain⟨ad,hA,hlt,hcell⟩:=hc j t ht;exact⟨ad,hA,hlt,fun i u hu=>(hb.cell (by rw[vO];exact hlt)).trans (hcell i u hu)⟩
theorem Sl.below {w w':World} {B:Nat} {v:Value} {l:List Nat} (h:Sl w B v l) (hb:Below B w w'):Sl w' B v l:=by
 obtain⟨A,c,hv,hlc,hc⟩:=h;refine⟨A,c,hv,hlc,fun j u hu=>?_⟩;obtain⟨ad,hA,hlt,hcell⟩:=hc j u hu;exact⟨ad,hA,hlt,(hb.cell (by rw[vO];exact hlt)).trans hcell⟩
end Go.Proofs.YtbpijnalmakfaaaGreatDoor.B
namespace Go.Proofs.YtbpijnalmakfaaaGreatDoor.B
open Go.Lib
theorem zCz {f:Nat→Bool} {l:List Nat} (h:cnt f l<l.length) (y:List Nat):cnt f (l++y)=cnt f l:=by
 induction l with
 | nil=>simp at h
 | cons r t ih=>
  cases hr:f r
  ·simp[cnt,hr]
  ·simp[cnt,hr] at h ⊢
   exact ih h
theorem zXn {f:Nat→Bool} {l:List Nat} (h:∀r∈l,f r=true) (y:List Nat):cnt f (l++y)=l.length+cnt f y:=by
 induction l with
 | nil=>simp
 | cons r t ih=>
  have hr:=h r (by simp);have:=ih (fun x hx=>h x (by simp[hx]))
  simp[cnt,hr,this]
  omega
theorem zIp {f:Nat→Bool} {l:List Nat} (h:cnt f l=l.length):∀r∈l,f r=true:=by
 have:=mW (f:=f) l;rw[h,List.take_length] at this;exact this
theorem iR {d:List Nat} (h1:cnt blk d=0) (h2:cmt d=0):btw d=0:=by
 rw[nY (by rw[h1];exact h2),h1]
theorem zB0 {x l y:List Nat} (h:x.isPrefixOf l=true):x.isPrefixOf (l++y)=true:=by
 rw[List.isPrefixOf_iff_prefix] at h ⊢;exact h.trans (List.prefix_append _ _)
theorem yW2 {d:Int} {last:Nat} {l:List Nat} {k:Nat} (h:cm d last l=some k) (y:List Nat):cm d last (l++y)=some k:=by
 induction l generalizing d last k with
 | nil=>cases h
 | cons r t ih=>
  have key:∀{d':Int} {last':Nat},(cm d' last' t).map (· + 1)=some k→(cm d' last' (t++y)).map (· + 1)=some k:=by
   intro d' last' h;obtain⟨j,hj,rfl⟩:=Option.map_eq_some_iff.1 h;rw[ih hj]
   rfl
  rw[List.cons_append];unfold cm at h ⊢
  by_cases c1:last=40∧r=42
  ·rw[if_pos c1] at h ⊢
   by_cases c2:d+1=0
   ·rw[if_pos c2] at h ⊢;exact h
   ·rw[if_neg c2] at h ⊢;exact key h
  ·rw[if_neg c1] at h ⊢
   by_cases c3:last=42∧r=41
   ·rw[if_pos c3] at h ⊢
    by_cases c2:d-1=0
    ·rw[if_pos c2] at h ⊢;exact h
    ·rw[if_neg c2] at h ⊢;exact key h
   ·rw[if_neg c3] at h ⊢;exact key h
theorem zIq {l:List Nat} (h:cmt l≠0):opens l=true∧cm 0 32 l=some (cmt l):=by
 unfold cmt at h ⊢
 cases ho:opens l
 ·rw[ho] at h;exact absurd rfl h
 ·refine⟨rfl,?_⟩
  rw[if_pos rfl];rw[ho,if_pos rfl] at h
  cases hc:cm 0 32 l with
  | none=>rw[hc] at h;exact absurd rfl h
  | some k=>rfl
theorem zB3 {l:List Nat} (h:cmt l≠0) (y:List Nat):cmt (l++y)=cmt l:=by
 obtain⟨h1,h2⟩:=zIq h;have h3:opens (l++y)=true:=zB0 h1;have h4:=yW2 h2 y
 conv=>lhs;unfold cmt
 rw[h3,if_pos rfl,h4]
 rfl
theorem sK:∀(n:Nat) (z y:List Nat),z.length≤n→btw z=z.length→btw (z++y)=z.length+btw y
 | n,z,y,hn,hz=>by
  by_cases hc:cnt blk z=z.length
  ·have hall:=zIp hc
   have h1:cnt blk (z++y)=z.length+cnt blk y:=zXn hall y;have h2:(z++y).drop (cnt blk (z++y))=y.drop (cnt blk y):=by
    rw[h1,←List.drop_drop,List.drop_left]
   by_cases h:cmt (y.drop (cnt blk y))=0
   ·rw[nY h,nY (by rw[h2];exact h),h1]
   ·rw[fW h,fW (by rw[h2];exact h),h2,h1]
    have h3:(z++y).drop (z.length+cnt blk y+cmt (y.drop (cnt blk y)))=y.drop (cnt blk y+cmt (y.drop (cnt blk y))):=by
     rw[Nat.add_assoc,←List.drop_drop,List.drop_left]
    rw[h3];omega
  ·have hl:=kZ blk z
   have hlt:cnt blk z<z.length:=by omega
   have h1:=zCz hlt y;have h2:(z++y).drop (cnt blk z)=z.drop (cnt blk z)++y:=List.drop_append_of_le_length hl
   by_cases h:cmt (z.drop (cnt blk z))=0
   ·rw[nY h] at hz
    omega
   ·have h3:=iD (z.drop (cnt blk z))
    simp only[List.length_drop] at h3;have h4:=fW h;have h5:=zB3 h y;have h6:(z++y).drop (cnt blk z+cmt (z.drop (cnt blk z)))=z.drop (cnt blk z+cmt (z.drop (cnt blk z)))++y:=List.drop_append_of_le_length (by omega);have h7:btw (z++y)=cnt blk z+cmt (z.drop (cnt blk z))+btw (z.drop (cnt blk z+cmt (z.drop (cnt blk z)))++y):=by
     rw[fW (by rw[h1,h2,h5];exact h),h1,h2,h5,h6]
    have h8:btw (z.drop (cnt blk z+cmt (z.drop (cnt blk z))))=(z.drop (cnt blk z+cmt (z.drop (cnt blk z)))).length:=by
     rw[List.length_drop];omega
    cases n with
    | zero=>omega
    | succ n=>
     have ih:=sK n (z.drop (cnt blk z+cmt (z.drop (cnt blk z)))) y (by rw[List.length_drop];omega) h8;rw[h7,ih,List.length_drop];omega
theorem tL {b:Bool} {d:List Nat} {t:Tok} {n:Nat} (h:digT b d=some (t,n)):t.k=2∧t.x=numb t.n∧-1073741824≤t.n∧t.n≤1073741824:=by
 unfold digT at h
 split at h
 ·cases h
 split at h
 ·cases h
 split at h
 ·cases h
 ·rename_i h1 h2 h3
  cases b
  ·simp at h
   obtain⟨rfl,_⟩:=h;exact⟨rfl,rfl,by dsimp only;omega,by dsimp only;omega⟩
  ·simp at h
   obtain⟨rfl,_⟩:=h;exact⟨rfl,rfl,by dsimp only;omega,by dsimp only;omega⟩
theorem sL (v:Int):∀r∈numb v,33≤r∧r≤126:=by
 intro r hr;unfold numb at hr
 split at hr
 ·rcases List.mem_cons.1 hr with rfl | hr
  ·omega
  ·have:=jE _ r hr;omega
 ·have:=jE _ r hr;omega
theorem pH {r:Nat} (h:33≤r∧r≤126):rdb (r:Int)=true:=by
 unfold rdb;rw[Bool.not_eq_true',decide_eq_false_iff_not];omega
def Made (t:Tok):Prop:=∃d n,tokT d=some (t,n)
end Go.Proofs.YtbpijnalmakfaaaGreatDoor.B
namespace Go.Proofs.YtbpijnalmakfaaaGreatDoor.B
open Go.RowKit
theorem pZ {s x:ByteArray} (h:(splt s)[0]? = some x):hd s=x:=by
 unfold hd
 cases hl:splt s with
 | nil=>rw[hl] at h;simp at h
 | cons a b=>rw[hl] at h;simpa using h
end Go.Proofs.YtbpijnalmakfaaaGreatDoor.B
