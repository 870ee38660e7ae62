/-
  DERIVED: THE SHELF's CONTRACTS AT THIS DUMP, IN PLAIN WORDS (tools/lay-plain.mjs out of 'TryzShelf.lean', which tools/lay-shelf.mjs wrote): THE SAME DECLARATIONS UNDER THE SAME NAMES: 'import', 'namespace', 'open', 'def', 'theorem' AND NOTHING ELSE: no command of the shelf's: FOR A HAND-IN. Each laying: the table of numbers ('.._ren') and one theorem, a field a fact of the dump's own or the kernel's comparison; each contract: ONE APPLICATION.
-/
import Derived.Test.YtnjgnbofcbhngaaGreatDoorGs05
namespace Go.Proofs
open Go.Shelf
def Tryz.lays156_ren:Go.Shelf.Ren:=⟨fun | 156=>22 | 165=>45 | 166=>46 | 169=>47 | 240=>84 | 241=>85 | 276=>141 | 277=>142 | n=>n,fun | 31=>45 | 9=>9 | 3=>3 | 4=>4 | 0=>0 | 20=>20 | 72=>78 | 76=>82 | 70=>75 | 37=>76 | 75=>81 | 127=>123 | 164=>163 | 5=>5 | 80=>84 | n=>n,fun | n=>n⟩
theorem Tryz.lays156:Go.Proofs.Lays.n156 Tryz.prog Tryz.lays156_ren:={
 mixed:=by kernel_rfl
 f156:=Tryz.func22.trans (congrArg some (by kernel_rfl))
 f165:=Tryz.func45.trans (congrArg some (by kernel_rfl))
 f166:=Tryz.func46.trans (congrArg some (by kernel_rfl))
 f169:=Tryz.func47.trans (congrArg some (by kernel_rfl))
 f240:=Tryz.func84.trans (congrArg some (by kernel_rfl))
 f241:=Tryz.func85.trans (congrArg some (by kernel_rfl))
 f276:=Tryz.func141.trans (congrArg some (by kernel_rfl))
 f277:=Tryz.func142.trans (congrArg some (by kernel_rfl))
 t0:=Tryz.underlying0
 a0:=Tryz.isAgg0
 z0:=Tryz.sizeOf0
 v0:=Tryz.zeroValue0
 t3:=Tryz.underlying3
 a3:=Tryz.isAgg3
 z3:=Tryz.sizeOf3
 v3:=Tryz.zeroValue3
 t4:=Tryz.underlying4
 a4:=Tryz.isAgg4
 z4:=Tryz.sizeOf4
 v4:=Tryz.zeroValue4
 t9:=Tryz.underlying9
 a9:=Tryz.isAgg9
 z9:=Tryz.sizeOf9
 v9:=Tryz.zeroValue9
 t20:=Tryz.underlying20
 a20:=Tryz.isAgg20
 z20:=Tryz.sizeOf20
 v20:=Tryz.zeroValue20
 t31:=Tryz.underlying45
 a31:=Tryz.isAgg45
 z31:=Tryz.sizeOf45
 v31:=Tryz.zeroValue45
 t37:=Tryz.underlying76
 a37:=Tryz.isAgg76
 z37:=Tryz.sizeOf76
 v37:=Tryz.zeroValue76
 t70:=Tryz.underlying75
 a70:=Tryz.isAgg75
 z70:=Tryz.sizeOf75
 v70:=Tryz.zeroValue75
 t72:=Tryz.underlying78
 a72:=Tryz.isAgg78
 z72:=Tryz.sizeOf78
 v72:=Tryz.zeroValue78
 t75:=Tryz.underlying81
 a75:=Tryz.isAgg81
 z75:=Tryz.sizeOf81
 v75:=Tryz.zeroValue81
 t76:=Tryz.underlying82
 a76:=Tryz.isAgg82
 z76:=Tryz.sizeOf82
 v76:=Tryz.zeroValue82
 t127:=Tryz.underlying123
 a127:=Tryz.isAgg123
 z127:=Tryz.sizeOf123
 v127:=Tryz.zeroValue123
 t164:=Tryz.underlying163
 a164:=Tryz.isAgg163
 z164:=Tryz.sizeOf163
 v164:=Tryz.zeroValue163}
theorem Tryz.Builder_Extra_156:Builder.Extra Tryz.prog Tryz.lays156_ren:={
 sizeBuilder:=by kernel_rfl
 liesBuilder:=by kernel_rfl
 t5:=Tryz.underlying5
 a5:=Tryz.isAgg5
 z5:=Tryz.sizeOf5
 v5:=Tryz.zeroValue5
 infoByte:=by kernel_rfl
 cellsByte:=by kernel_rfl
 sizeByte:=by kernel_rfl
 neB5:=by decide}
open Go.RowKit in
theorem Tryz.strings_Join_none (a:Option Addr) (c:Nat) (sep:ByteArray) (w:World) :
  Calls Tryz.prog 22 #[.slice a 0 c,.string sep] w fun e w'=>e = .returned (.string ⟨#[]⟩)∧w'=w:=Any.strings_Join_none Tryz.lays156 Tryz.Builder_Extra_156 a c sep w
open Go.RowKit in
theorem Tryz.strings_Join (bk o c:Nat) (xs:List ByteArray) (sep:ByteArray) (w:World) (hcells:∀(j:Nat) x,xs[j]? = some x→w.cell? ⟨bk,o+j,none⟩=some (.string x)) (hbk:bk<w.heap.size) (hN:xs.length≤140737488355328) (hcap:xs.length≤c) (hlen:(Lib.join (xs.map (·.data.toList)) sep.data.toList).length≤140737488355328) :
  Calls Tryz.prog 22 #[.slice (some ⟨bk,o,none⟩) xs.length c,.string sep] w fun e w'=>e = .returned (.string ⟨(Lib.join (xs.map (·.data.toList)) sep.data.toList).toArray⟩)∧Below w.heap.size w w':=Any.strings_Join Tryz.lays156 Tryz.Builder_Extra_156 bk o c xs sep w hcells hbk hN hcap hlen
end Go.Proofs
namespace Go.Proofs.YtnjgnbofcbhngaaGreatDoor.B
open Go.Lib
def Bl (y:List Nat):Prop:=y=[]∨∃u,y=32::u
theorem uN {f:Nat→Bool} (hf:f 32=false) {y:List Nat} (h:Bl y):cnt f y=0:=by
 rcases h with rfl | ⟨u,rfl⟩
 ·rfl
 ·simp[cnt,hf]
theorem lng32:lng 32=false:=by decide
theorem inr32:inr 32=false:=by decide
theorem dig32:dig 32=false:=by decide
theorem zYo {x:List Nat} (hx:32∉x) (d:List Nat) {y:List Nat} (h:Bl y):x.isPrefixOf (d++y)=x.isPrefixOf d:=by
 rcases h with rfl | ⟨u,rfl⟩
 ·rw[List.append_nil]
 ·rw[Bool.eq_iff_iff,List.isPrefixOf_iff_prefix,List.isPrefixOf_iff_prefix]
  constructor
  ·intro hp
   by_cases hl:x.length≤d.length
   ·exact List.prefix_of_prefix_length_le hp (List.prefix_append _ _) hl
   ·exfalso
    apply hx
    obtain⟨t,ht⟩:=hp;have h1:(d++32::u)[d.length]? = some 32:=by simp
    rw[←ht,List.getElem?_append_left (by omega)] at h1;exact List.mem_of_getElem? h1
  ·intro hp
   exact hp.trans (List.prefix_append _ _)
theorem zLn:∀x∈SIGNS,32∉x:=by decide
theorem zWx (d:List Nat) {y:List Nat} (h:Bl y):opens (d++y)=opens d:=zYo (x:=[40,42]) (by decide) d h
theorem uO {α:Type} {f g:α→Bool} {l:List α} (h:∀x∈l,f x=g x):l.find? f=l.find? g:=by
 induction l with
 | nil=>rfl
 | cons a t ih=>
  have ha:=h a (by simp);have:=ih fun x hx=>h x (by simp[hx])
  simp only[List.find?_cons,ha,this]
theorem zTo (d:List Nat) {y:List Nat} (h:Bl y):signT (d++y)=signT d:=by
 unfold signT;rw[uO fun x hx=>zYo (zLn x hx) d h]
theorem uP {d:List Nat} (h:opens d=false):cmt d=0:=by unfold cmt;rw[h];rfl
theorem zOh {r:Nat} (h:cls r≠3):blk r=false:=by unfold blk;rw[decide_eq_false_iff_not];exact h
theorem zOi (x:List Nat) (r:Nat):∀a,val a (x++[r])=10*val a x+(r-48):=by
 induction x with
 | nil=>intro a;rfl
 | cons y t ih=>intro a;exact ih _
theorem zOj (u:Nat):val 0 (dgs u)=u:=by
 induction u using Nat.strongRecOn with
 | _ u ih=>
  unfold dgs;rw[decDigits]
  split
  ·rename_i h
   show val (10*0+((UInt8.ofNat (48+u)).toNat-48)) []=u
   rw[u8n _ (by omega)]
   show 10*0+(48+u-48)=u
   omega
  ·rename_i h
   rw[List.map_append]
   show val 0 (dgs (u / 10)++[(UInt8.ofNat (48+u % 10)).toNat])=u
   rw[zOi,ih (u / 10) (by omega),u8n _ (by omega)];omega
theorem uQ (k:Nat):dgs k≠[]:=by
 unfold dgs;rw[decDigits]
 split<;>simp
theorem eT (b:Bool) (u:Nat) (hu:u≤1073741824) {y:List Nat} (h:Bl y) :
  digT b (dgs u++y)=some (if b then (⟨2,numb (-(u:Int)),-(u:Int)⟩,1+(dgs u).length) else (⟨2,numb (u:Int),(u:Int)⟩,(dgs u).length)):=by
 have hall:∀r∈dgs u,dig r=true:=fun r hr=>(oY r).2 (kD u r hr)
 have hc:cnt dig (dgs u++y)=(dgs u).length:=by rw[dY hall,uN dig32 h];rfl
 have hne:(dgs u).length≠0:=fun e=>uQ u (List.eq_nil_of_length_eq_zero e)
 unfold digT;rw[hc,List.take_left,List.drop_left,uN inr32 h,if_neg (by omega),if_neg hne,zOj,if_neg (by omega)]
theorem zTp (v:Int) (hv : -1073741824≤v∧v≤1073741824) {y:List Nat} (h:Bl y):numT (numb v++y)=some (⟨2,numb v,v⟩,(numb v).length):=by
 by_cases hn:v<0
 ·have e1:numb v=126::dgs v.natAbs:=by unfold numb;rw[if_pos hn]
  have e2 : -((v.natAbs:Nat):Int)=v:=by omega
  have:=eT true v.natAbs (by omega) h;rw[e2] at this;rw[e1]
  show digT true (dgs v.natAbs++y)=_
  rw[this,if_pos rfl,e1,List.length_cons,Nat.add_comm]
 ·have e1:numb v=dgs v.toNat:=by unfold numb;rw[if_neg hn]
  have e2:((v.toNat:Nat):Int)=v:=by omega
  have:=eT false v.toNat (by omega) h;rw[e2] at this;rw[e1];have e3:numT (dgs v.toNat++y)=digT false (dgs v.toNat++y):=by
   unfold numT
   split
   ·rename_i d e
    exfalso
    cases hd:dgs v.toNat with
    | nil=>exact uQ _ hd
    | cons r t=>
     have hr:=kD v.toNat r (by rw[hd];simp);rw[hd] at e;injection e with e4 e5;omega
   ·rfl
  rw[e3,this,e1]
  rfl
theorem zWy:∀x∈SIGNS,SIGNS.find? (fun z=>z.isPrefixOf x)=some x:=by decide
theorem zWz:∀x∈SIGNS,∃r u,x=r::u∧cls (r:Int)=0∧r≠126:=by
 intro x hx;have:∀x∈SIGNS,(match x with | []=>false | r::_=>decide (cls (r:Int)=0∧r≠126))=true:=by decide
 have hk:=this x hx
 cases x with
 | nil=>cases hk
 | cons r u=>exact⟨r,u,rfl,by simpa using hk⟩
theorem zV0:∀x∈SIGNS,opens x=false:=by decide
theorem zYp {d:List Nat} {t:Tok} {n:Nat} (h:tokT d=some (t,n)) {y:List Nat} (hy:Bl y):tokT (t.x++y)=some (t,t.x.length)∧btw (t.x++y)=0∧t.x≠[]:=by
 cases d with
 | nil=>cases h
 | cons r u=>
  have e2:tokT (r::u)=if cls r=1 then nameT (r::u) else if cls r=2∨r=126 then numT (r::u) else if opens (r::u) then none else signT (r::u):=rfl
  rw[e2] at h;have head:∀(s:Nat) (z:List Nat),cls (s:Int)≠3→opens (s::z)=false→btw (s::z)=0:=fun s z h1 h2=>
   eQ (by simp[cnt,zOh h1]) (uP h2)
  by_cases c1:cls (r:Int)=1
  ·rw[if_pos c1] at h
   have hl1:lng r=true:=by simp[lng,inr,c1]
   obtain⟨c,hc⟩:∃c,cnt lng (r::u)=c:=⟨_,rfl⟩;have hcl:=kZ lng (r::u);have hall:=pZ (f:=lng) (r::u);have hc1:1≤c:=by rw[←hc];exact aY hl1
   rw[hc] at hall hcl;obtain⟨x,hx⟩:∃x,(r::u).take c=x:=⟨_,rfl⟩;have hxl:x.length=c:=by rw[←hx,List.length_take];omega
   obtain⟨v,rfl⟩:∃v,x=r::v:=by
    cases c with
    | zero=>omega
    | succ c=>exact⟨u.take c,by rw[←hx];rfl⟩
   rw[hx] at hall;have hcx:cnt lng ((r::v)++y)=(r::v).length:=by rw[dY hall,uN lng32 hy];rfl
   have hop:opens ((r::v)++y)=false:=by
    cases ho:opens ((r::v)++y)
    ·rfl
    ·exfalso
     obtain⟨w,hw⟩:=List.isPrefixOf_iff_prefix.1 ho;injection hw with h1 h2;rw[←h1] at c1;exact absurd c1 (by decide)
   have hb:btw ((r::v)++y)=0:=head r (v++y) (by rw[c1];decide) hop;have en:tokT ((r::v)++y)=nameT ((r::v)++y):=by
    show(if cls (r:Int)=1 then _ else _)=_
    rw[if_pos c1]
   unfold nameT at h;rw[hc,hx] at h
   by_cases w1:wrd (T (r::v))
   ·rw[if_pos w1] at h
    injection h with h;injection h with h1 h2;subst h1;refine⟨?_,hb,by simp⟩
    show tokT ((r::v)++y)=_
    rw[en];unfold nameT;rw[hcx,List.take_left,if_pos w1]
   ·rw[if_neg w1] at h
    by_cases w2:xA (r::v)
    ·rw[if_pos w2] at h
     injection h with h;injection h with h1 h2;subst h1;refine⟨?_,hb,by simp⟩
     show tokT ((r::v)++y)=_
     rw[en];unfold nameT;rw[hcx,List.take_left,if_neg w1,if_pos w2]
    ·rw[if_neg w2] at h
     cases h
  ·rw[if_neg c1] at h
   by_cases c2:cls (r:Int)=2∨r=126
   ·rw[if_pos c2] at h
    obtain⟨k1,k2,k3⟩:t.k=2∧t.x=numb t.n∧-1073741824≤t.n∧t.n≤1073741824:=by
     unfold numT at h
     split at h
     ·exact fL h
     ·exact fL h
    have hown:=zTp t.n k3 hy;rw[←k2] at hown;have ht:(⟨2,t.x,t.n⟩:Tok)=t:=by
     cases t;simp at k1;simp[k1]
    rw[ht] at hown;obtain⟨s,z,hs,hcs⟩:∃s z,t.x=s::z∧(cls (s:Int)=2∨s=126):=by
     rw[k2];unfold numb
     split
     ·exact⟨126,_,rfl,.inr rfl⟩
     ·cases hd:dgs t.n.toNat with
      | nil=>exact absurd hd (uQ _)
      | cons s z=>exact⟨s,z,rfl,.inl (by
        have:=(oY s).2 (kD _ s (by rw[hd];simp));unfold dig at this
        simpa using this)⟩
    have hs1:cls (s:Int)≠1∧cls (s:Int)≠3:=by
     rcases hcs with h1 | rfl
     ·rw[h1];decide
     ·decide
    have hop:opens ((s::z)++y)=false:=by
     cases ho:opens ((s::z)++y)
     ·rfl
     ·exfalso
      obtain⟨w,hw⟩:=List.isPrefixOf_iff_prefix.1 ho;injection hw with h1 h2;rw[←h1] at hcs
      rcases hcs with h3 | h3
      ·exact absurd h3 (by decide)
      ·omega
    rw[hs] at hown ⊢;refine⟨?_,head s (z++y) hs1.2 hop,by simp⟩
    show(if cls (s:Int)=1 then _ else if cls (s:Int)=2∨s=126 then numT ((s::z)++y) else _)=_
    rw[if_neg hs1.1,if_pos hcs];exact hown
   ·rw[if_neg c2] at h
    split at h
    ·cases h
    ·unfold signT at h
     obtain⟨x,hx,he⟩:=Option.map_eq_some_iff.1 h;have hm:=(pU hx).1;injection he with h1 h2;subst h1;obtain⟨s,z,rfl,hc0,h126⟩:=zWz x hm;have hop:opens ((s::z)++y)=false:=by rw[zWx _ hy];exact zV0 _ hm
     refine⟨?_,head s (z++y) (by rw[hc0];decide) hop,by simp⟩
     show(if cls (s:Int)=1 then _ else if cls (s:Int)=2∨s=126 then _ else if opens ((s::z)++y) then none else signT ((s::z)++y))=_
     rw[if_neg (by rw[hc0];decide),if_neg (by rw[hc0];simp[h126]),if_neg (by rw[hop];simp),zTo _ hy];unfold signT;rw[zWy _ hm]
     rfl
end Go.Proofs.YtnjgnbofcbhngaaGreatDoor.B
namespace Go.Proofs.YtnjgnbofcbhngaaGreatDoor.B
open Go.Lib
theorem zTq {d:List Nat} {t:Tok} {n:Nat} (h:tokT d=some (t,n)) (p:Nat):lexL t.x p = .inl [(t,p)]:=by
 obtain⟨h1,h2,h3⟩:=zYp h (y:=[]) (.inl rfl);rw[List.append_nil] at h1 h2;have e:lexL t.x p=match lexL ((t.x.drop (btw t.x)).drop t.x.length) (p+sz (t.x.take (btw t.x))+sz ((t.x.drop (btw t.x)).take t.x.length)) with
   | .inl r=>.inl ((t,p+sz (t.x.take (btw t.x)))::r)
   | .inr e=>.inr e:=kE (by rw[h2];exact h3) (by rw[h2];exact h1)
 rw[e,h2,List.drop_zero,List.drop_length,jB (l:=[]) rfl]
 rfl
end Go.Proofs.YtnjgnbofcbhngaaGreatDoor.B
namespace Go.Proofs.YtnjgnbofcbhngaaGreatDoor.B
open Go.RowKit
structure RTok where
 k:Int
 s:ByteArray
 n:Int
 a:Int
end Go.Proofs.YtnjgnbofcbhngaaGreatDoor.B
