/-
  Plain definitions, without the program: what layer 2 tells, over a text's runes: blanks, comments, words, names, numbers, signs, tokens.
-/
import Derived.Test.YtbpijnalmakfaaaGreatDoorGw06
namespace Go.Proofs.YtbpijnalmakfaaaGreatDoor.B
open Go.Lib
theorem ck_T:∀{l:List Nat} (a:List Nat),okl (a++l)→(∀r∈l,rdb (r:Int)=true)→ck (T (a++l)) (sz a)=(0,0):=by
 intro l
 induction l with
 | nil=>intro a _ _;rw[List.append_nil];exact zX5 (by rw[qO];omega)
 | cons r t ih=>
  intro a h hr;obtain⟨h0,h1⟩:=vH.1 h;obtain⟨h1,h2⟩:=kY.1 h1;have hw:=mU r;have hlt:sz a<(T (a++r::t)).size:=by rw[qO,sz_app,zO];omega
  have e:a++r::t=(a++[r])++t:=by simp
  have es:sz a+wd r=sz (a++[r]):=by rw[sz_app,zO,yY];omega
  have k:=ih (a++[r]) (by rw[←e];exact h) (fun x hx=>hr x (by simp[hx]));rw[aF hlt (by rw[zZ7 a h1 t];exact hr r (by simp)),zZ7 a h1 t];rw[←e,←es] at k;exact k
theorem zIr (x:List UInt8):jn [x]=x:=by simp[jn]
theorem zB4 {x:List UInt8} {r:List (List UInt8)} (h:r≠[]):jn (x::r)=x++46::jn r:=by
 cases r with
 | nil=>exact absurd rfl h
 | cons y t=>rfl
theorem yW3 {xs:List (List UInt8)} (h:xs≠[]) (hd:∀x∈xs,(46:UInt8)∉x):pcl (jn xs)=xs:=by
 induction xs with
 | nil=>exact absurd rfl h
 | cons x r ih=>
  by_cases hr:r=[]
  ·subst hr;rw[zIr];exact wM (hd x (by simp))
  ·rw[zB4 hr,rT (hd x (by simp)),ih hr fun y hy=>hd y (by simp[hy])]
theorem zXp (k:Nat):dgs k≠[]:=by
 unfold dgs;rw[decDigits]
 split<;>simp
theorem pc_jb {l:List ByteArray} (h:l≠[]) (hn:l.all nck=true):pc (jb l)=l:=by
 unfold pc jb;rw[tI,yW3 (by simpa using h) (by
  intro x hx;obtain⟨y,hy,rfl⟩:=List.mem_map.1 hx;exact zPg ((List.all_eq_true.1 hn) y hy)),List.map_map]
 conv=>rhs;rw[←List.map_id l]
 exact List.map_congr_left fun x _=>zPf x
theorem zB5 {l:List ByteArray} (h:l≠[]) (hn:l.all nck=true):long (jb l)=decide ((jb l).size≤128):=by
 unfold long;rw[pc_jb h hn,hn,Bool.and_true]
theorem yW4 (x:ByteArray):jb [x]=x:=by unfold jb;rw[List.map_cons,List.map_nil,zIr,zPf]
theorem zRb {z:List Nat} (h:btw z=z.length) (y:List Nat) (p:Nat):lexL (z++y) p=lexL y (p+sz z):=by
 have hb:=sK z.length z y (Nat.le_refl _) h;have hd:(z++y).drop (btw (z++y))=y.drop (btw y):=by rw[hb,←List.drop_drop,List.drop_left]
 have ht:sz ((z++y).take (btw (z++y)))=sz z+sz (y.take (btw y)):=by
  rw[hb,List.take_append,List.take_of_length_le (by omega),show z.length+btw y-z.length=btw y by omega,sz_app]
 by_cases he:y.drop (btw y)=[]
 ·rw[vJ he,vJ (by rw[hd];exact he)]
 ·cases e:tokT (y.drop (btw y)) with
  | none=>rw[wV he e,wV (by rw[hd];exact he) (by rw[hd];exact e),ht,Nat.add_assoc]
  | some tn=>
   obtain⟨t,k⟩:=tn;rw[jQ he e,jQ (by rw[hd];exact he) (by rw[hd];exact e),ht,hd,←Nat.add_assoc p (sz z) (sz (y.take (btw y)))]
def Bl (y:List Nat):Prop:=y=[]∨∃u,y=32::u
theorem zRc {f:Nat→Bool} (hf:f 32=false) {y:List Nat} (h:Bl y):cnt f y=0:=by
 rcases h with rfl | ⟨u,rfl⟩
 ·rfl
 ·simp[cnt,hf]
theorem lng32:lng 32=false:=by decide
theorem inr32:inr 32=false:=by decide
theorem dig32:dig 32=false:=by decide
theorem zPr {x:List Nat} (hx:32∉x) (d:List Nat) {y:List Nat} (h:Bl y):x.isPrefixOf (d++y)=x.isPrefixOf d:=by
 rcases h with rfl | ⟨u,rfl⟩
 ·rw[List.append_nil]
 ·rw[Bool.eq_iff_iff,List.isPrefixOf_iff_prefix,List.isPrefixOf_iff_prefix]
  constructor
  ·intro hp
   by_cases hl:x.length≤d.length
   ·exact List.prefix_of_prefix_length_le hp (List.prefix_append _ _) hl
   ·exfalso
    apply hx
    obtain⟨t,ht⟩:=hp;have h1:(d++32::u)[d.length]? = some 32:=by simp
    rw[←ht,List.getElem?_append_left (by omega)] at h1;exact List.mem_of_getElem? h1
  ·intro hp
   exact hp.trans (List.prefix_append _ _)
theorem yW5:∀x∈SIGNS,32∉x:=by decide
theorem zMl (d:List Nat) {y:List Nat} (h:Bl y):opens (d++y)=opens d:=zPr (x:=[40,42]) (by decide) d h
theorem zRd {α:Type} {f g:α→Bool} {l:List α} (h:∀x∈l,f x=g x):l.find? f=l.find? g:=by
 induction l with
 | nil=>rfl
 | cons a t ih=>
  have ha:=h a (by simp);have:=ih fun x hx=>h x (by simp[hx])
  simp only[List.find?_cons,ha,this]
theorem zIs (d:List Nat) {y:List Nat} (h:Bl y):signT (d++y)=signT d:=by
 unfold signT;rw[zRd fun x hx=>zPr (yW5 x hx) d h]
theorem zRe {d:List Nat} (h:opens d=false):cmt d=0:=by unfold cmt;rw[h];rfl
theorem zB6 {r:Nat} (h:cls r≠3):blk r=false:=by unfold blk;rw[decide_eq_false_iff_not];exact h
theorem zB7 (x:List Nat) (r:Nat):∀a,val a (x++[r])=10*val a x+(r-48):=by
 induction x with
 | nil=>intro a;rfl
 | cons y t ih=>intro a;exact ih _
theorem zB8 (u:Nat):val 0 (dgs u)=u:=by
 induction u using Nat.strongRecOn with
 | _ u ih=>
  unfold dgs;rw[decDigits]
  split
  ·rename_i h
   show val (10*0+((UInt8.ofNat (48+u)).toNat-48)) []=u
   rw[u8n _ (by omega)]
   show 10*0+(48+u-48)=u
   omega
  ·rename_i h
   rw[List.map_append]
   show val 0 (dgs (u / 10)++[(UInt8.ofNat (48+u % 10)).toNat])=u
   rw[zB7,ih (u / 10) (by omega),u8n _ (by omega)];omega
theorem zVz (b:Bool) (u:Nat) (hu:u≤1073741824) {y:List Nat} (h:Bl y) :
  digT b (dgs u++y)=some (if b then (⟨2,numb (-(u:Int)),-(u:Int)⟩,1+(dgs u).length) else (⟨2,numb (u:Int),(u:Int)⟩,(dgs u).length)):=by
 have hall:∀r∈dgs u,dig r=true:=fun r hr=>(mV r).2 (jE u r hr)
 have hc:cnt dig (dgs u++y)=(dgs u).length:=by rw[zXn hall,zRc dig32 h];rfl
 have hne:(dgs u).length≠0:=fun e=>zXp u (List.eq_nil_of_length_eq_zero e)
 unfold digT;rw[hc,List.take_left,List.drop_left,zRc inr32 h,if_neg (by omega),if_neg hne,zB8,if_neg (by omega)]
theorem zU0 (v:Int) (hv : -1073741824≤v∧v≤1073741824) {y:List Nat} (h:Bl y):numT (numb v++y)=some (⟨2,numb v,v⟩,(numb v).length):=by
 by_cases hn:v<0
 ·have e1:numb v=126::dgs v.natAbs:=by unfold numb;rw[if_pos hn]
  have e2 : -((v.natAbs:Nat):Int)=v:=by omega
  have:=zVz true v.natAbs (by omega) h;rw[e2] at this;rw[e1]
  show digT true (dgs v.natAbs++y)=_
  rw[this,if_pos rfl,e1,List.length_cons,Nat.add_comm]
 ·have e1:numb v=dgs v.toNat:=by unfold numb;rw[if_neg hn]
  have e2:((v.toNat:Nat):Int)=v:=by omega
  have:=zVz false v.toNat (by omega) h;rw[e2] at this;rw[e1];have e3:numT (dgs v.toNat++y)=digT false (dgs v.toNat++y):=by
   unfold numT
   split
   ·rename_i d e
    exfalso
    cases hd:dgs v.toNat with
    | nil=>exact zXp _ hd
    | cons r t=>
     have hr:=jE v.toNat r (by rw[hd];simp);rw[hd] at e;injection e with e4 e5;omega
   ·rfl
  rw[e3,this,e1]
  rfl
theorem zMm:∀x∈SIGNS,SIGNS.find? (fun z=>z.isPrefixOf x)=some x:=by decide
theorem zMn:∀x∈SIGNS,∃r u,x=r::u∧cls (r:Int)=0∧r≠126:=by
 intro x hx;have:∀x∈SIGNS,(match x with | []=>false | r::_=>decide (cls (r:Int)=0∧r≠126))=true:=by decide
 have hk:=this x hx
 cases x with
 | nil=>cases hk
 | cons r u=>exact⟨r,u,rfl,by simpa using hk⟩
theorem zMo:∀x∈SIGNS,opens x=false:=by decide
theorem zPs {d:List Nat} {t:Tok} {n:Nat} (h:tokT d=some (t,n)) {y:List Nat} (hy:Bl y):tokT (t.x++y)=some (t,t.x.length)∧btw (t.x++y)=0∧t.x≠[]:=by
 cases d with
 | nil=>cases h
 | cons r u=>
  have e2:tokT (r::u)=if cls r=1 then nameT (r::u) else if cls r=2∨r=126 then numT (r::u) else if opens (r::u) then none else signT (r::u):=rfl
  rw[e2] at h;have head:∀(s:Nat) (z:List Nat),cls (s:Int)≠3→opens (s::z)=false→btw (s::z)=0:=fun s z h1 h2=>
   iR (by simp[cnt,zB6 h1]) (zRe h2)
  by_cases c1:cls (r:Int)=1
  ·rw[if_pos c1] at h
   have hl1:lng r=true:=by simp[lng,inr,c1]
   obtain⟨c,hc⟩:∃c,cnt lng (r::u)=c:=⟨_,rfl⟩;have hcl:=kZ lng (r::u);have hall:=mW (f:=lng) (r::u);have hc1:1≤c:=by rw[←hc];exact zVe hl1
   rw[hc] at hall hcl;obtain⟨x,hx⟩:∃x,(r::u).take c=x:=⟨_,rfl⟩;have hxl:x.length=c:=by rw[←hx,List.length_take];omega
   obtain⟨v,rfl⟩:∃v,x=r::v:=by
    cases c with
    | zero=>omega
    | succ c=>exact⟨u.take c,by rw[←hx];rfl⟩
   rw[hx] at hall;have hcx:cnt lng ((r::v)++y)=(r::v).length:=by rw[zXn hall,zRc lng32 hy];rfl
   have hop:opens ((r::v)++y)=false:=by
    cases ho:opens ((r::v)++y)
    ·rfl
    ·exfalso
     obtain⟨w,hw⟩:=List.isPrefixOf_iff_prefix.1 ho;injection hw with h1 h2;rw[←h1] at c1;exact absurd c1 (by decide)
   have hb:btw ((r::v)++y)=0:=head r (v++y) (by rw[c1];decide) hop;have en:tokT ((r::v)++y)=nameT ((r::v)++y):=by
    show(if cls (r:Int)=1 then _ else _)=_
    rw[if_pos c1]
   unfold nameT at h;rw[hc,hx] at h
   by_cases w1:wrd (T (r::v))
   ·rw[if_pos w1] at h
    injection h with h;injection h with h1 h2;subst h1;refine⟨?_,hb,by simp⟩
    show tokT ((r::v)++y)=_
    rw[en];unfold nameT;rw[hcx,List.take_left,if_pos w1]
   ·rw[if_neg w1] at h
    by_cases w2:yK (r::v)
    ·rw[if_pos w2] at h
     injection h with h;injection h with h1 h2;subst h1;refine⟨?_,hb,by simp⟩
     show tokT ((r::v)++y)=_
     rw[en];unfold nameT;rw[hcx,List.take_left,if_neg w1,if_pos w2]
    ·rw[if_neg w2] at h
     cases h
  ·rw[if_neg c1] at h
   by_cases c2:cls (r:Int)=2∨r=126
   ·rw[if_pos c2] at h
    obtain⟨k1,k2,k3⟩:t.k=2∧t.x=numb t.n∧-1073741824≤t.n∧t.n≤1073741824:=by
     unfold numT at h
     split at h
     ·exact tL h
     ·exact tL h
    have hown:=zU0 t.n k3 hy;rw[←k2] at hown;have ht:(⟨2,t.x,t.n⟩:Tok)=t:=by
     cases t;simp at k1;simp[k1]
    rw[ht] at hown;obtain⟨s,z,hs,hcs⟩:∃s z,t.x=s::z∧(cls (s:Int)=2∨s=126):=by
     rw[k2];unfold numb
     split
     ·exact⟨126,_,rfl,.inr rfl⟩
     ·cases hd:dgs t.n.toNat with
      | nil=>exact absurd hd (zXp _)
      | cons s z=>exact⟨s,z,rfl,.inl (by
        have:=(mV s).2 (jE _ s (by rw[hd];simp));unfold dig at this
        simpa using this)⟩
    have hs1:cls (s:Int)≠1∧cls (s:Int)≠3:=by
     rcases hcs with h1 | rfl
     ·rw[h1];decide
     ·decide
    have hop:opens ((s::z)++y)=false:=by
     cases ho:opens ((s::z)++y)
     ·rfl
     ·exfalso
      obtain⟨w,hw⟩:=List.isPrefixOf_iff_prefix.1 ho;injection hw with h1 h2;rw[←h1] at hcs
      rcases hcs with h3 | h3
      ·exact absurd h3 (by decide)
      ·omega
    rw[hs] at hown ⊢;refine⟨?_,head s (z++y) hs1.2 hop,by simp⟩
    show(if cls (s:Int)=1 then _ else if cls (s:Int)=2∨s=126 then numT ((s::z)++y) else _)=_
    rw[if_neg hs1.1,if_pos hcs];exact hown
   ·rw[if_neg c2] at h
    split at h
    ·cases h
    ·unfold signT at h
     obtain⟨x,hx,he⟩:=Option.map_eq_some_iff.1 h;have hm:=(iE hx).1;injection he with h1 h2;subst h1;obtain⟨s,z,rfl,hc0,h126⟩:=zMn x hm;have hop:opens ((s::z)++y)=false:=by rw[zMl _ hy];exact zMo _ hm
     refine⟨?_,head s (z++y) (by rw[hc0];decide) hop,by simp⟩
     show(if cls (s:Int)=1 then _ else if cls (s:Int)=2∨s=126 then _ else if opens ((s::z)++y) then none else signT ((s::z)++y))=_
     rw[if_neg (by rw[hc0];decide),if_neg (by rw[hc0];simp[h126]),if_neg (by rw[hop];simp),zIs _ hy];unfold signT;rw[zMm _ hm]
     rfl
theorem ckr_T {L:List Nat} (h:okl L) (hr:∀r∈L,rdb (r:Int)=true) (hs:sz L≤16384):ckr (T L)=(0,0):=by
 have k:=ck_T (l:=L) [] h hr;unfold ckr;rw[if_neg (by rw[qO];omega)];exact k
theorem yW6 {L:List Nat} (h:okl L) (hr:∀r∈L,rdb (r:Int)=true) (hs:sz L≤16384) :
  lexR (T L)=(match lexL L 0 with | .inl l=>(l,0,0) | .inr a=>([],(a:Int),5)):=by
 unfold lexR;rw[ckr_T h hr hs,if_pos rfl,zIn h]
 cases lexL L 0<;>rfl
theorem zIt {d:List Nat} {t:Tok} {n:Nat} (h:tokT d=some (t,n)) (p:Nat):lexL t.x p = .inl [(t,p)]:=by
 obtain⟨h1,h2,h3⟩:=zPs h (y:=[]) (.inl rfl);rw[List.append_nil] at h1 h2;have e:lexL t.x p=match lexL ((t.x.drop (btw t.x)).drop t.x.length) (p+sz (t.x.take (btw t.x))+sz ((t.x.drop (btw t.x)).take t.x.length)) with
   | .inl r=>.inl ((t,p+sz (t.x.take (btw t.x)))::r)
   | .inr e=>.inr e:=jQ (by rw[h2];exact h3) (by rw[h2];exact h1)
 rw[e,h2,List.drop_zero,List.drop_length,vJ (l:=[]) rfl]
 rfl
def jnL:List (List Nat)→List Nat
 | []=>[]
 | [x]=>x
 | x::y::r=>x++32::jnL (y::r)
theorem zMp:btw [32]=[32].length:=by decide
theorem zIu:∀(ts:List Tok) (p:Nat),(∀t∈ts,Made t)→∃r,lexL (jnL (ts.map (·.x))) p = .inl r∧r.map (·.1)=ts
 | [],p,_=>⟨[],vJ (l:=[]) rfl,rfl⟩
 | [t],p,h=>by
  obtain⟨d,n,hd⟩:=h t (by simp);exact⟨[(t,p)],zIt hd p,rfl⟩
 | t::u::r,p,h=>by
  obtain⟨d,n,hd⟩:=h t (by simp);have hB:Bl (32::jnL ((u::r).map (·.x))):=.inr ⟨_,rfl⟩;obtain⟨h1,h2,h3⟩:=zPs hd hB;obtain⟨r',h4,h5⟩:=zIu (u::r) (p+sz t.x+1) (fun x hx=>h x (by simp[hx]));refine⟨(t,p)::r',?_,by simp[h5]⟩
  show lexL (t.x++32::jnL ((u::r).map (·.x))) p=_
  have hsk:lexL (32::jnL ((u::r).map (·.x))) (p+sz t.x) = .inl r':=by
   have:=zRb zMp (jnL ((u::r).map (·.x))) (p+sz t.x);rw[show sz [32]=1 from by rw[zO,(kD (r:=32) (by omega)).1];rfl] at this;rw[←h4];exact this
  rw[jQ (by rw[h2];simp) (by rw[h2];exact h1),h2];simp only[List.drop_zero,List.take_zero,yY,Nat.add_zero,List.drop_left,List.take_left,hsk]
theorem zU1 (x y:List Nat) (r:List (List Nat)):jnL (x::y::r)=x++32::jnL (y::r):=rfl
theorem zIv:∀xs:List (List Nat),enc (jnL xs)=join (xs.map enc) [32]
 | []=>rfl
 | [x]=>(join_one _ _).symm
 | x::y::r=>by
  have ih:=zIv (y::r);rw[zU1,vI]
  show enc x++(en 32++enc (jnL (y::r)))=_
  rw[ih,(kD (r:=32) (by omega)).2];unfold join
  simp[List.intercalate]
theorem zIw:∀(xs:List (List Nat)),∀r∈jnL xs,r=32∨∃x∈xs,r∈x
 | [],r,h=>by cases h
 | [x],r,h=>.inr ⟨x,by simp,h⟩
 | x::y::z,r,h=>by
  rw[zU1] at h
  rcases List.mem_append.1 h with h | h
  ·exact .inr ⟨x,by simp,h⟩
  ·rcases List.mem_cons.1 h with h | h
   ·exact .inl h
   ·rcases zIw (y::z) r h with h | ⟨w,h1,h2⟩
    ·exact .inl h
    ·exact .inr ⟨w,by simp at h1 ⊢;right;exact h1,h2⟩
theorem zPt {l:List Nat} (h:46∉l):spl l=[l]:=by
 induction l with
 | nil=>rfl
 | cons r t ih=>
  have h1:¬r=46:=fun e=>h (by rw[e];exact List.mem_cons_self ..)
  have h2:46∉t:=fun e=>h (List.mem_cons_of_mem _ e)
  unfold spl;rw[if_neg h1,ih h2]
theorem zB9 {a r:List Nat} (h:46∉a):spl (a++46::r)=a::spl r:=by
 induction a with
 | nil=>
  show spl (46::r)=_
  conv=>lhs;unfold spl
  rw[if_pos rfl]
 | cons x t ih=>
  have h1:¬x=46:=fun e=>h (by rw[e];exact List.mem_cons_self ..)
  have h2:46∉t:=fun e=>h (List.mem_cons_of_mem _ e)
  show spl (x::(t++46::r))=_
  conv=>lhs;unfold spl
  rw[if_neg h1,ih h2]
theorem yW7:lng 46=true:=by decide
theorem zBa {r:Nat} {b:Bool} (h:mst (r:Int) b=true):lng r=true:=by
 unfold mst at h;unfold lng inr;rw[Bool.or_eq_true] at h;rw[Bool.or_eq_true,decide_eq_true_iff]
 left
 rcases h with h | h
 ·exact .inl (of_decide_eq_true h)
 ·rw[Bool.and_eq_true] at h
  rcases of_decide_eq_true h.1 with h | h
  ·exact .inr (.inl h)
  ·exact .inr (.inr (by omega))
theorem zU2 {f:Nat→Bool}:∀{l:List Nat},(∀r∈l,f r=true)→cnt f l=l.length
 | [],_=>rfl
 | r::t,h=>by
  unfold cnt;rw[if_pos (h r (List.mem_cons_self ..)),zU2 fun x hx=>h x (List.mem_cons_of_mem _ hx)]
  rfl
structure Lr (l:List UInt8) (x:List Nat):Prop where
 en:enc x=l
 ok:okl x
 ln:∀r∈x,lng r=true
 fi:∃r t,x=r::t∧cls (r:Int)=1
 pi:(spl x).all (fun y=>!wrd (T y)&&nm (T y))=true
 wo:(46:UInt8)∉l→wrd (T x)=false
theorem zIx {l:List UInt8} (h:nck (tx l)=true):∃x,Lr l x:=by
 obtain⟨hn,hw⟩:=zR5 h;obtain⟨h1,h2,h3,h4⟩:=rV hn;have he:enc (rns (tx l) 0)=l:=by
  have:=congrArg (fun s=>s.data.toList) h3;rw[yX] at this;exact this
 have hd:46∉rns (tx l) 0:=fun hm=>by
  obtain⟨b,hb⟩:=zXj h4 46 hm;have e:mst ((46:Nat):Int) b=false:=zI4 b;rw[e] at hb
  cases hb
 refine⟨rns (tx l) 0,he,h2,fun r hr=>?_,?_,?_,fun _=>by rw[h3];exact hw⟩
 ·obtain⟨b,hb⟩:=zXj h4 r hr
  exact zBa hb
 ·cases hx:rns (tx l) 0 with
  | nil=>rw[hx] at h3;rw[←h3] at h1;simp[T,enc,ByteArray.size] at h1
  | cons r t=>
   refine⟨r,t,rfl,?_⟩;rw[hx] at h4;unfold nmL at h4;rw[Bool.and_eq_true] at h4;have h5:=h4.1;unfold mst at h5
   simpa using h5
 ·rw[zPt hd,List.all_cons,List.all_nil,h3,hw,hn]
  rfl
theorem yW8:∀(l:List UInt8),((pcl l).map tx).all nck=true→∃x,Lr l x:=by
 refine rU _ (fun l h46 h=>?_) (fun a r ha ih h=>?_)
 ·rw[wM h46] at h
  simp only[List.map_cons,List.map_nil,List.all_cons,List.all_nil,Bool.and_true] at h;exact zIx h
 ·rw[rT ha] at h
  simp only[List.map_cons,List.all_cons,Bool.and_eq_true] at h;obtain⟨x,hx⟩:=zIx h.1;obtain⟨y,hy⟩:=ih h.2;have hd:46∉x:=fun hm=>by
   have:=hx.pi;have hwo:=hx.wo ha;have hm2:(46:UInt8)∈enc x:=by
    obtain⟨p,q,e⟩:=List.append_of_mem hm;rw[e,vI];refine List.mem_append_right _ ?_
    show(46:UInt8)∈enc (46::q)
    have e1:enc (46::q)=enc [46]++enc q:=vI [46] q;rw[e1];exact List.mem_append_left _ (by decide)
   rw[hx.en] at hm2;exact ha hm2
  have o46:okl [46]:=xK fun r hr=>by rw[List.mem_singleton.1 hr];omega
  refine⟨x++46::y,?_,?_,?_,?_,?_,fun h46=>absurd (List.mem_append_right a (List.mem_cons_self ..)) h46⟩
  ·have e1:enc (46::y)=enc [46]++enc y:=vI [46] y
   rw[vI,hx.en,e1,hy.en]
   rfl
  ·exact vH.2 ⟨hx.ok,vH (a:=[46]).2 ⟨o46,hy.ok⟩⟩
  ·intro r hr
   rcases List.mem_append.1 hr with hr | hr
   ·exact hx.ln r hr
   ·rcases List.mem_cons.1 hr with rfl | hr
    ·exact yW7
    ·exact hy.ln r hr
  ·obtain⟨r,t,e,hc⟩:=hx.fi
   exact⟨r,t++46::y,by rw[e];rfl,hc⟩
  ·rw[zB9 hd,List.all_cons,hy.pi,Bool.and_true]
   have:=hx.pi;rw[zPt hd,List.all_cons,List.all_nil,Bool.and_true] at this;exact this
theorem zMq:∀x∈WORDS,46∉x:=by decide
theorem zIy:∀x∈WORDS,∀r∈x,r<128:=by decide
theorem zBb {r:Nat} (h:lng r=true):rdb (r:Int)=true:=by
 refine zX3 _ _ ⟨fun _=>?_,fun _=>rfl⟩;unfold lng inr at h;rw[Bool.or_eq_true] at h
 rcases h with h | h
 ·have h:=of_decide_eq_true h
  unfold cls at h;omega
 ·have h:=of_decide_eq_true h
  omega
theorem zU3 {s:ByteArray} (h:long s=true):∃x,T x=s∧okl x∧tokT x=some (⟨1,x,0⟩,x.length)∧∀r∈x,rdb (r:Int)=true:=by
 obtain⟨h1,h2⟩:=pD.1 h;obtain⟨x,hx⟩:=yW8 s.data.toList h2;have hT:T x=s:=jK (by rw[yX,hx.en]);have hc:=zU2 hx.ln;have hw:wrd (T x)=false:=by
  by_cases h46:(46:UInt8)∈s.data.toList
  ·cases hq:wrd (T x) with
   | false=>rfl
   | true=>
    unfold wrd at hq;obtain⟨y,hy,he⟩:=List.any_eq_true.1 hq;have he:=of_decide_eq_true he;have oy:okl y:=xK fun r hr=>zIy y hy r hr
    have:=zIo hx.ok oy he;rw[←hx.en,this] at h46
    exfalso
    have hm:46∈y:=aM (c:=46) oy (by omega) h46;exact zMq y hy hm
  ·exact hx.wo h46
 have hl:yK x=true:=by
  unfold yK;rw[hx.pi,Bool.and_true,decide_eq_true_iff];have:sz x=s.size:=by rw[←hT];rfl
  omega
 refine⟨x,hT,hx.ok,?_,fun r hr=>zBb (hx.ln r hr)⟩;obtain⟨r,t,e,hcl⟩:=hx.fi;have e2:tokT x=nameT x:=by
  rw[e]
  show(if cls r=1 then nameT (r::t) else _)=_
  rw[if_pos hcl]
 rw[e2];unfold nameT;rw[hc,List.take_length,hw,hl]
 rfl
def TKEYS:List (List Nat):=[[105,110,116],[98,111,111,108],[117,110,105,116],[40],[41],[109,117],[123],[125],[111,102],[124],[45,62],[42]]
theorem zIz:∀x∈TKEYS,tokT x=some (⟨3,x,0⟩,x.length):=by decide
end Go.Proofs.YtbpijnalmakfaaaGreatDoor.B
