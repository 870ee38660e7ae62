/-
  Plain facts, without the program: a text out of its runes. 'T l': the runes l as UTF-8; 'sz l': its bytes; 'ok r': r is a rune that may stand in a text.
-/
import Derived.Test.YtbpijnalmakfaaaGreatDoorGs05
import Derived.Test.YtbpijnalmakfaaaGreatDoorGs07
namespace Go.Proofs.YtbpijnalmakfaaaGreatDoor.B
open Go.Lib
theorem bad_T (a:List Nat) {r:Nat} (h:ok r) (b:List Nat):bad (T (a++r::b)) (sz a)=false:=by
 rw[fV,uH a h b];intro e;injection e with e1 e2;subst e1;exact absurd e2 (by decide)
theorem yXn (b:List Nat):∀a:List Nat,okl b→rns (T (a++b)) (sz a)=b∧vls (T (a++b)) (sz a)=true:=by
 induction b with
 | nil=>
  intro a _;rw[List.append_nil,gT (by rw[qV];omega),sX (by rw[qV];omega)];exact⟨rfl,rfl⟩
 | cons r t ih=>
  intro a h;obtain⟨h1,h2⟩:=jD.1 h;have hw:=rK r;have hlt:sz a<(T (a++r::t)).size:=by rw[qV,sz_app,yA];omega
  have e:a++r::t=(a++[r])++t:=by simp
  have es:sz a+wd r=sz (a++[r]):=by rw[sz_app,yA,kB];omega
  have k:=ih (a++[r]) h2;rw[←e,←es] at k;rw[wU hlt,sZ hlt (bad_T a h1 t),uH a h1 t,k.1,k.2];exact⟨rfl,rfl⟩
theorem zIn {l:List Nat} (h:okl l):rns (T l) 0=l:=(yXn l [] h).1
theorem T_inj {a b:List Nat} (ha:okl a) (hb:okl b) (h:T a=T b):a=b:=by
 rw[←zIn ha,←zIn hb,h]
theorem gB {l:List Nat} (h:∀x∈l,x<128):okl l:=fun r hr=>.inl (by have:=h r hr;omega)
theorem ck_T:∀{l:List Nat} (a:List Nat),okl (a++l)→(∀r∈l,rdb (r:Int)=true)→ck (T (a++l)) (sz a)=(0,0):=by
 intro l
 induction l with
 | nil=>intro a _ _;rw[List.append_nil];exact zSb (by rw[qV];omega)
 | cons r t ih=>
  intro a h hr;obtain⟨h0,h1⟩:=vM.1 h;obtain⟨h1,h2⟩:=jD.1 h1;have hw:=rK r;have hlt:sz a<(T (a++r::t)).size:=by rw[qV,sz_app,yA];omega
  have e:a++r::t=(a++[r])++t:=by simp
  have es:sz a+wd r=sz (a++[r]):=by rw[sz_app,yA,kB];omega
  have k:=ih (a++[r]) (by rw[←e];exact h) (fun x hx=>hr x (by simp[hx]));rw[zYg hlt (by rw[uH a h1 t];exact hr r (by simp)),uH a h1 t];rw[←e,←es] at k;exact k
theorem zIo (x:List UInt8):jn [x]=x:=by simp[jn]
theorem zCs {x:List UInt8} {r:List (List UInt8)} (h:r≠[]):jn (x::r)=x++46::jn r:=by
 cases r with
 | nil=>exact absurd rfl h
 | cons y t=>rfl
theorem yXo {xs:List (List UInt8)} (h:xs≠[]) (hd:∀x∈xs,(46:UInt8)∉x):pcl (jn xs)=xs:=by
 induction xs with
 | nil=>exact absurd rfl h
 | cons x r ih=>
  by_cases hr:r=[]
  ·subst hr;rw[zIo];exact wW (hd x (by simp))
  ·rw[zCs hr,rN (hd x (by simp)),ih hr fun y hy=>hd y (by simp[hy])]
theorem zYx (k:Nat):dgs k≠[]:=by
 unfold dgs;rw[decDigits]
 split<;>simp
theorem pc_jb {l:List ByteArray} (h:l≠[]) (hn:l.all nck=true):pc (jb l)=l:=by
 unfold pc jb;rw[tJ,yXo (by simpa using h) (by
  intro x hx;obtain⟨y,hy,rfl⟩:=List.mem_map.1 hx;exact zP6 ((List.all_eq_true.1 hn) y hy)),List.map_map]
 conv=>rhs;rw[←List.map_id l]
 exact List.map_congr_left fun x _=>zP5 x
theorem zCt {l:List ByteArray} (h:l≠[]) (hn:l.all nck=true):long (jb l)=decide ((jb l).size≤128):=by
 unfold long;rw[pc_jb h hn,hn,Bool.and_true]
theorem yXp (x:ByteArray):jb [x]=x:=by unfold jb;rw[List.map_cons,List.map_nil,zIo,zP5]
theorem zCu {f:Nat→Bool} {l:List Nat} (h:cnt f l<l.length) (y:List Nat):cnt f (l++y)=cnt f l:=by
 induction l with
 | nil=>simp at h
 | cons r t ih=>
  cases hr:f r
  ·simp[cnt,hr]
  ·simp[cnt,hr] at h ⊢
   exact ih h
theorem zYy {f:Nat→Bool} {l:List Nat} (h:∀r∈l,f r=true) (y:List Nat):cnt f (l++y)=l.length+cnt f y:=by
 induction l with
 | nil=>simp
 | cons r t ih=>
  have hr:=h r (by simp);have:=ih (fun x hx=>h x (by simp[hx]))
  simp[cnt,hr,this]
  omega
theorem zIp {f:Nat→Bool} {l:List Nat} (h:cnt f l=l.length):∀r∈l,f r=true:=by
 have:=eL (f:=f) l;rw[h,List.take_length] at this;exact this
theorem zIq {d:List Nat} (h1:cnt blk d=0) (h2:cmt d=0):btw d=0:=by
 rw[tG (by rw[h1];exact h2),h1]
theorem zCv {x l y:List Nat} (h:x.isPrefixOf l=true):x.isPrefixOf (l++y)=true:=by
 rw[List.isPrefixOf_iff_prefix] at h ⊢;exact h.trans (List.prefix_append _ _)
theorem yXq {d:Int} {last:Nat} {l:List Nat} {k:Nat} (h:cm d last l=some k) (y:List Nat):cm d last (l++y)=some k:=by
 induction l generalizing d last k with
 | nil=>cases h
 | cons r t ih=>
  have key:∀{d':Int} {last':Nat},(cm d' last' t).map (· + 1)=some k→(cm d' last' (t++y)).map (· + 1)=some k:=by
   intro d' last' h;obtain⟨j,hj,rfl⟩:=Option.map_eq_some_iff.1 h;rw[ih hj]
   rfl
  rw[List.cons_append];unfold cm at h ⊢
  by_cases c1:last=40∧r=42
  ·rw[if_pos c1] at h ⊢
   by_cases c2:d+1=0
   ·rw[if_pos c2] at h ⊢;exact h
   ·rw[if_neg c2] at h ⊢;exact key h
  ·rw[if_neg c1] at h ⊢
   by_cases c3:last=42∧r=41
   ·rw[if_pos c3] at h ⊢
    by_cases c2:d-1=0
    ·rw[if_pos c2] at h ⊢;exact h
    ·rw[if_neg c2] at h ⊢;exact key h
   ·rw[if_neg c3] at h ⊢;exact key h
theorem zIr {l:List Nat} (h:cmt l≠0):opens l=true∧cm 0 32 l=some (cmt l):=by
 unfold cmt at h ⊢
 cases ho:opens l
 ·rw[ho] at h;exact absurd rfl h
 ·refine⟨rfl,?_⟩
  rw[if_pos rfl];rw[ho,if_pos rfl] at h
  cases hc:cm 0 32 l with
  | none=>rw[hc] at h;exact absurd rfl h
  | some k=>rfl
theorem zCw {l:List Nat} (h:cmt l≠0) (y:List Nat):cmt (l++y)=cmt l:=by
 obtain⟨h1,h2⟩:=zIr h;have h3:opens (l++y)=true:=zCv h1;have h4:=yXq h2 y
 conv=>lhs;unfold cmt
 rw[h3,if_pos rfl,h4]
 rfl
theorem eU:∀(n:Nat) (z y:List Nat),z.length≤n→btw z=z.length→btw (z++y)=z.length+btw y
 | n,z,y,hn,hz=>by
  by_cases hc:cnt blk z=z.length
  ·have hall:=zIp hc
   have h1:cnt blk (z++y)=z.length+cnt blk y:=zYy hall y;have h2:(z++y).drop (cnt blk (z++y))=y.drop (cnt blk y):=by
    rw[h1,←List.drop_drop,List.drop_left]
   by_cases h:cmt (y.drop (cnt blk y))=0
   ·rw[tG h,tG (by rw[h2];exact h),h1]
   ·rw[mV h,mV (by rw[h2];exact h),h2,h1]
    have h3:(z++y).drop (z.length+cnt blk y+cmt (y.drop (cnt blk y)))=y.drop (cnt blk y+cmt (y.drop (cnt blk y))):=by
     rw[Nat.add_assoc,←List.drop_drop,List.drop_left]
    rw[h3];omega
  ·have hl:=vW blk z
   have hlt:cnt blk z<z.length:=by omega
   have h1:=zCu hlt y;have h2:(z++y).drop (cnt blk z)=z.drop (cnt blk z)++y:=List.drop_append_of_le_length hl
   by_cases h:cmt (z.drop (cnt blk z))=0
   ·rw[tG h] at hz
    omega
   ·have h3:=eJ (z.drop (cnt blk z))
    simp only[List.length_drop] at h3;have h4:=mV h;have h5:=zCw h y;have h6:(z++y).drop (cnt blk z+cmt (z.drop (cnt blk z)))=z.drop (cnt blk z+cmt (z.drop (cnt blk z)))++y:=List.drop_append_of_le_length (by omega);have h7:btw (z++y)=cnt blk z+cmt (z.drop (cnt blk z))+btw (z.drop (cnt blk z+cmt (z.drop (cnt blk z)))++y):=by
     rw[mV (by rw[h1,h2,h5];exact h),h1,h2,h5,h6]
    have h8:btw (z.drop (cnt blk z+cmt (z.drop (cnt blk z))))=(z.drop (cnt blk z+cmt (z.drop (cnt blk z)))).length:=by
     rw[List.length_drop];omega
    cases n with
    | zero=>omega
    | succ n=>
     have ih:=eU n (z.drop (cnt blk z+cmt (z.drop (cnt blk z)))) y (by rw[List.length_drop];omega) h8;rw[h7,ih,List.length_drop];omega
theorem zSt {z:List Nat} (h:btw z=z.length) (y:List Nat) (p:Nat):lexL (z++y) p=lexL y (p+sz z):=by
 have hb:=eU z.length z y (Nat.le_refl _) h;have hd:(z++y).drop (btw (z++y))=y.drop (btw y):=by rw[hb,←List.drop_drop,List.drop_left]
 have ht:sz ((z++y).take (btw (z++y)))=sz z+sz (y.take (btw y)):=by
  rw[hb,List.take_append,List.take_of_length_le (by omega),show z.length+btw y-z.length=btw y by omega,sz_app]
 by_cases he:y.drop (btw y)=[]
 ·rw[tH he,tH (by rw[hd];exact he)]
 ·cases e:tokT (y.drop (btw y)) with
  | none=>rw[zYm he e,zYm (by rw[hd];exact he) (by rw[hd];exact e),ht,Nat.add_assoc]
  | some tn=>
   obtain⟨t,k⟩:=tn;rw[mW he e,mW (by rw[hd];exact he) (by rw[hd];exact e),ht,hd,←Nat.add_assoc p (sz z) (sz (y.take (btw y)))]
def Bl (y:List Nat):Prop:=y=[]∨∃u,y=32::u
theorem zSu {f:Nat→Bool} (hf:f 32=false) {y:List Nat} (h:Bl y):cnt f y=0:=by
 rcases h with rfl | ⟨u,rfl⟩
 ·rfl
 ·simp[cnt,hf]
theorem lng32:lng 32=false:=by decide
theorem inr32:inr 32=false:=by decide
theorem dig32:dig 32=false:=by decide
theorem zPc {x:List Nat} (hx:32∉x) (d:List Nat) {y:List Nat} (h:Bl y):x.isPrefixOf (d++y)=x.isPrefixOf d:=by
 rcases h with rfl | ⟨u,rfl⟩
 ·rw[List.append_nil]
 ·rw[Bool.eq_iff_iff,List.isPrefixOf_iff_prefix,List.isPrefixOf_iff_prefix]
  constructor
  ·intro hp
   by_cases hl:x.length≤d.length
   ·exact List.prefix_of_prefix_length_le hp (List.prefix_append _ _) hl
   ·exfalso
    apply hx
    obtain⟨t,ht⟩:=hp;have h1:(d++32::u)[d.length]? = some 32:=by simp
    rw[←ht,List.getElem?_append_left (by omega)] at h1;exact List.mem_of_getElem? h1
  ·intro hp
   exact hp.trans (List.prefix_append _ _)
theorem yXr:∀x∈SIGNS,32∉x:=by decide
theorem zMa (d:List Nat) {y:List Nat} (h:Bl y):opens (d++y)=opens d:=zPc (x:=[40,42]) (by decide) d h
theorem zSv {α:Type} {f g:α→Bool} {l:List α} (h:∀x∈l,f x=g x):l.find? f=l.find? g:=by
 induction l with
 | nil=>rfl
 | cons a t ih=>
  have ha:=h a (by simp);have:=ih fun x hx=>h x (by simp[hx])
  simp only[List.find?_cons,ha,this]
theorem zIs (d:List Nat) {y:List Nat} (h:Bl y):signT (d++y)=signT d:=by
 unfold signT;rw[zSv fun x hx=>zPc (yXr x hx) d h]
theorem zSw {d:List Nat} (h:opens d=false):cmt d=0:=by unfold cmt;rw[h];rfl
theorem zCx {r:Nat} (h:cls r≠3):blk r=false:=by unfold blk;rw[decide_eq_false_iff_not];exact h
theorem zCy (x:List Nat) (r:Nat):∀a,val a (x++[r])=10*val a x+(r-48):=by
 induction x with
 | nil=>intro a;rfl
 | cons y t ih=>intro a;exact ih _
theorem zCz (u:Nat):val 0 (dgs u)=u:=by
 induction u using Nat.strongRecOn with
 | _ u ih=>
  unfold dgs;rw[decDigits]
  split
  ·rename_i h
   show val (10*0+((UInt8.ofNat (48+u)).toNat-48)) []=u
   rw[u8n _ (by omega)]
   show 10*0+(48+u-48)=u
   omega
  ·rename_i h
   rw[List.map_append]
   show val 0 (dgs (u / 10)++[(UInt8.ofNat (48+u % 10)).toNat])=u
   rw[zCy,ih (u / 10) (by omega),u8n _ (by omega)];omega
theorem zVg (b:Bool) (u:Nat) (hu:u≤1073741824) {y:List Nat} (h:Bl y) :
  digT b (dgs u++y)=some (if b then (⟨2,numb (-(u:Int)),-(u:Int)⟩,1+(dgs u).length) else (⟨2,numb (u:Int),(u:Int)⟩,(dgs u).length)):=by
 have hall:∀r∈dgs u,dig r=true:=fun r hr=>(rM r).2 (jH u r hr)
 have hc:cnt dig (dgs u++y)=(dgs u).length:=by rw[zYy hall,zSu dig32 h];rfl
 have hne:(dgs u).length≠0:=fun e=>zYx u (List.eq_nil_of_length_eq_zero e)
 unfold digT;rw[hc,List.take_left,List.drop_left,zSu inr32 h,if_neg (by omega),if_neg hne,zCz,if_neg (by omega)]
theorem zVh (v:Int) (hv : -1073741824≤v∧v≤1073741824) {y:List Nat} (h:Bl y):numT (numb v++y)=some (⟨2,numb v,v⟩,(numb v).length):=by
 by_cases hn:v<0
 ·have e1:numb v=126::dgs v.natAbs:=by unfold numb;rw[if_pos hn]
  have e2 : -((v.natAbs:Nat):Int)=v:=by omega
  have:=zVg true v.natAbs (by omega) h;rw[e2] at this;rw[e1]
  show digT true (dgs v.natAbs++y)=_
  rw[this,if_pos rfl,e1,List.length_cons,Nat.add_comm]
 ·have e1:numb v=dgs v.toNat:=by unfold numb;rw[if_neg hn]
  have e2:((v.toNat:Nat):Int)=v:=by omega
  have:=zVg false v.toNat (by omega) h;rw[e2] at this;rw[e1];have e3:numT (dgs v.toNat++y)=digT false (dgs v.toNat++y):=by
   unfold numT
   split
   ·rename_i d e
    exfalso
    cases hd:dgs v.toNat with
    | nil=>exact zYx _ hd
    | cons r t=>
     have hr:=jH v.toNat r (by rw[hd];simp);rw[hd] at e;injection e with e4 e5;omega
   ·rfl
  rw[e3,this,e1]
  rfl
theorem zVi {b:Bool} {d:List Nat} {t:Tok} {n:Nat} (h:digT b d=some (t,n)):t.k=2∧t.x=numb t.n∧-1073741824≤t.n∧t.n≤1073741824:=by
 unfold digT at h
 split at h
 ·cases h
 split at h
 ·cases h
 split at h
 ·cases h
 ·rename_i h1 h2 h3
  cases b
  ·simp at h
   obtain⟨rfl,_⟩:=h;exact⟨rfl,rfl,by dsimp only;omega,by dsimp only;omega⟩
  ·simp at h
   obtain⟨rfl,_⟩:=h;exact⟨rfl,rfl,by dsimp only;omega,by dsimp only;omega⟩
theorem zMb:∀x∈SIGNS,SIGNS.find? (fun z=>z.isPrefixOf x)=some x:=by decide
theorem zMc:∀x∈SIGNS,∃r u,x=r::u∧cls (r:Int)=0∧r≠126:=by
 intro x hx;have:∀x∈SIGNS,(match x with | []=>false | r::_=>decide (cls (r:Int)=0∧r≠126))=true:=by decide
 have hk:=this x hx
 cases x with
 | nil=>cases hk
 | cons r u=>exact⟨r,u,rfl,by simpa using hk⟩
theorem zMd:∀x∈SIGNS,opens x=false:=by decide
theorem zPd {d:List Nat} {t:Tok} {n:Nat} (h:tokT d=some (t,n)) {y:List Nat} (hy:Bl y):tokT (t.x++y)=some (t,t.x.length)∧btw (t.x++y)=0∧t.x≠[]:=by
 cases d with
 | nil=>cases h
 | cons r u=>
  have e2:tokT (r::u)=if cls r=1 then nameT (r::u) else if cls r=2∨r=126 then numT (r::u) else if opens (r::u) then none else signT (r::u):=rfl
  rw[e2] at h;have head:∀(s:Nat) (z:List Nat),cls (s:Int)≠3→opens (s::z)=false→btw (s::z)=0:=fun s z h1 h2=>
   zIq (by simp[cnt,zCx h1]) (zSw h2)
  by_cases c1:cls (r:Int)=1
  ·rw[if_pos c1] at h
   have hl1:lng r=true:=by simp[lng,inr,c1]
   obtain⟨c,hc⟩:∃c,cnt lng (r::u)=c:=⟨_,rfl⟩;have hcl:=vW lng (r::u);have hall:=eL (f:=lng) (r::u);have hc1:1≤c:=by rw[←hc];exact zWw hl1
   rw[hc] at hall hcl;obtain⟨x,hx⟩:∃x,(r::u).take c=x:=⟨_,rfl⟩;have hxl:x.length=c:=by rw[←hx,List.length_take];omega
   obtain⟨v,rfl⟩:∃v,x=r::v:=by
    cases c with
    | zero=>omega
    | succ c=>exact⟨u.take c,by rw[←hx];rfl⟩
   rw[hx] at hall;have hcx:cnt lng ((r::v)++y)=(r::v).length:=by rw[zYy hall,zSu lng32 hy];rfl
   have hop:opens ((r::v)++y)=false:=by
    cases ho:opens ((r::v)++y)
    ·rfl
    ·exfalso
     obtain⟨w,hw⟩:=List.isPrefixOf_iff_prefix.1 ho;injection hw with h1 h2;rw[←h1] at c1;exact absurd c1 (by decide)
   have hb:btw ((r::v)++y)=0:=head r (v++y) (by rw[c1];decide) hop;have en:tokT ((r::v)++y)=nameT ((r::v)++y):=by
    show(if cls (r:Int)=1 then _ else _)=_
    rw[if_pos c1]
   unfold nameT at h;rw[hc,hx] at h
   by_cases w1:wrd (T (r::v))
   ·rw[if_pos w1] at h
    injection h with h;injection h with h1 h2;subst h1;refine⟨?_,hb,by simp⟩
    show tokT ((r::v)++y)=_
    rw[en];unfold nameT;rw[hcx,List.take_left,if_pos w1]
   ·rw[if_neg w1] at h
    by_cases w2:vD (r::v)
    ·rw[if_pos w2] at h
     injection h with h;injection h with h1 h2;subst h1;refine⟨?_,hb,by simp⟩
     show tokT ((r::v)++y)=_
     rw[en];unfold nameT;rw[hcx,List.take_left,if_neg w1,if_pos w2]
    ·rw[if_neg w2] at h
     cases h
  ·rw[if_neg c1] at h
   by_cases c2:cls (r:Int)=2∨r=126
   ·rw[if_pos c2] at h
    obtain⟨k1,k2,k3⟩:t.k=2∧t.x=numb t.n∧-1073741824≤t.n∧t.n≤1073741824:=by
     unfold numT at h
     split at h
     ·exact zVi h
     ·exact zVi h
    have hown:=zVh t.n k3 hy;rw[←k2] at hown;have ht:(⟨2,t.x,t.n⟩:Tok)=t:=by
     cases t;simp at k1;simp[k1]
    rw[ht] at hown;obtain⟨s,z,hs,hcs⟩:∃s z,t.x=s::z∧(cls (s:Int)=2∨s=126):=by
     rw[k2];unfold numb
     split
     ·exact⟨126,_,rfl,.inr rfl⟩
     ·cases hd:dgs t.n.toNat with
      | nil=>exact absurd hd (zYx _)
      | cons s z=>exact⟨s,z,rfl,.inl (by
        have:=(rM s).2 (jH _ s (by rw[hd];simp));unfold dig at this
        simpa using this)⟩
    have hs1:cls (s:Int)≠1∧cls (s:Int)≠3:=by
     rcases hcs with h1 | rfl
     ·rw[h1];decide
     ·decide
    have hop:opens ((s::z)++y)=false:=by
     cases ho:opens ((s::z)++y)
     ·rfl
     ·exfalso
      obtain⟨w,hw⟩:=List.isPrefixOf_iff_prefix.1 ho;injection hw with h1 h2;rw[←h1] at hcs
      rcases hcs with h3 | h3
      ·exact absurd h3 (by decide)
      ·omega
    rw[hs] at hown ⊢;refine⟨?_,head s (z++y) hs1.2 hop,by simp⟩
    show(if cls (s:Int)=1 then _ else if cls (s:Int)=2∨s=126 then numT ((s::z)++y) else _)=_
    rw[if_neg hs1.1,if_pos hcs];exact hown
   ·rw[if_neg c2] at h
    split at h
    ·cases h
    ·unfold signT at h
     obtain⟨x,hx,he⟩:=Option.map_eq_some_iff.1 h;have hm:=(zWx hx).1;injection he with h1 h2;subst h1;obtain⟨s,z,rfl,hc0,h126⟩:=zMc x hm;have hop:opens ((s::z)++y)=false:=by rw[zMa _ hy];exact zMd _ hm
     refine⟨?_,head s (z++y) (by rw[hc0];decide) hop,by simp⟩
     show(if cls (s:Int)=1 then _ else if cls (s:Int)=2∨s=126 then _ else if opens ((s::z)++y) then none else signT ((s::z)++y))=_
     rw[if_neg (by rw[hc0];decide),if_neg (by rw[hc0];simp[h126]),if_neg (by rw[hop];simp),zIs _ hy];unfold signT;rw[zMb _ hm]
     rfl
theorem ckr_T {L:List Nat} (h:okl L) (hr:∀r∈L,rdb (r:Int)=true) (hs:sz L≤16384):ckr (T L)=(0,0):=by
 have k:=ck_T (l:=L) [] h hr;unfold ckr;rw[if_neg (by rw[qV];omega)];exact k
theorem yXs {L:List Nat} (h:okl L) (hr:∀r∈L,rdb (r:Int)=true) (hs:sz L≤16384) :
  lexR (T L)=(match lexL L 0 with | .inl l=>(l,0,0) | .inr a=>([],(a:Int),5)):=by
 unfold lexR;rw[ckr_T h hr hs,if_pos rfl,zIn h]
 cases lexL L 0<;>rfl
theorem eV (v:Int):∀r∈numb v,33≤r∧r≤126:=by
 intro r hr;unfold numb at hr
 split at hr
 ·rcases List.mem_cons.1 hr with rfl | hr
  ·omega
  ·have:=jH _ r hr;omega
 ·have:=jH _ r hr;omega
theorem rR {r:Nat} (h:33≤r∧r≤126):rdb (r:Int)=true:=by
 unfold rdb;rw[Bool.not_eq_true',decide_eq_false_iff_not];omega
theorem zIt {d:List Nat} {t:Tok} {n:Nat} (h:tokT d=some (t,n)) (p:Nat):lexL t.x p = .inl [(t,p)]:=by
 obtain⟨h1,h2,h3⟩:=zPd h (y:=[]) (.inl rfl);rw[List.append_nil] at h1 h2;have e:lexL t.x p=match lexL ((t.x.drop (btw t.x)).drop t.x.length) (p+sz (t.x.take (btw t.x))+sz ((t.x.drop (btw t.x)).take t.x.length)) with
   | .inl r=>.inl ((t,p+sz (t.x.take (btw t.x)))::r)
   | .inr e=>.inr e:=mW (by rw[h2];exact h3) (by rw[h2];exact h1)
 rw[e,h2,List.drop_zero,List.drop_length,tH (l:=[]) rfl]
 rfl
def jnL:List (List Nat)→List Nat
 | []=>[]
 | [x]=>x
 | x::y::r=>x++32::jnL (y::r)
theorem zMe:btw [32]=[32].length:=by decide
def Made (t:Tok):Prop:=∃d n,tokT d=some (t,n)
theorem zIu:∀(ts:List Tok) (p:Nat),(∀t∈ts,Made t)→∃r,lexL (jnL (ts.map (·.x))) p = .inl r∧r.map (·.1)=ts
 | [],p,_=>⟨[],tH (l:=[]) rfl,rfl⟩
 | [t],p,h=>by
  obtain⟨d,n,hd⟩:=h t (by simp);exact⟨[(t,p)],zIt hd p,rfl⟩
 | t::u::r,p,h=>by
  obtain⟨d,n,hd⟩:=h t (by simp);have hB:Bl (32::jnL ((u::r).map (·.x))):=.inr ⟨_,rfl⟩;obtain⟨h1,h2,h3⟩:=zPd hd hB;obtain⟨r',h4,h5⟩:=zIu (u::r) (p+sz t.x+1) (fun x hx=>h x (by simp[hx]));refine⟨(t,p)::r',?_,by simp[h5]⟩
  show lexL (t.x++32::jnL ((u::r).map (·.x))) p=_
  have hsk:lexL (32::jnL ((u::r).map (·.x))) (p+sz t.x) = .inl r':=by
   have:=zSt zMe (jnL ((u::r).map (·.x))) (p+sz t.x);rw[show sz [32]=1 from by rw[yA,(kG (r:=32) (by omega)).1];rfl] at this;rw[←h4];exact this
  rw[mW (by rw[h2];simp) (by rw[h2];exact h1),h2];simp only[List.drop_zero,List.take_zero,kB,Nat.add_zero,List.drop_left,List.take_left,hsk]
theorem zVj (x y:List Nat) (r:List (List Nat)):jnL (x::y::r)=x++32::jnL (y::r):=rfl
theorem zIv:∀xs:List (List Nat),enc (jnL xs)=join (xs.map enc) [32]
 | []=>rfl
 | [x]=>(join_one _ _).symm
 | x::y::r=>by
  have ih:=zIv (y::r);rw[zVj,vN]
  show enc x++(en 32++enc (jnL (y::r)))=_
  rw[ih,(kG (r:=32) (by omega)).2];unfold join
  simp[List.intercalate]
theorem zIw:∀(xs:List (List Nat)),∀r∈jnL xs,r=32∨∃x∈xs,r∈x
 | [],r,h=>by cases h
 | [x],r,h=>.inr ⟨x,by simp,h⟩
 | x::y::z,r,h=>by
  rw[zVj] at h
  rcases List.mem_append.1 h with h | h
  ·exact .inr ⟨x,by simp,h⟩
  ·rcases List.mem_cons.1 h with h | h
   ·exact .inl h
   ·rcases zIw (y::z) r h with h | ⟨w,h1,h2⟩
    ·exact .inl h
    ·exact .inr ⟨w,by simp at h1 ⊢;right;exact h1,h2⟩
theorem zPe {l:List Nat} (h:46∉l):spl l=[l]:=by
 induction l with
 | nil=>rfl
 | cons r t ih=>
  have h1:¬r=46:=fun e=>h (by rw[e];exact List.mem_cons_self ..)
  have h2:46∉t:=fun e=>h (List.mem_cons_of_mem _ e)
  unfold spl;rw[if_neg h1,ih h2]
theorem zB0 {a r:List Nat} (h:46∉a):spl (a++46::r)=a::spl r:=by
 induction a with
 | nil=>
  show spl (46::r)=_
  conv=>lhs;unfold spl
  rw[if_pos rfl]
 | cons x t ih=>
  have h1:¬x=46:=fun e=>h (by rw[e];exact List.mem_cons_self ..)
  have h2:46∉t:=fun e=>h (List.mem_cons_of_mem _ e)
  show spl (x::(t++46::r))=_
  conv=>lhs;unfold spl
  rw[if_neg h1,ih h2]
theorem yXt:lng 46=true:=by decide
theorem zB3 {r:Nat} {b:Bool} (h:mst (r:Int) b=true):lng r=true:=by
 unfold mst at h;unfold lng inr;rw[Bool.or_eq_true] at h;rw[Bool.or_eq_true,decide_eq_true_iff]
 left
 rcases h with h | h
 ·exact .inl (of_decide_eq_true h)
 ·rw[Bool.and_eq_true] at h
  rcases of_decide_eq_true h.1 with h | h
  ·exact .inr (.inl h)
  ·exact .inr (.inr (by omega))
theorem zVk {f:Nat→Bool}:∀{l:List Nat},(∀r∈l,f r=true)→cnt f l=l.length
 | [],_=>rfl
 | r::t,h=>by
  unfold cnt;rw[if_pos (h r (List.mem_cons_self ..)),zVk fun x hx=>h x (List.mem_cons_of_mem _ hx)]
  rfl
structure Lr (l:List UInt8) (x:List Nat):Prop where
 en:enc x=l
 ok:okl x
 ln:∀r∈x,lng r=true
 fi:∃r t,x=r::t∧cls (r:Int)=1
 pi:(spl x).all (fun y=>!wrd (T y)&&nm (T y))=true
 wo:(46:UInt8)∉l→wrd (T x)=false
theorem zIx {l:List UInt8} (h:nck (tx l)=true):∃x,Lr l x:=by
 obtain⟨hn,hw⟩:=zSn h;obtain⟨h1,h2,h3,h4⟩:=rP hn;have he:enc (rns (tx l) 0)=l:=by
  have:=congrArg (fun s=>s.data.toList) h3;rw[kA] at this;exact this
 have hd:46∉rns (tx l) 0:=fun hm=>by
  obtain⟨b,hb⟩:=zYt h4 46 hm;have e:mst ((46:Nat):Int) b=false:=zI0 b;rw[e] at hb
  cases hb
 refine⟨rns (tx l) 0,he,h2,fun r hr=>?_,?_,?_,fun _=>by rw[h3];exact hw⟩
 ·obtain⟨b,hb⟩:=zYt h4 r hr
  exact zB3 hb
 ·cases hx:rns (tx l) 0 with
  | nil=>rw[hx] at h3;rw[←h3] at h1;simp[T,enc,ByteArray.size] at h1
  | cons r t=>
   refine⟨r,t,rfl,?_⟩;rw[hx] at h4;unfold nmL at h4;rw[Bool.and_eq_true] at h4;have h5:=h4.1;unfold mst at h5
   simpa using h5
 ·rw[zPe hd,List.all_cons,List.all_nil,h3,hw,hn]
  rfl
theorem yXu:∀(l:List UInt8),((pcl l).map tx).all nck=true→∃x,Lr l x:=by
 refine rO _ (fun l h46 h=>?_) (fun a r ha ih h=>?_)
 ·rw[wW h46] at h
  simp only[List.map_cons,List.map_nil,List.all_cons,List.all_nil,Bool.and_true] at h;exact zIx h
 ·rw[rN ha] at h
  simp only[List.map_cons,List.all_cons,Bool.and_eq_true] at h;obtain⟨x,hx⟩:=zIx h.1;obtain⟨y,hy⟩:=ih h.2;have hd:46∉x:=fun hm=>by
   have:=hx.pi;have hwo:=hx.wo ha;have hm2:(46:UInt8)∈enc x:=by
    obtain⟨p,q,e⟩:=List.append_of_mem hm;rw[e,vN];refine List.mem_append_right _ ?_
    show(46:UInt8)∈enc (46::q)
    have e1:enc (46::q)=enc [46]++enc q:=vN [46] q;rw[e1];exact List.mem_append_left _ (by decide)
   rw[hx.en] at hm2;exact ha hm2
  have o46:okl [46]:=gB fun r hr=>by rw[List.mem_singleton.1 hr];omega
  refine⟨x++46::y,?_,?_,?_,?_,?_,fun h46=>absurd (List.mem_append_right a (List.mem_cons_self ..)) h46⟩
  ·have e1:enc (46::y)=enc [46]++enc y:=vN [46] y
   rw[vN,hx.en,e1,hy.en]
   rfl
  ·exact vM.2 ⟨hx.ok,vM (a:=[46]).2 ⟨o46,hy.ok⟩⟩
  ·intro r hr
   rcases List.mem_append.1 hr with hr | hr
   ·exact hx.ln r hr
   ·rcases List.mem_cons.1 hr with rfl | hr
    ·exact yXt
    ·exact hy.ln r hr
  ·obtain⟨r,t,e,hc⟩:=hx.fi
   exact⟨r,t++46::y,by rw[e];rfl,hc⟩
  ·rw[zB0 hd,List.all_cons,hy.pi,Bool.and_true]
   have:=hx.pi;rw[zPe hd,List.all_cons,List.all_nil,Bool.and_true] at this;exact this
theorem zMf:∀x∈WORDS,46∉x:=by decide
theorem zIy:∀x∈WORDS,∀r∈x,r<128:=by decide
theorem zB4 {r:Nat} (h:lng r=true):rdb (r:Int)=true:=by
 refine zJ9 _ _ ⟨fun _=>?_,fun _=>rfl⟩;unfold lng inr at h;rw[Bool.or_eq_true] at h
 rcases h with h | h
 ·have h:=of_decide_eq_true h
  unfold cls at h;omega
 ·have h:=of_decide_eq_true h
  omega
theorem zVl {s:ByteArray} (h:long s=true):∃x,T x=s∧okl x∧tokT x=some (⟨1,x,0⟩,x.length)∧∀r∈x,rdb (r:Int)=true:=by
 obtain⟨h1,h2⟩:=nV.1 h;obtain⟨x,hx⟩:=yXu s.data.toList h2;have hT:T x=s:=xN (by rw[kA,hx.en]);have hc:=zVk hx.ln;have hw:wrd (T x)=false:=by
  by_cases h46:(46:UInt8)∈s.data.toList
  ·cases hq:wrd (T x) with
   | false=>rfl
   | true=>
    unfold wrd at hq;obtain⟨y,hy,he⟩:=List.any_eq_true.1 hq;have he:=of_decide_eq_true he;have oy:okl y:=gB fun r hr=>zIy y hy r hr
    have:=T_inj hx.ok oy he;rw[←hx.en,this] at h46
    exfalso
    have hm:46∈y:=bY (c:=46) oy (by omega) h46;exact zMf y hy hm
  ·exact hx.wo h46
 have hl:vD x=true:=by
  unfold vD;rw[hx.pi,Bool.and_true,decide_eq_true_iff];have:sz x=s.size:=by rw[←hT];rfl
  omega
 refine⟨x,hT,hx.ok,?_,fun r hr=>zB4 (hx.ln r hr)⟩;obtain⟨r,t,e,hcl⟩:=hx.fi;have e2:tokT x=nameT x:=by
  rw[e]
  show(if cls r=1 then nameT (r::t) else _)=_
  rw[if_pos hcl]
 rw[e2];unfold nameT;rw[hc,List.take_length,hw,hl]
 rfl
def TKEYS:List (List Nat):=[[105,110,116],[98,111,111,108],[117,110,105,116],[40],[41],[109,117],[123],[125],[111,102],[124],[45,62],[42]]
theorem zIz:∀x∈TKEYS,tokT x=some (⟨3,x,0⟩,x.length):=by decide
end Go.Proofs.YtbpijnalmakfaaaGreatDoor.B
