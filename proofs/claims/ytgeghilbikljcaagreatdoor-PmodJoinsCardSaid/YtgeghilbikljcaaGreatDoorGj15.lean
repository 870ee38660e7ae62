/-
  Plain definitions, without the program: tokens as modules, signatures and declarations (layer 8), by the grammar of the chapter; a rule is a row of letters; each with as much fuel as any list wants. Places.
-/
import Derived.Test.YtgeghilbikljcaaGreatDoorGj14
set_option maxHeartbeats 40000000
set_option maxRecDepth 100000
namespace Go.Proofs.YtgeghilbikljcaaGreatDoor
def kVal:ByteArray:=⟨#[118,97,108]⟩
def kType:ByteArray:=⟨#[116,121,112,101]⟩
def kData:ByteArray:=⟨#[100,97,116,97,116,121,112,101]⟩
def qW:ByteArray:=⟨#[115,116,114,117,99,116,117,114,101]⟩
def zP:ByteArray:=⟨#[105,110,99,108,117,100,101]⟩
def jY:ByteArray:=⟨#[115,104,97,114,105,110,103]⟩
def wD:ByteArray:=⟨#[111,112,101,110]⟩
def yX:ByteArray:=⟨#[115,105,103,110,97,116,117,114,101]⟩
def jF:ByteArray:=⟨#[102,117,110,99,116,111,114]⟩
def jZ:ByteArray:=⟨#[115,116,114,117,99,116]⟩
def kSigW:ByteArray:=⟨#[115,105,103]⟩
def vJ:ByteArray:=⟨#[119,104,101,114,101]⟩
def kSeal:ByteArray:=⟨#[58,62]⟩
structure Rw8 where
 w:ByteArray
 k:Int
 sh:List UInt8
 fit:Option ByteArray
def specR:List Rw8:=[⟨kVal,60,[110,58,116],none⟩,⟨kType,61,[110,61,116],some kEq⟩,⟨kType,61,[110],none⟩,⟨kData,62,[110,61,99],none⟩,⟨qW,63,[110,58,115],none⟩,⟨zP,64,[115],none⟩,⟨jY,65,[84,108,61,76],none⟩]
def declR:List Rw8:=[⟨kVal,70,[110,58,116,61,101],some qH⟩,⟨kVal,70,[110,61,101],none⟩,⟨kType,71,[110,61,116],none⟩,⟨kData,72,[110,61,99],none⟩,⟨qW,73,[110,61,109],none⟩,⟨wD,76,[108],none⟩,⟨zP,77,[108],none⟩,
 ⟨yX,74,[110,61,115],none⟩,⟨jF,75,[110,40,78,58,115,41,61,109],none⟩]
def iB:List UInt8:=[84,108,61,116]
def sign8 (c:UInt8):ByteArray:=if c=84 then kType else ⟨#[c]⟩
structure Pa where
 nm:ByteArray
 mrk:ByteArray
 ks:Fr
section
variable (nk lg:ByteArray->Bool) (l:List Te)
def stepS (O:UInt8->Nat->Rs Tr) (c:UInt8) (i:Nat) (a:Pa):Rs Pa:=
 if c=110 then thn (nameQ nk (tks l) i []) fun s j=>.inl (⟨s,a.mrk,a.ks⟩,j)
 else if c=78 then thn (nameQ nk (tks l) i []) fun s j=>.inl (⟨a.nm,s,a.ks⟩,j)
 else if c=108 then thn (nameQ lg (tks l) i []) fun s j=>.inl (⟨s,a.mrk,a.ks⟩,j)
 else if c=76 then thn (nameQ lg (tks l) i []) fun s j=>.inl (⟨a.nm,s,a.ks⟩,j)
 else if c=99 then thn (consL nk lg (tks l) i .nil) fun k j=>.inl (⟨a.nm,a.mrk,a.ks.app k⟩,j)
 else if c=116\/c=101\/c=109\/c=115 then thn (O c i) fun t j=>.inl (⟨a.nm,a.mrk,a.ks.app (fr1 t)⟩,j)
 else thn (keysL (tks l) i [sign8 c]) fun _ j=>.inl (a,j)
def partS (O:UInt8->Nat->Rs Tr):List UInt8->Nat->Pa->Rs Pa
 | [],i,a=>.inl (a,i)
 | c::r,i,a=>thn (stepS nk lg l O c i a) fun b j=>partS O r j b
def fitS (r:Rw8) (i:Nat):Bool:=match r.fit with
 | none=>true
 | some s=>key (tks l) (i+1) s
def begS (r:Rw8) (top:Bool) (i:Nat):Bool:=!(decide (74<=r.k)&&decide (r.k<=75) && !top)&&key (tks l) i r.w&&fitS l r (i+1)
def rowsS (O:UInt8->Nat->Rs Tr) (top:Bool):List Rw8->Nat->Rs (Option Tr)
 | [],i=>.inl (none,i)
 | r::t,i=>if begS l r top i then thn (partS nk lg l O r.sh (i+1) ⟨nob,nob,.nil⟩) fun p j=>.inl (some (⟨r.k,0,p.nm,p.mrk⟩,p.ks),j) else rowsS O top t i
def manyS (O:UInt8->Nat->Rs Tr) (t:List Rw8) (top:Bool):Nat->Nat->Fr->Rs Fr
 | 0,i,_=>.inr (i,6)
 | n+1,i,acc=>thn (rowsS nk lg l O top t i) fun o j=>match o with
  | none=>.inl (acc,i)
  | some x=>manyS O t top n j (acc.app (fr1 x))
def sealS (S:Nat->Rs Tr):Nat->Tr->Nat->Rs Tr
 | 0,_,i=>.inr (i,6)
 | n+1,m,i=>if key (tks l) i kSeal then thn (S (i+1)) fun s j=>sealS S n (⟨43,1,nob,nob⟩,fr2 m s) j
  else if key (tks l) i qH then thn (S (i+1)) fun s j=>sealS S n (⟨43,0,nob,nob⟩,fr2 m s) j
  else .inl (m,i)
def zV (O:UInt8->Nat->Rs Tr):Nat->Tr->Nat->Rs Tr
 | 0,_,i=>.inr (i,6)
 | n+1,s,i=>if key (tks l) i vJ then thn (partS nk lg l O iB (i+1) ⟨nob,nob,fr1 s⟩) fun p j=>zV O n (⟨52,0,p.nm,p.mrk⟩,p.ks) j else .inl (s,i)
def kU (D:Nat->Rs Fr) (k:Int) (i:Nat):Rs Tr:=thn (D i) fun f j=>thn (keysL (tks l) j [kEnd]) fun _ m=>.inl (nd k nob f,m)
def primS (M:Nat->Rs Tr) (D:Nat->Rs Fr) (i:Nat):Rs Tr:=
 if key (tks l) i jZ then kU l D 40 (i+1)
 else match nam nk (tks l) i,key (tks l) (i+1) kOpen with
  | some s,true=>thn (thenK (tks l) (M (i+2)) [kShut]) fun m j=>.inl (nd 42 s (fr1 m),j)
  | _,_=>if key (tks l) i kOpen then thenK (tks l) (M (i+1)) [kShut]
   else thn (nameQ lg (tks l) i []) fun s j=>.inl (nd 41 s .nil,j)
def bodyS (D:Nat->Rs Fr) (i:Nat):Rs Tr:=
 if key (tks l) i kSigW then kU l D 50 (i+1) else thn (nameQ nk (tks l) i []) fun s j=>.inl (nd 51 s .nil,j)
def oneS (T E M S:Nat->Rs Tr) (c:UInt8) (i:Nat):Rs Tr:=if c=116 then T i else if c=101 then E i else if c=109 then M i else S i
mutual
def modF:Nat->Nat->Rs Tr
 | 0,i=>.inr (i,6)
 | n+1,i=>thn (primS nk lg l (fun j=>modF n j) (fun j=>declF n false j) i) fun m j=>sealS l (fun j=>sigF n j) (n+1) m j
def sigF:Nat->Nat->Rs Tr
 | 0,i=>.inr (i,6)
 | n+1,i=>thn (bodyS nk l (fun j=>specF n j) i) fun s j=>zV nk lg l (oneS (typL nk lg (tks l)) (exprF nk lg l n) (fun j=>modF n j) (fun j=>sigF n j)) (n+1) s j
def declF:Nat->Bool->Nat->Rs Fr
 | 0,_,i=>.inr (i,6)
 | n+1,top,i=>manyS nk lg l (oneS (typL nk lg (tks l)) (exprF nk lg l n) (fun j=>modF n j) (fun j=>sigF n j)) declR top (n+1) i .nil
def specF:Nat->Nat->Rs Fr
 | 0,i=>.inr (i,6)
 | n+1,i=>manyS nk lg l (oneS (typL nk lg (tks l)) (exprF nk lg l n) (fun j=>modF n j) (fun j=>sigF n j)) specR false (n+1) i .nil
end
end
def modZ (nk lg:ByteArray->Bool) (l:List Te) (m:Nat) (i:Int):Rs Tr:=if i<0\/(l.length:Int)<i then .inr (0,2) else modF nk lg l m i.toNat
def declZ (nk lg:ByteArray->Bool) (l:List Te) (m:Nat) (top:Bool) (i:Int):Rs Fr:=if i<0\/(l.length:Int)<i then .inr (0,2) else declF nk lg l m top i.toNat
section
variable {nk lg:ByteArray->Bool} {l:List Te}
def OneIn (l:List Te) (O:UInt8->Nat->Rs Tr):Prop:=∀c j,j<=l.length->In l.length j (O c j)
theorem uQ {i:Nat} (hi:i<=l.length) (acc:Fr):In l.length i (consL nk lg (tks l) i acc):=by
 have h1:=(vW (nk:=nk) (lg:=lg) (tks l) [] (4*(tks l).length+8)).2.2.2 i acc (by rw[qK];exact hi);have h2:=oP (nk:=nk) (lg:=lg) (tks l) i acc;rw[qK] at h1;have e0:consF nk lg (4*l.length+8) (tks l) i acc=consL nk lg (tks l) i acc:=by unfold consL;rw[qK]
 rw[e0] at h1
 cases h:consL nk lg (tks l) i acc with
 | inl r=>rw[h] at h1 h2;exact⟨h2,h1.le⟩
 | inr r=>rw[h] at h1 h2;exact⟨h2,h1.le,by rcases h1.bad r.1 r.2 rfl with h | h<;>omega⟩
theorem iC {O:UInt8->Nat->Rs Tr} (hO:OneIn l O) (c:UInt8) {i:Nat} (hi:i<=l.length) (a:Pa):In l.length i (stepS nk lg l O c i a):=by
 unfold stepS
 repeat' split
 ·exact(qS hi).bnd0 fun _ _ _ _ hj=>qR (Nat.le_refl _) hj
 ·exact(qS hi).bnd0 fun _ _ _ _ hj=>qR (Nat.le_refl _) hj
 ·exact(qS hi).bnd0 fun _ _ _ _ hj=>qR (Nat.le_refl _) hj
 ·exact(qS hi).bnd0 fun _ _ _ _ hj=>qR (Nat.le_refl _) hj
 ·exact(uQ hi .nil).bnd0 fun _ _ _ _ hj=>qR (Nat.le_refl _) hj
 ·exact(hO c i hi).bnd0 fun _ _ _ _ hj=>qR (Nat.le_refl _) hj
 ·exact(sF hi).bnd0 fun _ _ _ _ hj=>qR (Nat.le_refl _) hj
theorem wE {O:UInt8->Nat->Rs Tr} (hO:OneIn l O):∀(sh:List UInt8) (i:Nat) (a:Pa),i<=l.length->In0 l.length i (partS nk lg l O sh i a)
 | [],i,a,hi=>qR (Nat.le_refl _) hi
 | c::r,i,a,hi=>by
  unfold partS;exact((iC hO c hi a).weak).bnd fun b j _ _ hj=>wE hO r j b hj
theorem zRb {r:Rw8} {top:Bool} {i:Nat} (h:begS l r top i=true):i<l.length:=by
 unfold begS at h;rw[Bool.and_eq_true,Bool.and_eq_true] at h;exact qF h.1.2
def InR (N i:Nat) (R:Rs (Option Tr)):Prop:=match R with
 | .inl (none,j)=>j=i
 | .inl (some _,j)=>i<j/\j<=N
 | .inr (p,e)=>i<=p/\p<=N/\(e=6\/e=9)
theorem sI {O:UInt8->Nat->Rs Tr} (hO:OneIn l O) (top:Bool):∀(t:List Rw8) (i:Nat),i<=l.length->InR l.length i (rowsS nk lg l O top t i)
 | [],i,_=>rfl
 | r::t,i,hi=>by
  unfold rowsS
  split
  ·rename_i hb
   have h:=wE (nk:=nk) (lg:=lg) hO r.sh (i+1) ⟨nob,nob,.nil⟩ (zRb hb)
   cases hp:partS nk lg l O r.sh (i+1) ⟨nob,nob,.nil⟩ with
   | inr e=>rw[hp] at h;exact⟨Nat.le_of_succ_le h.1,h.2⟩
   | inl p=>rw[hp] at h;exact⟨h.1,h.2⟩
  ·exact sI hO top t i hi
theorem lS {O:UInt8->Nat->Rs Tr} (hO:OneIn l O) (t:List Rw8) (top:Bool):∀(n i:Nat) (acc:Fr),i<=l.length->In0 l.length i (manyS nk lg l O t top n i acc)
 | 0,i,acc,hi=>⟨Nat.le_refl _,hi,.inl rfl⟩
 | n+1,i,acc,hi=>by
  unfold manyS;have h:=sI (nk:=nk) (lg:=lg) hO top t i hi
  cases hp:rowsS nk lg l O top t i with
  | inr e=>rw[hp] at h;exact h
  | inl p=>
   obtain⟨o,j⟩:=p;rw[hp] at h
   cases o with
   | none=>exact qR (Nat.le_refl _) hi
   | some x=>exact(lS hO t top n j _ h.2).down (Nat.le_of_lt h.1)
theorem lT {S:Nat->Rs Tr} (hS:∀j,j<=l.length->In l.length j (S j)):∀(n:Nat) (m:Tr) (i:Nat),i<=l.length->In0 l.length i (sealS l S n m i)
 | 0,m,i,hi=>⟨Nat.le_refl _,hi,.inl rfl⟩
 | n+1,m,i,hi=>by
  unfold sealS
  split
  ·rename_i hk
   exact(((hS (i+1) (qF hk)).weak).bnd fun s j _ _ hj=>lT hS n _ j hj).down (Nat.le_succ i)
  ·split
   ·rename_i hk
    exact(((hS (i+1) (qF hk)).weak).bnd fun s j _ _ hj=>lT hS n _ j hj).down (Nat.le_succ i)
   ·exact qR (Nat.le_refl _) hi
theorem lU {O:UInt8->Nat->Rs Tr} (hO:OneIn l O):∀(n:Nat) (m:Tr) (i:Nat),i<=l.length->In0 l.length i (zV nk lg l O n m i)
 | 0,m,i,hi=>⟨Nat.le_refl _,hi,.inl rfl⟩
 | n+1,m,i,hi=>by
  unfold zV
  split
  ·rename_i hk
   exact((wE hO _ (i+1) _ (qF hk)).bnd fun s j _ _ hj=>lU hO n _ j hj).down (Nat.le_succ i)
  ·exact qR (Nat.le_refl _) hi
theorem bQ {D:Nat->Rs Fr} (hD:∀j,j<=l.length->In0 l.length j (D j)) (k:Int) {i:Nat} (hi:i<=l.length):In l.length i (kU l D k i):=
 (hD i hi).bndS fun _ _ _ _ hj=>(sF hj).bnd0 fun _ _ _ _ hm=>qR (Nat.le_refl _) hm
theorem sJ {M:Nat->Rs Tr} {D:Nat->Rs Fr} (hM:∀j,j<=l.length->In l.length j (M j)) (hD:∀j,j<=l.length->In0 l.length j (D j)) {i:Nat} (hi:i<=l.length):In l.length i (primS nk lg l M D i):=by
 unfold primS
 split
 ·rename_i hk
  exact(bQ hD 40 (qF hk)).down (Nat.le_succ i)
 ·split
  ·rename_i hk
   exact((qL (hM (i+2) (qF hk))).bnd0 fun _ _ _ _ hj=>qR (Nat.le_refl _) hj).down (by omega)
  ·split
   ·rename_i hk
    exact(qL (hM (i+1) (qF hk))).down (Nat.le_succ i)
   ·exact(qS hi).bnd0 fun _ _ _ _ hj=>qR (Nat.le_refl _) hj
theorem sK {D:Nat->Rs Fr} (hD:∀j,j<=l.length->In0 l.length j (D j)) {i:Nat} (hi:i<=l.length):In l.length i (bodyS nk l D i):=by
 unfold bodyS
 split
 ·rename_i hk
  exact(bQ hD 50 (qF hk)).down (Nat.le_succ i)
 ·exact(qS hi).bnd0 fun _ _ _ _ hj=>qR (Nat.le_refl _) hj
theorem vK {n:Nat} {M S:Nat->Rs Tr} (hM:∀j,j<=l.length->In l.length j (M j)) (hS:∀j,j<=l.length->In l.length j (S j)):OneIn l (oneS (typL nk lg (tks l)) (exprF nk lg l n) M S):=by
 intro c j hj;unfold oneS
 repeat' split
 ·exact kK hj
 ·exact vI hj
 ·exact hM j hj
 ·exact hS j hj
theorem jK:∀(n:Nat),(∀i,i<=l.length->In l.length i (modF nk lg l n i))/\(∀i,i<=l.length->In l.length i (sigF nk lg l n i))/\(∀top i,i<=l.length->In0 l.length i (declF nk lg l n top i))/\(∀i,i<=l.length->In0 l.length i (specF nk lg l n i))
 | 0=>⟨(fun i h=>by rw[modF];exact⟨Nat.le_refl _,h,.inl rfl⟩),(fun i h=>by rw[sigF];exact⟨Nat.le_refl _,h,.inl rfl⟩),(fun t i h=>by rw[declF];exact⟨Nat.le_refl _,h,.inl rfl⟩),(fun i h=>by rw[specF];exact⟨Nat.le_refl _,h,.inl rfl⟩)⟩
 | n+1=>by
  obtain⟨hM,hS,hD,hP⟩:=jK n;refine⟨fun i hi=>?_,fun i hi=>?_,fun top i hi=>?_,fun i hi=>?_⟩
  ·rw[modF]
   exact(sJ hM (fun j hj=>hD false j hj) hi).bnd0 fun m j _ _ hj=>lT hS _ _ j hj
  ·rw[sigF]
   exact(sK hP hi).bnd0 fun m j _ _ hj=>lU (vK hM hS) _ _ j hj
  ·rw[declF]
   exact lS (vK hM hS) declR top _ i _ hi
  ·rw[specF]
   exact lS (vK hM hS) specR false _ i _ hi
theorem lV {n i:Nat} (hi:i<=l.length):In l.length i (modF nk lg l n i):=(jK n).1 i hi
theorem iD {n i:Nat} (hi:i<=l.length):In l.length i (sigF nk lg l n i):=(jK n).2.1 i hi
theorem xW {n i:Nat} {top:Bool} (hi:i<=l.length):In0 l.length i (declF nk lg l n top i):=(jK n).2.2.1 top i hi
end
end Go.Proofs.YtgeghilbikljcaaGreatDoor
namespace Go.Proofs.YtgeghilbikljcaaGreatDoor
section
variable {nk lg:ByteArray->Bool}
structure Ok8 (nk lg:ByteArray->Bool) (c:Int) (i:Nat) (t:Tr) (j:Nat):Prop where
 is:isT nk lg t c=true
 sz:szT t+1+2*i<=2*j
def vP (nk lg:ByteArray->Bool) (c:Int) (i:Nat) (R:Rs Tr):Prop:=∀t j,R = .inl (t,j)->Ok8 nk lg c i t j
def dC (nk lg:ByteArray->Bool):List UInt8->Pa->Nat->Pa->Nat->Prop
 | [],a,i,p,j=>a=p/\i=j
 | c::r,a,i,p,j=>
  if c=110 then ∃s,nk s=true/\dC nk lg r ⟨s,a.mrk,a.ks⟩ (i+1) p j
  else if c=78 then ∃s,nk s=true/\dC nk lg r ⟨a.nm,s,a.ks⟩ (i+1) p j
  else if c=108 then ∃s,lg s=true/\dC nk lg r ⟨s,a.mrk,a.ks⟩ (i+1) p j
  else if c=76 then ∃s,lg s=true/\dC nk lg r ⟨a.nm,s,a.ks⟩ (i+1) p j
  else if c=99 then ∃k m,(ConOk nk lg k/\k.sz+i<=m/\0<k.len)/\dC nk lg r ⟨a.nm,a.mrk,a.ks.app k⟩ m p j
  else if c=116\/c=101\/c=109\/c=115 then ∃t m,Ok8 nk lg (catOf c) i t m/\dC nk lg r ⟨a.nm,a.mrk,a.ks.app (fr1 t)⟩ m p j
  else dC nk lg r a (i+1) p j
def gY (nk lg:ByteArray->Bool) (O:UInt8->Nat->Rs Tr):Prop:=∀c i,c=116\/c=101\/c=109\/c=115->vP nk lg (catOf c) i (O c i)
variable {l:List Te}
theorem nG {p:ByteArray->Bool} {i m:Nat} {s:ByteArray} (h:nameQ p (tks l) i [] = .inl (s,m)):p s=true/\m=i+1:=⟨(jN h).2.1,(jN h).2.2.2⟩
theorem lW {O:UInt8->Nat->Rs Tr} (hO:gY nk lg O):∀(sh:List UInt8) (i:Nat) (a p:Pa) (j:Nat),partS nk lg l O sh i a = .inl (p,j)->dC nk lg sh a i p j
 | [],i,a,p,j,h=>by
  unfold partS at h;injection h with h;injection h with h1 h2;exact⟨h1,h2⟩
 | c::r,i,a,p,j,h=>by
  unfold partS at h;obtain⟨b,m,h1,h2⟩:=qD h;have ih:=lW hO r m b p j h2;unfold stepS at h1;unfold dC
  split at h1
  ·rename_i hc
   rw[if_pos hc];obtain⟨s,q,h3,h4⟩:=qD h1;injection h4 with h4;injection h4 with h5 h6;subst h5;subst h6;obtain⟨hs,rfl⟩:=nG h3;exact⟨s,hs,ih⟩
  ·rename_i hc
   rw[if_neg hc]
   split at h1
   ·rename_i hc
    rw[if_pos hc];obtain⟨s,q,h3,h4⟩:=qD h1;injection h4 with h4;injection h4 with h5 h6;subst h5;subst h6;obtain⟨hs,rfl⟩:=nG h3;exact⟨s,hs,ih⟩
   ·rename_i hc
    rw[if_neg hc]
    split at h1
    ·rename_i hc
     rw[if_pos hc];obtain⟨s,q,h3,h4⟩:=qD h1;injection h4 with h4;injection h4 with h5 h6;subst h5;subst h6;obtain⟨hs,rfl⟩:=nG h3;exact⟨s,hs,ih⟩
    ·rename_i hc
     rw[if_neg hc]
     split at h1
     ·rename_i hc
      rw[if_pos hc];obtain⟨s,q,h3,h4⟩:=qD h1;injection h4 with h4;injection h4 with h5 h6;subst h5;subst h6;obtain⟨hs,rfl⟩:=nG h3;exact⟨s,hs,ih⟩
     ·rename_i hc
      rw[if_neg hc]
      split at h1
      ·rename_i hc
       rw[if_pos hc];obtain⟨k,q,h3,h4⟩:=qD h1;injection h4 with h4;injection h4 with h5 h6;subst h5;subst h6;obtain⟨k1,k2,k3⟩:=(tV (nk:=nk) (lg:=lg) (tks l) _).2.2.2 i .nil ConOk.nil k q h3;exact⟨k,q,⟨k1,by have:Fr.nil.sz=0:=rfl;omega,k3⟩,ih⟩
      ·rename_i hc
       rw[if_neg hc]
       split at h1
       ·rename_i hc
        rw[if_pos hc];obtain⟨t,q,h3,h4⟩:=qD h1;injection h4 with h4;injection h4 with h5 h6;subst h5;subst h6;exact⟨t,q,hO c i hc t q h3,ih⟩
       ·rename_i hc
        rw[if_neg hc];obtain⟨u,q,h3,h4⟩:=qD h1;injection h4 with h4;injection h4 with h5 h6;subst h5;subst h6;have e:q=i+1:=jE _ _ _ h3;subst e;exact ih
theorem wI {x:Nod} {f:Fr} {c:Int} (r:Rw) (hr:r∈RWS) (h1:r.cat=c) (h2:r.kind=x.k) (h3:wordR nk lg x.a r.nm=true) (h4:wordR nk lg x.m r.mr=true) (h5:r.fr<=x.n) (h6:x.n<=r.toF) (h7:seqOk (infF nk lg f) r.ks=true):isT nk lg (x,f) c=true:=
 qT.2 ⟨r,hr,qU.2 ⟨h1,h2,h3,h4,h5,h6,h7⟩⟩
theorem zYf {a:Tr} {c:UInt8} (hc:c=116\/c=101\/c=109\/c=115) (ha:isT nk lg a (catOf c)=true):seqOk (infF nk lg (fr1 a)) [c]=true:=by
 rcases hc with rfl | rfl | rfl | rfl<;>(refine Bool.and_eq_true_iff.2 ⟨ha,rfl⟩)
theorem zN4 {a b:Tr} {c d:UInt8} (hc:c=116\/c=101\/c=109\/c=115) (ha:isT nk lg a (catOf c)=true) (hd:d=116\/d=101\/d=109\/d=115) (hb:isT nk lg b (catOf d)=true):seqOk (infF nk lg (fr2 a b)) [c,d]=true:=by
 rcases hc with rfl | rfl | rfl | rfl<;>(refine Bool.and_eq_true_iff.2 ⟨ha,zYf hd hb⟩)
theorem seqC {k:Fr} (hk:ConOk nk lg k) (h0:0<k.len):seqOk (infF nk lg k) [67]=true:=by
 have hl:=tO (nk:=nk) (lg:=lg) k;obtain⟨h1,h2⟩:=hk;have e:seqOk (infF nk lg k) [67]=(!(infF nk lg k).isEmpty&&((infF nk lg k).all fun i=>i.is 8)&&jV (infF nk lg k)):=by cases infF nk lg k<;>rfl
 rw[e,h1,h2]
 cases hq:infF nk lg k with
 | nil=>rw[hq] at hl;simp at hl;omega
 | cons i t=>rfl
end
end Go.Proofs.YtgeghilbikljcaaGreatDoor
namespace Go.Proofs.YtgeghilbikljcaaGreatDoor
theorem kZ {α β γ:Type} (X:Rs α) (f:α->Nat->Rs β) (g:β->Nat->Rs γ):thn (thn X f) g=thn X fun a j=>thn (f a j) g:=by cases X<;>rfl
theorem lY {α β:Type} (a:α) (j:Nat) (f:α->Nat->Rs β):thn (.inl (a,j)) f=f a j:=rfl
section
variable (nk lg:ByteArray->Bool) (l:List Te)
def leafR (p:ByteArray->Bool) (k:Int) (i:Nat):Rs Tr:=thn (nameQ p (tks l) i []) fun s m=>.inl (nd k s .nil,m)
def wrapR (k:Int) (R:Nat->Rs Tr) (i:Nat):Rs Tr:=thn (R i) fun t m=>.inl (nd k nob (fr1 t),m)
def behR (x:ByteArray) (R:Nat->Rs Tr) (i:Nat):Rs Tr:=thn (keysL (tks l) i [x]) fun _ j=>R j
def bindR (k:Int) (x:ByteArray) (R:Nat->Rs Tr) (i:Nat):Rs Tr:=thn (nameQ nk (tks l) i []) fun s j=>thn (behR l x R j) fun t m=>.inl (nd k s (fr1 t),m)
def lZ (i:Nat):Rs Tr:=thn (keysL (tks l) i [kType]) fun _ j=>thn (nameQ lg (tks l) j []) fun s j=>thn (keysL (tks l) j [kEq]) fun _ j=>thn (nameQ lg (tks l) j []) fun a m=>.inl ((⟨65,0,s,a⟩,.nil),m)
def nH (T:Nat->Rs Tr) (i:Nat):Rs Tr:=thn (nameQ nk (tks l) i []) fun s j=>if key (tks l) j kEq=true then thn (behR l kEq T j) fun t m=>.inl (nd 61 s (fr1 t),m) else .inl (nd 61 s .nil,j)
def dataR (k:Int) (C:Nat->Rs Fr) (i:Nat):Rs Tr:=thn (nameQ nk (tks l) i []) fun s j=>thn (keysL (tks l) j [kEq]) fun _ j=>thn (C j) fun f m=>.inl (nd k s f,m)
def valR (T E:Nat->Rs Tr) (i:Nat):Rs Tr:=thn (nameQ nk (tks l) i []) fun s j=>if key (tks l) j qH=true then thn (behR l qH T j) fun t j=>thn (behR l kEq E j) fun x m=>.inl (nd 70 s (fr2 t x),m) else thn (behR l kEq E j) fun x m=>.inl (nd 70 s (fr1 x),m)
def nI (M S:Nat->Rs Tr) (i:Nat):Rs Tr:=thn (nameQ nk (tks l) i []) fun s j=>thn (keysL (tks l) j [kOpen]) fun _ j=>thn (nameQ nk (tks l) j []) fun a j=>thn (behR l qH S j) fun t j=>thn (keysL (tks l) j [kShut]) fun _ j=>thn (behR l kEq M j) fun u m=>.inl ((⟨75,0,s,a⟩,fr2 t u),m)
def someR (R:Nat->Rs Tr) (i:Nat):Rs (Option Tr):=thn (R i) fun t m=>.inl (some t,m)
def specP (T S:Nat->Rs Tr) (C:Nat->Rs Fr) (i:Nat):Rs (Option Tr):=
 if key (tks l) i kVal=true then someR (bindR nk l 60 qH T) (i+1)
 else if key (tks l) i kType=true then someR (nH nk l T) (i+1)
 else if key (tks l) i kData=true then someR (dataR nk l 62 C) (i+1)
 else if key (tks l) i qW=true then someR (bindR nk l 63 qH S) (i+1)
 else if key (tks l) i zP=true then someR (wrapR 64 S) (i+1)
 else if key (tks l) i jY=true then someR (lZ lg l) (i+1)
 else .inl (none,i)
def declP (T E M S:Nat->Rs Tr) (C:Nat->Rs Fr) (top:Bool) (i:Nat):Rs (Option Tr):=
 if key (tks l) i kVal=true then someR (valR nk l T E) (i+1)
 else if key (tks l) i kType=true then someR (bindR nk l 71 kEq T) (i+1)
 else if key (tks l) i kData=true then someR (dataR nk l 72 C) (i+1)
 else if key (tks l) i qW=true then someR (bindR nk l 73 kEq M) (i+1)
 else if key (tks l) i wD=true then someR (leafR l lg 76) (i+1)
 else if key (tks l) i zP=true then someR (leafR l lg 77) (i+1)
 else if (top&&key (tks l) i yX)=true then someR (bindR nk l 74 kEq S) (i+1)
 else if (top&&key (tks l) i jF)=true then someR (nI nk l M S) (i+1)
 else .inl (none,i)
end
section
variable {nk lg:ByteArray->Bool} {l:List Te} {O:UInt8->Nat->Rs Tr}
theorem zRc (i:Nat) (a:Pa):stepS nk lg l O 110 i a=thn (nameQ nk (tks l) i []) fun s j=>.inl (⟨s,a.mrk,a.ks⟩,j):=rfl
theorem zKd (i:Nat) (a:Pa):stepS nk lg l O 78 i a=thn (nameQ nk (tks l) i []) fun s j=>.inl (⟨a.nm,s,a.ks⟩,j):=rfl
theorem zYg (i:Nat) (a:Pa):stepS nk lg l O 108 i a=thn (nameQ lg (tks l) i []) fun s j=>.inl (⟨s,a.mrk,a.ks⟩,j):=rfl
theorem zKe (i:Nat) (a:Pa):stepS nk lg l O 76 i a=thn (nameQ lg (tks l) i []) fun s j=>.inl (⟨a.nm,s,a.ks⟩,j):=rfl
theorem zRd (i:Nat) (a:Pa):stepS nk lg l O 99 i a=thn (consL nk lg (tks l) i .nil) fun k j=>.inl (⟨a.nm,a.mrk,a.ks.app k⟩,j):=rfl
theorem zYh (i:Nat) (a:Pa):stepS nk lg l O 116 i a=thn (O 116 i) fun t j=>.inl (⟨a.nm,a.mrk,a.ks.app (fr1 t)⟩,j):=rfl
theorem zKf (i:Nat) (a:Pa):stepS nk lg l O 101 i a=thn (O 101 i) fun t j=>.inl (⟨a.nm,a.mrk,a.ks.app (fr1 t)⟩,j):=rfl
theorem zKg (i:Nat) (a:Pa):stepS nk lg l O 109 i a=thn (O 109 i) fun t j=>.inl (⟨a.nm,a.mrk,a.ks.app (fr1 t)⟩,j):=rfl
theorem zRe (i:Nat) (a:Pa):stepS nk lg l O 115 i a=thn (O 115 i) fun t j=>.inl (⟨a.nm,a.mrk,a.ks.app (fr1 t)⟩,j):=rfl
theorem iE (i:Nat) (a:Pa):stepS nk lg l O 61 i a=thn (keysL (tks l) i [kEq]) fun _ j=>.inl (a,j):=rfl
theorem zW8 (i:Nat) (a:Pa):stepS nk lg l O 58 i a=thn (keysL (tks l) i [qH]) fun _ j=>.inl (a,j):=rfl
theorem zN5 (i:Nat) (a:Pa):stepS nk lg l O 40 i a=thn (keysL (tks l) i [kOpen]) fun _ j=>.inl (a,j):=rfl
theorem zN6 (i:Nat) (a:Pa):stepS nk lg l O 41 i a=thn (keysL (tks l) i [kShut]) fun _ j=>.inl (a,j):=rfl
theorem zRf (i:Nat) (a:Pa):stepS nk lg l O 84 i a=thn (keysL (tks l) i [kType]) fun _ j=>.inl (a,j):=rfl
theorem rD (i:Nat) (a:Pa):partS nk lg l O [] i a = .inl (a,i):=rfl
theorem nJ (c:UInt8) (r:List UInt8) (i:Nat) (a:Pa):partS nk lg l O (c::r) i a=thn (stepS nk lg l O c i a) fun b j=>partS nk lg l O r j b:=rfl
theorem zN7 {i:Nat} {x:ByteArray} (p:ByteArray->Bool) (h:key (tks l) i x=true):nam p (tks l) i=none:=by
 unfold key at h;unfold nam
 split at h
 ·rename_i t ht
  rw[Bool.and_eq_true] at h;have h2:=of_decide_eq_true h.1;have e:decide (t.k=1)=false:=decide_eq_false (by omega);simp only[e]
  rfl
 ·cases h
theorem zW9 (r:Rw8) (t:List Rw8) (top:Bool) (i:Nat):rowsS nk lg l O top (r::t) i=if begS l r top i=true then thn (partS nk lg l O r.sh (i+1) ⟨nob,nob,.nil⟩) fun p j=>.inl (some (⟨r.k,0,p.nm,p.mrk⟩,p.ks),j) else rowsS nk lg l O top t i:=rfl
theorem zWa {β:Type} (x:ByteArray) (A B:ByteArray->Nat->Rs β) (i:Nat):(if key (tks l) (i+1) x=true then thn (nameQ nk (tks l) i []) A else thn (nameQ nk (tks l) i []) B)=thn (nameQ nk (tks l) i []) fun s j=>if key (tks l) j x=true then A s j else B s j:=by
 unfold nameQ
 cases nam nk (tks l) i with
 | none=>split<;>rfl
 | some s=>rfl
theorem zWb (k:Fr):Fr.nil.app k=k:=rfl
theorem zRg (a b:Tr):(fr1 a).app (fr1 b)=fr2 a b:=rfl
theorem zRh {β:Type} (A F:Bool) (X Y Z:β):(if (A&&F)=true then X else if A=true then Y else Z)=if A=true then (if F=true then X else Y) else Z:=by cases A<;>cases F<;>rfl
theorem zRi {α β:Type} (c:Bool) (X Y:Rs α) (f:α->Nat->Rs β):thn (if c=true then X else Y) f=if c=true then thn X f else thn Y f:=by cases c<;>rfl
theorem vQ {k:Int} (top a:Bool) (h:(decide (74<=k)&&decide (k<=75))=false):(!(decide (74<=k)&&decide (k<=75) && !top)&&a)=a:=by rw[h];rfl
theorem zRj {k:Int} (top a:Bool) (h:(decide (74<=k)&&decide (k<=75))=true):(!(decide (74<=k)&&decide (k<=75) && !top)&&a)=(top&&a):=by rw[h];cases top<;>rfl
theorem uR (top:Bool) (i:Nat):rowsS nk lg l O top [] i = .inl (none,i):=rfl
theorem zYi (i:Nat):rowsS nk lg l O false specR i=specP nk lg l (O 116) (O 115) (fun j=>consL nk lg (tks l) j .nil) i:=by
 unfold specR specP someR bindR nH dataR wrapR lZ behR;simp only[zW9,begS,fitS,kZ,lY,nJ,rD,zRc,zYg,zKe,zRd,zYh,zRe,iE,zW8,zRf,zWb];rw[vQ (k:=60) _ _ rfl,vQ (k:=61) _ _ rfl,vQ (k:=62) _ _ rfl,vQ (k:=63) _ _ rfl,vQ (k:=64) _ _ rfl,vQ (k:=65) _ _ rfl];simp only[Bool.and_true,zRh,zWa,zRi,kZ,lY,uR,nd]
theorem zYj (top:Bool) (i:Nat):rowsS nk lg l O top declR i=declP nk lg l (O 116) (O 101) (O 109) (O 115) (fun j=>consL nk lg (tks l) j .nil) top i:=by
 unfold declR declP someR bindR valR dataR leafR nI behR;simp only[zW9,begS,fitS,kZ,lY,nJ,rD,zRc,zKd,zYg,zRd,zYh,zKf,zKg,zRe,iE,zW8,zN5,zN6,zWb,zRg];rw[vQ (k:=70) _ _ rfl,vQ (k:=71) _ _ rfl,vQ (k:=72) _ _ rfl,vQ (k:=73) _ _ rfl,vQ (k:=76) _ _ rfl,vQ (k:=77) _ _ rfl,zRj (k:=74) _ _ rfl,zRj (k:=75) _ _ rfl];simp only[Bool.and_true,zRh,zWa,zRi,kZ,lY,uR,nd]
end
def valD {α:Type} (d:α) (R:Rs α):α:=match R with
 | .inl r=>r.1
 | .inr _=>d
theorem yD {α:Type} (d:α) {R:Rs α} {a:α} {j:Nat} (h:R = .inl (a,j)):valD d R=a:=by rw[h];rfl
theorem yA {α β:Type} {R:Nat->Rs α} {f:α->Nat->Rs β} (d:α) {s:SS} (hne:s.2=0->NeO (R s.1)):at0 (fun i=>thn (R i) f) s=at0 (f (valD d (at0 R s))) (stO (at0 R s)):=by
 obtain⟨i,e⟩:=s
 by_cases he:e=0
 ·subst he
  rw[qG,qG]
  cases hR:R i with
  | inl r=>exact(qG (f r.1) r.2).symm
  | inr r=>
   obtain⟨p,er⟩:=r;exact(qM _ (show ¬(p,er).2=0 from hne rfl p er hR)).symm
 ·rw[qM _ (show ¬(i,e).2=0 from he),qM _ (show ¬(i,e).2=0 from he)]
  exact(qM _ (show ¬(i,e).2=0 from he)).symm
theorem zKh {α:Type} {R:Nat->Rs α} {s:SS} (hne:s.2=0->NeO (R s.1)) (h:(stO (at0 R s)).2=0):s.2=0/\∃a j,at0 R s = .inl (a,j):=by
 obtain⟨i,e⟩:=s
 by_cases he:e=0
 ·subst he
  refine⟨rfl,?_⟩;rw[qG] at h ⊢
  cases hR:R i with
  | inl r=>exact⟨r.1,r.2,rfl⟩
  | inr r=>
   rw[hR] at h;exact absurd h (hne rfl r.1 r.2 hR)
 ·rw[qM _ (show ¬(i,e).2=0 from he)] at h
  exact absurd h he
theorem yY {α:Type} (a:α) (s:SS) {b:α} {j:Nat} (h:at0 (fun m=>.inl (a,m)) s = .inl (b,j)):s.2=0/\b=a:=by
 unfold at0 at h
 split at h
 ·rename_i h0
  injection h with h;injection h with h1 h2;exact⟨h0,h1.symm⟩
 ·cases h
theorem qY {α:Type} (a:α) (s:SS):stO (at0 (fun m=>.inl (a,m)) s)=s:=by
 obtain⟨i,e⟩:=s;unfold at0
 split
 ·rename_i h0
  have h0:e=0:=h0;subst h0
  rfl
 ·rfl
section
variable {l:List Tk}
theorem jB {β:Type} (x:ByteArray) (f:Unit->Nat->Rs β) (s:SS):at0 (fun i=>thn (keysL l i [x]) f) s=at0 (f ()) (kS l x s):=by
 rw[yA (R:=fun i=>keysL l i [x]) (d:=()) fun _=>xG _ _]
 congr 1
 obtain⟨i,e⟩:=s
 by_cases he:e=0
 ·subst he
  rw[qG];exact xV x i
 ·rw[qM _ (show ¬(i,e).2=0 from he),yR l x (i,e) he]
  rfl
theorem yJ {β:Type} (p:ByteArray->Bool) (f:ByteArray->Nat->Rs β) (s:SS):at0 (fun i=>thn (nameQ p l i []) f) s=at0 (f (nmS (nam p l s.1) s.2)) (nS p l s):=by
 obtain⟨i,e⟩:=s
 by_cases he:e=0
 ·subst he
  rw[qG];unfold nameQ nS nmS nmI nmE;simp only
  cases nam p l i with
  | none=>exact(qM _ (show ¬(i,(6:Int)).2=0 by show ¬(6:Int)=0;decide)).symm
  | some x=>exact(qG (f x) (i+1)).symm
 ·rw[qM _ (show ¬(i,e).2=0 from he),uN p l (i,e) he]
  exact(qM _ (show ¬(i,e).2=0 from he)).symm
theorem zYk {β:Type} (x:ByteArray) (A B:Nat->Rs β) (s:SS):at0 (fun i=>if key l i x=true then A i else B i) s=if tkB l s.1 s.2 x=true then at0 A s else at0 B s:=by
 obtain⟨i,e⟩:=s
 by_cases he:e=0
 ·subst he
  show at0 _ (i,0)=if tkB l i 0 x=true then at0 A (i,0) else at0 B (i,0)
  rw[qG,qG,qG,qQ]
 ·show at0 _ (i,e)=if tkB l i e x=true then at0 A (i,e) else at0 B (i,e)
  rw[zE he,qM _ (show ¬(i,e).2=0 from he),if_neg Bool.false_ne_true,qM _ (show ¬(i,e).2=0 from he)]
theorem zRk {i:Nat} {x y:ByteArray} (h:key l i x=true) (hxy:¬x=y):key l i y=false:=by
 unfold key at *
 split at h
 ·rename_i t ht
  rw[Bool.and_eq_true] at h;have h2:=of_decide_eq_true h.2;simp only[Bool.and_eq_false_iff]
  right
  exact decide_eq_false fun e=>hxy (h2.symm.trans e)
 ·cases h
end
end Go.Proofs.YtgeghilbikljcaaGreatDoor
namespace Go.Proofs.YtgeghilbikljcaaGreatDoor
open Go.RowKit
theorem zKi (b:Nat) (v:Value) (i:Nat) (e:Int) (x:Value) (d:Bool) (w:World) (cS:∀w',Up w w'->Calls Tryz.prog 265 #[v,.int .i64 (i:Int)] w' (AnP x d w')) (h:Psr w b v i e) :
  Calls Tryz.prog 268 #[.pointer (some ⟨b,0,none⟩),.func (.func 265) #[] #[]] w (AnP (if e=0 then x else .int .i64 0) (decide (e=0)&&d) w):=by
 obtain⟨c0,c1,c2,f1,f2⟩:=h.cells;have hb:b<w.heap.size:=qC h;clear h f1 f2
 by_cases he:e=0
 ·subst he
  have c0u:∀u:Upw w,u.w.cell? ⟨b,0,none⟩=some v:=Upw.cell c0;have c1u:∀u:Upw w,u.w.cell? ⟨b,1,none⟩=some (.int .i64 (i:Int)):=Upw.cell c1;have CK:∀u:Upw w,Calls Tryz.prog 265 #[v,.int .i64 (i:Int)] u.w fun e w'=>e = .returned (.tuple #[x,.bool d])/\Up w w':=fun u=>(cS u.w u.h).mono fun e w' ⟨h1,h2⟩=>⟨h1,u.h.trans h2⟩
  have HK:=Lib.hid CK;have U0:=Lib.hid (Up.refl w);have HD:Hid ((decide ((0:Int)=0)&&d)=d):=Lib.hid (by rw[decide_eq_true rfl,Bool.true_and]);rw[if_pos rfl,HD.out];clear CK cS c0 c1
  go_enter Tryz.func268,Tryz.ntmps268
  go_wp2_with fail;refine zT (W:=w) U0.out (by kernel_rfl) (by kernel_rfl) ?_
  repeat (go_big_quiet_step (first
   | (go_at_call 265;exact Calls.upw (HK.out _))))
  refine wpQuiet_nil ?_;rintro _ ⟨⟨w9,u9⟩,rfl⟩;go_wp2_with fail
  go_ret2
  exact⟨rfl,u9⟩
 ·have HD:Hid ((decide (e=0)&&d)=false):=Lib.hid (by rw[decide_eq_false he,Bool.false_and])
  rw[if_neg he,HD.out];clear cS c0 c1
  go_enter Tryz.func268,Tryz.ntmps268
  go_wp2_with fail
  go_ret2
  exact⟨rfl,Up.refl _⟩
def PkPi (b:Nat) (v:Value) (x:Value) (d:Bool) (i:Nat) (e:Int) (w:World) (en:Ending) (w':World):Prop:=en = .returned (.tuple #[x,.bool d])/\Gs (On b) w w'/\Psr w' b v (if d then i+1 else i) e
theorem zKj (b:Nat) (v F:Value) (i:Nat) (e:Int) (x:Value) (d:Bool) (w:World) (cL:Calls Tryz.prog 268 #[.pointer (some ⟨b,0,none⟩),F] w (AnP x d w)) (h:Psr w b v i e) (hi:i<=1000000) :
  Calls Tryz.prog 264 #[.pointer (some ⟨b,0,none⟩),F] w (PkPi b v x d i e w):=by
 have hb:b<w.heap.size:=qC h;have H:=Lib.hid h;have hw:IntKind.i64.wrap ((i:Int)+1)=(i:Int)+1:=by rw[IntKind.wrap_i64];omega
 clear h
 cases d with
 | false=>
  go_enter Tryz.func264,Tryz.ntmps264
  go_wp2_with fail;refine cL.mono ?_;rintro en w1 ⟨rfl,u1⟩;go_wp2_with fail
  go_ret2
  exact⟨rfl,Gs.of u1,H.out.up u1⟩
 | true=>
  go_enter Tryz.func264,Tryz.ntmps264
  go_wp2_with fail;refine cL.mono ?_;rintro en w1 ⟨rfl,u1⟩;have h1:=H.out.up u1;obtain⟨d0,d1,d2,g1,g2⟩:=h1.cells;have H1:=Lib.hid h1;have U1:=Lib.hid u1;clear u1 h1 d0 g2;go_wp2_with fail
  go_ret2
  exact⟨rfl,(Gs.of U1.out).set _ _ (.inl rfl),H1.out.at _ _ (by rw[if_pos rfl];omega)⟩
def opV:Array Value:=#[.string kPlus,.int .i64 1,.int .i64 2,.int .i64 2,.int .i64 3,.string lJ,.int .i64 2,.int .i64 2,.int .i64 2,.int .i64 3,.string kStar,.int .i64 3,.int .i64 3,.int .i64 3,.int .i64 4,.string kEq,.int .i64 4,.int .i64 1,.int .i64 2,.int .i64 2,.string kLess,.int .i64 5,.int .i64 1,.int .i64 2,.int .i64 2]
def Op7 (w:World):Prop:=∃t z,w.heap[7]? = some (.cells opV t z)
theorem Op7.up {w w':World} (h:Op7 w) (u:Up w w'):Op7 w':=by
 obtain⟨t,z,h⟩:=h;exact⟨t,z,u.row h⟩
def opSg:Nat->ByteArray
 | 0=>kPlus
 | 1=>lJ
 | 2=>kStar
 | 3=>kEq
 | _=>kLess
def opRu:Nat->Int
 | 0=>2
 | 1=>2
 | 2=>3
 | _=>1
def opLe:Nat->Int
 | 0=>2
 | 1=>2
 | 2=>3
 | _=>2
def opRi:Nat->Int
 | 0=>3
 | 1=>3
 | 2=>4
 | _=>2
theorem zKk:∀k:Nat,k<5->∀w:World,(Instr.index 231 (.agg opV) (.int .i64 (k:Int))).run Tryz.prog w = .ok (.agg #[.string (opSg k),.int .i64 ((k+1:Nat):Int),.int .i64 (opRu k),.int .i64 (opLe k),.int .i64 (opRi k)]) w
 | 0,_,_=>by kernel_rfl
 | 1,_,_=>by kernel_rfl
 | 2,_,_=>by kernel_rfl
 | 3,_,_=>by kernel_rfl
 | 4,_,_=>by kernel_rfl
 | k+5,h,_=>absurd h (by omega)
def uS (p:Nat->Bool):Option Nat:=if p 0 then some 0 else if p 1 then some 1 else if p 2 then some 2 else if p 3 then some 3 else if p 4 then some 4 else none
theorem zVu {p:Nat->Bool} {k:Nat} (hk:k<5) (hp:p k=true) (hn:∀j,j<k->p j=false):uS p=some k:=by
 unfold uS;obtain rfl | rfl | rfl | rfl | rfl:k=0\/k=1\/k=2\/k=3\/k=4:=by omega
 ·rw[hp];rfl
 ·rw[hn 0 (by omega),hp];rfl
 ·rw[hn 0 (by omega),hn 1 (by omega),hp];rfl
 ·rw[hn 0 (by omega),hn 1 (by omega),hn 2 (by omega),hp];rfl
 ·rw[hn 0 (by omega),hn 1 (by omega),hn 2 (by omega),hn 3 (by omega),hp];rfl
theorem wS {p:Nat->Bool} (hn:∀j,j<5->p j=false):uS p=none:=by
 unfold uS;rw[hn 0 (by omega),hn 1 (by omega),hn 2 (by omega),hn 3 (by omega),hn 4 (by omega)]
 rfl
def opT (l:List Tk) (rl:Int) (i:Nat) (e:Int) (k:Nat):Bool:=decide (opRu k=rl)&&tkB l i e (opSg k)
def opQ (l:List Tk) (rl:Int) (i:Nat) (e:Int):Option Nat:=uS (opT l rl i e)
theorem zRl {l:List Tk} {rl:Int} {i:Nat} {e:Int} (h:¬e=0):opQ l rl i e=none:=wS fun j _=>by unfold opT;rw[zE h,Bool.and_false]
def opI (q:Option Nat) (i:Nat):Nat:=match q with
 | some _=>i+1
 | none=>i
def opK (q:Option Nat):Int:=match q with
 | some k=>((k+1:Nat):Int)
 | none=>0
def OpP (b:Nat) (v:Value) (q:Option Nat) (i:Nat) (e:Int) (w:World) (en:Ending) (w':World):Prop:=en = .returned (.tuple #[.int .i64 (opK q),.bool q.isSome])/\Gs (On b) w w'/\Psr w' b v (opI q i) e
section
variable {nk lg:ByteArray->Bool}
theorem gZ {V0:World} {l:List Tk} (b:Nat) (v:Value) (i:Nat) (e:Int) (rl:Int) (w:World) (T:Toks nk lg V0 v l) (h:Psr w b v i e) (hu:Up V0 w) (hbW:V0.heap.size<=b) (hO:Op7 w) (hi:i<=1000000) :
  Calls Tryz.prog 237 #[.agg #[.pointer (some ⟨b,0,none⟩)],.int .i64 rl] w (OpP b v (opQ l rl i e) i e w):=by
 obtain⟨tp,zp,hpl⟩:=hO;have hb:b<w.heap.size:=qC h;have hpw:7<w.heap.size:=qC hpl;have H:=Lib.hid h;have HU:=Lib.hid hu;have HT:=Lib.hid T;have hpl2:(w.alloc (.cells #[.pointer (some ⟨b,0,none⟩)] 183)).heap[7]? = some (.cells opV tp zp):=((Up.refl w).alloc _).row hpl;obtain⟨q,hq⟩:∃q,opQ l rl i e=q:=⟨_,rfl⟩;have HQ:=Lib.hid hq;rw[hq];clear h hpl hu T hq
 go_enter Tryz.func237,Tryz.ntmps237
 go_wp2_with (refine wpList_load_row rfl 231 (.global 7) rfl 7 rfl tp opV zp _ hpl2 Tryz.underlying231 rfl (by kernel_rfl) ?_)
 generalize hA:opV=AR
 have HAR:=Lib.hid hA;obtain⟨W0,hW0⟩:∃W0,w.alloc (.cells #[.pointer (some ⟨b,0,none⟩)] 183)=W0:=⟨_,rfl⟩;have z0:W0.heap.size=w.heap.size+1:=by rw[<- hW0];simp
 have b1:W0.heap[w.heap.size]? = some (.cells #[.pointer (some ⟨b,0,none⟩)] 183 (0,0)):=by rw[<- hW0];exact heap_alloc_new w _
 have u0:Up w W0:=by rw[<- hW0];exact(Up.refl w).alloc _
 have B1:=Lib.hid b1;have UZ:=Lib.hid u0;rw[hW0];clear hA hpl2 hW0 b1 u0
 go_loopw [9] (fun x wr=>∃k:Nat,k<=5/\x = .int .i64 (k:Int)/\Gs (On b) W0 wr/\Psr wr b v i e/\∀j,j<k->opT l rl i e j=false) (fun x _=>6-(intOf x).toNat)
 case atStart=>exact⟨0,Nat.zero_le _,rfl,Gs.refl _ _,H.out.up UZ.out,fun j hj=>absurd hj (by omega)⟩
 case round=>
  obtain⟨k,hk,rfl,hg,ps,hno⟩:=hrel;have hgs:=hg.size;have hur:Up V0 wr:=hg.up (HU.out.trans UZ.out) (fun q hq=>by rw[hq];exact hbW);have r1:wr.heap[w.heap.size]? = some (.cells #[.pointer (some ⟨b,0,none⟩)] 183 (0,0)):=hg.row B1.out (by unfold On;omega);have c1:wr.cell? ⟨w.heap.size,0,none⟩=some (.pointer (some ⟨b,0,none⟩)):=cell_of_row wr w.heap.size 0 _ _ _ r1;have hbw:w.heap.size<wr.heap.size:=by omega
  have HNO:=Lib.hid hno;clear hno r1
  by_cases hlt:k<5
  ·have hix:∀W,(Instr.index 231 (.agg AR) (.int .i64 (k:Int))).run Tryz.prog W = .ok (.agg #[.string (opSg k),.int .i64 ((k+1:Nat):Int),.int .i64 (opRu k),.int .i64 (opLe k),.int .i64 (opRi k)]) W:=fun W=>by rw[<- HAR.out];exact zKk k hlt W
   have hw:IntKind.i64.wrap ((k:Int)+1)=((k+1:Nat):Int):=by rw[IntKind.wrap_i64];omega
   have hkz:(k:Int)<5:=by omega
   obtain⟨X,hX⟩:∃X,opSg k=X:=⟨_,rfl⟩;obtain⟨ka,hka⟩:∃ka,((k+1:Nat):Int)=ka:=⟨_,rfl⟩;obtain⟨le,hle⟩:∃le,opLe k=le:=⟨_,rfl⟩;obtain⟨ri,hri⟩:∃ri,opRi k=ri:=⟨_,rfl⟩;have HX:=Lib.hid hX;have HKA:=Lib.hid hka
   by_cases hr:opRu k=rl
   ·have HRU:=Lib.hid hr
    rw[hX,hka,hle,hri,hr] at hix;rw[hka] at hw;obtain⟨Wr,hWr⟩:∃Wr,wr.alloc (.cells #[.string X,.int .i64 ka,.int .i64 rl,.int .i64 le,.int .i64 ri] 230)=Wr:=⟨_,rfl⟩;have ur:Up wr Wr:=by rw[<- hWr];exact(Up.refl wr).alloc _
    have cT:Calls Tryz.prog 38 #[.pointer (some ⟨b,0,none⟩),.string X] Wr (TaP b v i e (tkB l i e X) Wr):=qP b v i e X Wr HT.out (ps.up ur) (hur.trans ur) hi;have HG:=Lib.hid hg;have WRD:=Lib.hid hWr;have UR:=Lib.hid ur;clear hX hka hle hri hr hWr ur hg ps hur
    cases hd:tkB l i e X with
    | false=>
     rw[hd] at cT;have HD:=Lib.hid hd;clear hd;go_wp2_with fail;rw[WRD.out];refine cT.mono ?_;rintro en w2 ⟨rfl,g2,h2⟩;go_wp2_with fail
     go_roundw
     case rel=>
      refine⟨k+1,by omega,jR (by have:=HKA.out;omega),(HG.out.trans (Gs.of UR.out)).trans g2,h2,fun j hj=>?_⟩
      by_cases hjk:j=k
      ·subst hjk
       unfold opT;rw[HX.out,HD.out,Bool.and_false]
      ·exact HNO.out j (by omega)
     case measure=>simp[intOf];have:=HKA.out;omega
    | true=>
     rw[hd] at cT;have hqk:q=some k:=by
      rw[<- HQ.out];refine zVu hlt ?_ HNO.out;unfold opT;rw[HX.out,hd,Bool.and_true,HRU.out,decide_eq_true rfl]
     have HQK:=Lib.hid hqk;clear hd hqk;go_wp2_with fail;rw[WRD.out];refine cT.mono ?_;rintro en w2 ⟨rfl,g2,h2⟩;have hx2:w2.heap[wr.heap.size]? = some (.cells #[.string X,.int .i64 ka,.int .i64 rl,.int .i64 le,.int .i64 ri] 230 (0,0)):=g2.row (by rw[<- WRD.out];exact heap_alloc_new wr _) (by unfold On;omega);have ck:w2.cell? ⟨wr.heap.size,1,none⟩=some (.int .i64 ka):=cell_of_row w2 _ 1 _ _ _ hx2;have hwb:=qC hx2;have HGA:=Lib.hid ((((Gs.of UZ.out).trans HG.out).trans (Gs.of UR.out)).trans g2:Gs (On b) w w2);have H2:=Lib.hid h2;clear hx2 g2 h2 c1;go_wp2_with fail
     go_ret2
     unfold OpP;rw[HQK.out];exact⟨by rw[<- HKA.out];rfl,HGA.out,H2.out⟩
   ·obtain⟨ru,hru⟩:∃ru,opRu k=ru:=⟨_,rfl⟩
    have HRU:=Lib.hid hru;rw[hX,hka,hle,hri,hru] at hix;rw[hka] at hw;rw[hru] at hr;have hno2:opT l rl i e k=false:=by unfold opT;rw[HRU.out,decide_eq_false hr,Bool.false_and]
    have HN2:=Lib.hid hno2;obtain⟨Wr,hWr⟩:∃Wr,wr.alloc (.cells #[.string X,.int .i64 ka,.int .i64 ru,.int .i64 le,.int .i64 ri] 230)=Wr:=⟨_,rfl⟩;have ur:Up wr Wr:=by rw[<- hWr];exact(Up.refl wr).alloc _
    have HG:=Lib.hid hg;have HPS:=Lib.hid ps;have WRD:=Lib.hid hWr;have UR:=Lib.hid ur;clear hX hka hle hri hru hWr ur hg ps hur hno2;go_wp2_with fail
    go_roundw
    case rel=>
     rw[WRD.out];refine⟨k+1,by omega,jR (by have:=HKA.out;omega),HG.out.trans (Gs.of UR.out),HPS.out.up UR.out,fun j hj=>?_⟩
     by_cases hjk:j=k
     ·subst hjk
      exact HN2.out
     ·exact HNO.out j (by omega)
    case measure=>simp[intOf];have:=HKA.out;omega
  ·obtain rfl:k=5:=by omega
   have hqk:q=none:=by rw[<- HQ.out];exact wS HNO.out
   have HQK:=Lib.hid hqk;have HG:=Lib.hid hg;have HPS:=Lib.hid ps;clear hg ps hur hqk;go_wp2_with fail
   go_ret2
   unfold OpP;rw[HQK.out];exact⟨rfl,(Gs.of UZ.out).trans HG.out,HPS.out⟩
end
theorem opQ_0 (l:List Tk) (rl:Int) (i:Nat):opQ l rl i 0=uS fun k=>decide (opRu k=rl)&&key l i (opSg k):=by
 unfold opQ
 congr 1
def sgo (l:List Te) (rl:Int) (j:Nat):Option (Nod×Nat):=(opQ (tks l) rl j 0).map fun k=>(opN ((k+1:Nat):Int),1)
theorem zYl (l:List Tk) (rl:Int) (j:Nat):opQ l rl j 0=if decide ((2:Int)=rl)&&key l j kPlus then some 0 else if decide ((2:Int)=rl)&&key l j lJ then some 1 else if decide ((3:Int)=rl)&&key l j kStar then some 2 else if decide ((1:Int)=rl)&&key l j kEq then some 3 else if decide ((1:Int)=rl)&&key l j kLess then some 4 else none:=opQ_0 l rl j
theorem sgo_3 (l:List Te) (j:Nat):sgo l 3 j=sMul l j:=by
 unfold sgo sMul;rw[zYl]
 cases key (tks l) j kStar<;>rfl
theorem sgo_2 (l:List Te) (j:Nat):sgo l 2 j=sAdd l j:=by
 unfold sgo sAdd;rw[zYl]
 generalize key (tks l) j kPlus=x
 generalize key (tks l) j lJ=y
 cases x<;>cases y<;>rfl
theorem sgo_1 (l:List Te) (j:Nat):sgo l 1 j=sCmp l j:=by
 unfold sgo sCmp;rw[zYl]
 generalize key (tks l) j kEq=x
 generalize key (tks l) j kLess=y
 cases x<;>cases y<;>rfl
section
variable {W w:World}
theorem zKl {va vb:Value} {a b:Tr} {k:Int} {s:ByteArray} (hW:W.heap.size<=w.heap.size) (ha:NewT W w va a) (hb:NewT W w vb b) :
  NewT W ((w.alloc (.cells #[va,vb] 24)).alloc (.cells #[.int .i64 k,.int .i64 0,.string s,.string ⟨#[]⟩,.slice (some ⟨w.heap.size,0,none⟩) 2 2] 44)) (.pointer (some ⟨w.heap.size+1,0,none⟩)) (nd k s (fr2 a b)):=by
 have e1:(w.alloc (.cells #[va,vb] 24)).heap.size=w.heap.size+1:=by simp
 rw[<- e1];obtain⟨W1,hW1⟩:∃W1,w.alloc (.cells #[va,vb] 24)=W1:=⟨_,rfl⟩;have s1:W1.heap[w.heap.size]? = some (.cells #[va,vb] 24 (0,0)):=by rw[<- hW1];exact heap_alloc_new w _
 have u1:Up w W1:=by rw[<- hW1];exact(Up.refl w).alloc _
 have z1:=u1.size;rw[hW1];obtain⟨W2,hW2⟩:∃W2,W1.alloc (.cells #[.int .i64 k,.int .i64 0,.string s,.string ⟨#[]⟩,.slice (some ⟨w.heap.size,0,none⟩) 2 2] 44)=W2:=⟨_,rfl⟩;have s2:W2.heap[W1.heap.size]? = some (.cells #[.int .i64 k,.int .i64 0,.string s,.string ⟨#[]⟩,.slice (some ⟨w.heap.size,0,none⟩) 2 2] 44 (0,0)):=by rw[<- hW2];exact heap_alloc_new W1 _
 have u2:Up W1 W2:=by rw[<- hW2];exact(Up.refl W1).alloc _
 have s3:W2.heap[w.heap.size]? = some (.cells #[va,vb] 24 (0,0)):=u2.row s1;rw[hW2];exact yV (x:=⟨k,0,s,nob⟩) (f:=fr2 a b) s2 rfl (Nat.le_refl _) ⟨by omega,qC s2⟩ ⟨hW,qC s3⟩ ⟨⟨_,cell_of_row W2 w.heap.size 0 _ _ _ s3,ha.up (u1.trans u2)⟩,⟨_,cell_of_row W2 w.heap.size 1 _ _ _ s3,hb.up (u1.trans u2)⟩,trivial⟩
end
theorem PtF.app {w:World} {S:Nat->Prop}:∀{vs us:List Value} {f g:Fr},PtF w S vs f->PtF w S us g->PtF w S (vs++us) (f.app g)
 | [],_,.nil,_,_,h=>h
 | [],_,.cons _ _ _,_,h,_=>h.elim
 | _::_,_,.nil,_,h,_=>h.elim
 | _::vs,us,.cons _ _ r,g,h,h2=>⟨h.1,PtF.app (vs:=vs) (us:=us) (f:=r) (g:=g) h.2 h2⟩
theorem hasOp {W w:World} {va vb:Value} {a b:Tr} {k:Int} (hW:W.heap.size<=w.heap.size) (ha:NewT W w va a) (hb:NewT W w vb b) :
  NewT W ((w.alloc (.cells #[va,vb] 24)).alloc (.cells #[.int .i64 31,.int .i64 k,.string ⟨#[]⟩,.string ⟨#[]⟩,.slice (some ⟨w.heap.size,0,none⟩) 2 2] 44)) (.pointer (some ⟨w.heap.size+1,0,none⟩)) (opN k,fr2 a b):=by
 have e1:(w.alloc (.cells #[va,vb] 24)).heap.size=w.heap.size+1:=by simp
 rw[<- e1];obtain⟨W1,hW1⟩:∃W1,w.alloc (.cells #[va,vb] 24)=W1:=⟨_,rfl⟩;have s1:W1.heap[w.heap.size]? = some (.cells #[va,vb] 24 (0,0)):=by rw[<- hW1];exact heap_alloc_new w _
 have u1:Up w W1:=by rw[<- hW1];exact(Up.refl w).alloc _
 have z1:=u1.size;rw[hW1];obtain⟨W2,hW2⟩:∃W2,W1.alloc (.cells #[.int .i64 31,.int .i64 k,.string ⟨#[]⟩,.string ⟨#[]⟩,.slice (some ⟨w.heap.size,0,none⟩) 2 2] 44)=W2:=⟨_,rfl⟩;have s2:W2.heap[W1.heap.size]? = some (.cells #[.int .i64 31,.int .i64 k,.string ⟨#[]⟩,.string ⟨#[]⟩,.slice (some ⟨w.heap.size,0,none⟩) 2 2] 44 (0,0)):=by rw[<- hW2];exact heap_alloc_new W1 _
 have u2:Up W1 W2:=by rw[<- hW2];exact(Up.refl W1).alloc _
 have s3:W2.heap[w.heap.size]? = some (.cells #[va,vb] 24 (0,0)):=u2.row s1;rw[hW2];exact yV (x:=opN k) (f:=fr2 a b) s2 rfl (Nat.le_refl _) ⟨by omega,qC s2⟩ ⟨hW,qC s3⟩ ⟨⟨_,cell_of_row W2 w.heap.size 0 _ _ _ s3,ha.up (u1.trans u2)⟩,⟨_,cell_of_row W2 w.heap.size 1 _ _ _ s3,hb.up (u1.trans u2)⟩,trivial⟩
end Go.Proofs.YtgeghilbikljcaaGreatDoor
