/-
  Plain: a type's tokens, with just the signs that the grammar needs; parsed, they are the type, whole.
-/
import Derived.Test.YtnjgnbofcbhngaaGreatDoorGs07
import Derived.Test.YtnjgnbofcbhngaaGreatDoorGs30
set_option maxHeartbeats 40000000
set_option maxRecDepth 100000
namespace Go.Proofs.YtnjgnbofcbhngaaGreatDoor
def ky (x:ByteArray):Tk:=⟨3,x⟩
theorem zJr {p:ByteArray→Bool} {l:List Tk} {i:Nat} {s:ByteArray} (h:l[i]? = some (nmT s)) (hp:p s=true):nam p l i=some s:=by
 unfold nam;rw[h]
 show(if (decide ((1:Int)=1)&&p s)=true then some s else none)=some s
 rw[hp]
 rfl
section
variable {nk lg:ByteArray→Bool}
end
section
variable {nk lg:ByteArray→Bool} {l l':List Te} {d:Nat}
theorem zW1 {O:UInt8→Nat→Rs Tr} {top:Bool}:∀(t:List Rw8) (i:Nat),(∀r∈t,begS l r top i=false)→rowsS nk lg l O top t i = .inl (none,i)
 | [],_,_=>rfl
 | r::t,i,h=>by
  unfold rowsS;rw[if_neg (by rw[h r (List.mem_cons_self ..)];decide)];exact zW1 t i fun r' hr=>h r' (List.mem_cons_of_mem _ hr)
end
section
variable {nk lg:ByteArray→Bool} {l l':List Te} {d:Nat}
theorem zMh {r:Rw8} {top:Bool} {i:Nat} (h:l.length≤i):begS l r top i=false:=by
 unfold begS;rw[yG (by rw[qV];exact h),Bool.and_false,Bool.false_and]
end
def oneT:Te:=⟨⟨2,⟨#[49]⟩⟩,1⟩
def plusT:Te:=⟨ky kPlus,0⟩
def selT:Te:=⟨ky kOne,0⟩
def numTr:Tr:=(⟨20,1,nob,nob⟩,.nil)
def sumTr:Nat→Tr
 | 0=>numTr
 | k+1=>(opN 1,fr2 (sumTr k) numTr)
def selTr (s:ByteArray):Nat→Tr
 | 0=>nd 23 s .nil
 | k+1=>nd 27 nob (fr1 (selTr s k))
theorem zP0:∀k,szT (sumTr k)=2*k+1
 | 0=>rfl
 | k+1=>by
  show szT (opN 1,fr2 (sumTr k) numTr)=_
  rw[mL,zP0 k]
  show 1+(2*k+1+1)=_
  omega
theorem zP1 (s:ByteArray):∀k,szT (selTr s k)=k+1
 | 0=>rfl
 | k+1=>by
  show szT (_,fr1 (selTr s k))=_
  rw[aB,zP1 s k];omega
section
variable {nk lg:ByteArray→Bool} {l:List Te}
theorem zMi {i:Nat} (h:l[i]? = none):hdE lg l i = .no:=by unfold hdE;rw[h]
theorem zMj {i:Nat} (h:l[i]? = some plusT):hdE lg l i = .no:=by unfold hdE;rw[h];rfl
theorem zJs {i:Nat} (h:l[i]? = some oneT):hdE lg l i = .num 1:=by unfold hdE;rw[h];rfl
theorem nB {i:Nat} {t:Te} (h:l[i]? = some t) (x:ByteArray):key (tks l) i x=(decide (t.t.k=3)&&decide (t.t.s=x)):=by
 unfold key;rw[xW,h]
 rfl
theorem vF {i:Nat} (h:l[i]? = none) (x:ByteArray):key (tks l) i x=false:=by
 unfold key;rw[xW,h]
 rfl
def EndP (l:List Te) (i:Nat):Prop:=l[i]? = none∨l[i]? = some plusT
theorem zP2 {n:Nat} {A:Nat→Rs Tr} {p j:Nat} {a:Tr} (hA:A p = .inl (a,j)) (he:EndP l j):mulS lg l (n+1) A p = .inl (a,j):=by
 have h1:appS lg l (n+1) A p = .inl (a,j):=by
  unfold appS lopS;rw[hA]
  show lop A (sApp lg l) (n+1) a j=_
  unfold lop;have:sApp lg l j=none:=by
   unfold sApp
   rcases he with h | h
   ·rw[zMi h];rfl
   ·rw[zMj h];rfl
  rw[this]
 unfold mulS lopS;rw[h1]
 show lop _ (sMul l) (n+1) a j=_
 unfold lop;have:sMul l j=none:=by
  unfold sMul
  rcases he with h | h
  ·rw[vF h];rfl
  ·rw[nB h];rfl
 rw[this]
theorem dF {T:Nat→Rs Tr} {i w:Nat} (hT:∀k,k≤w→T (i+2*k) = .inl (numTr,i+2*k+1)) (hp:∀k,k<w→l[i+2*k+1]? = some plusT) (he:l[i+2*w+1]? = none) :
  ∀(e k n:Nat),k+e=w→e<n→lop T (sAdd l) n (sumTr k) (i+2*k+1) = .inl (sumTr w,i+2*w+1)
 | 0,k,n,hk,hn=>by
  obtain⟨m,rfl⟩:∃m,n=m+1:=⟨n-1,by omega⟩;have hk:k=w:=by omega
  subst hk;unfold lop;have:sAdd l (i+2*k+1)=none:=by unfold sAdd;rw[vF he,vF he];rfl
  rw[this]
 | e+1,k,n,hk,hn=>by
  obtain⟨m,rfl⟩:∃m,n=m+1:=⟨n-1,by omega⟩;unfold lop;have:sAdd l (i+2*k+1)=some (opN 1,1):=by unfold sAdd;rw[nB (hp k (by omega))];rfl
  rw[this];simp only;have h2:=hT (k+1) (by omega);rw[show i+2*(k+1)=i+2*k+1+1 by omega] at h2;rw[h2];have h3:=dF hT hp he e (k+1) m (by omega) (by omega);rw[show i+2*(k+1)+1=i+2*k+1+1+1 by omega] at h3;exact h3
theorem lF {n i:Nat} {t:Te} (h:l[i]? = some t) (hk:t.t.k=3→¬(t.t.s=kFn∨t.t.s=kLet∨t.t.s=kIf∨t.t.s=kCase∨t.t.s=kFold)):exprF nk lg l (n+1) i=cmpS lg l (n+1) (qR nk lg l n) i:=by
 have hf:∀x,(x=kFn∨x=kLet∨x=kIf∨x=kCase∨x=kFold)→key (tks l) i x=false:=by
  intro x hx;rw[nB h,Bool.eq_false_iff];intro hc;rw[Bool.and_eq_true,decide_eq_true_eq,decide_eq_true_eq] at hc;exact hk hc.1 (by rw[hc.2];exact hx)
 rw[pE];unfold exprS;rw[hf kFn (by simp),hf kLet (by simp),hf kIf (by simp),hf kCase (by simp),hf kFold (by simp)]
 rfl
theorem zP3 {i w n:Nat} (h1:∀k,k≤w→l[i+2*k]? = some oneT) (hp:∀k,k<w→l[i+2*k+1]? = some plusT) (he:l[i+2*w+1]? = none) (hn:w+1<n):exprF nk lg l n i = .inl (sumTr w,i+2*w+1):=by
 obtain⟨m,rfl⟩:∃m,n=m+2:=⟨n-2,by omega⟩;have h10:=h1 0 (by omega);rw[Nat.mul_zero,Nat.add_zero] at h10;rw[lF h10 (fun h=>by cases h)];have hA:∀k,k≤w→qR nk lg l (m+1) (i+2*k) = .inl (numTr,i+2*k+1):=by
  intro k hk;rw[yQ];unfold zN;rw[zJs (h1 k hk)]
  rfl
 have hT:∀k,k≤w→mulS lg l (m+2) (qR nk lg l (m+1)) (i+2*k) = .inl (numTr,i+2*k+1):=by
  intro k hk;refine zP2 (hA k hk) ?_
  by_cases h:k=w
  ·subst h;exact .inl he
  ·exact .inr (hp k (by omega))
 have hadd:addS lg l (m+2) (qR nk lg l (m+1)) i = .inl (sumTr w,i+2*w+1):=by
  unfold addS lopS;have h0:=hT 0 (by omega);rw[show i+2*0=i from rfl] at h0;rw[h0];exact dF hT hp he w 0 (m+2) (by omega) (by omega)
 unfold cmpS;rw[hadd]
 show(match sCmp l (i+2*w+1) with | none=>_ | some (x,d)=>_)=_
 have:sCmp l (i+2*w+1)=none:=by unfold sCmp;rw[vF he,vF he];rfl
 rw[this]
theorem oL {s:ByteArray} {i w:Nat} (h1:∀k,k<w→l[i+k]? = some selT) (hy:hdE lg l (i+w) = .var s):∀(e k n:Nat),k+e=w→e<n→qR nk lg l n (i+k) = .inl (selTr s e,i+w+1)
 | 0,k,n,hk,hn=>by
  obtain⟨m,rfl⟩:∃m,n=m+1:=⟨n-1,by omega⟩;have hk:k=w:=by omega
  subst hk;rw[yQ];unfold zN;rw[hy]
  rfl
 | e+1,k,n,hk,hn=>by
  obtain⟨m,rfl⟩:∃m,n=m+1:=⟨n-1,by omega⟩;have hh:hdE lg l (i+k) = .sel 27:=by unfold hdE;rw[h1 k (by omega)];rfl
  rw[yQ];unfold zN;rw[hh];simp only;have h2:=oL h1 hy e (k+1) m (by omega) (by omega);rw[show i+k+1=i+(k+1) from rfl,h2]
  rfl
theorem zP4 {s:ByteArray} {i w n:Nat} (h0:0<w) (h1:∀k,k<w→l[i+k]? = some selT) (hy:hdE lg l (i+w) = .var s) (he:l[i+w+1]? = none) (hn:w+1<n):exprF nk lg l n i = .inl (selTr s w,i+w+1):=by
 obtain⟨m,rfl⟩:∃m,n=m+1:=⟨n-1,by omega⟩;have h2:=h1 0 h0;rw[Nat.add_zero] at h2;rw[lF h2 (fun _=>by decide)];have hA:=oL (nk:=nk) h1 hy w 0 m (by omega) (by omega);rw[Nat.add_zero] at hA;have hadd:addS lg l (m+1) (qR nk lg l m) i = .inl (selTr s w,i+w+1):=by
  unfold addS lopS;rw[zP2 hA (.inl he)]
  show lop _ (sAdd l) (m+1) (selTr s w) (i+w+1)=_
  unfold lop;have:sAdd l (i+w+1)=none:=by unfold sAdd;rw[vF he,vF he];rfl
  rw[this]
 unfold cmpS;rw[hadd]
 show(match sCmp l (i+w+1) with | none=>_ | some (x,d)=>_)=_
 have:sCmp l (i+w+1)=none:=by unfold sCmp;rw[vF he,vF he];rfl
 rw[this]
theorem oM {top:Bool} {n:Nat} {s:ByteArray} {m0 m1 m2:Int} {t:Tr} {j:Nat} (h0:l[0]? = some ⟨ky kVal,m0⟩) (h1:l[1]? = some ⟨nmT s,m1⟩) (hs:nk s=true) (h2:l[2]? = some ⟨ky kEq,m2⟩) (hE:exprF nk lg l (n+1) 3 = .inl (t,j)) (he:l.length≤j) :
  declF nk lg l (n+2) top 0 = .inl (fr1 (⟨70,0,s,nob⟩,fr1 t),j):=by
 have hb1:begS l ⟨kVal,70,[110,58,116,61,101],some qF⟩ top 0=false:=by
  unfold begS fitS;simp only;rw[nB h2 qF,Bool.and_eq_false_iff];exact .inr (show(decide ((3:Int)=3)&&decide (kEq=qF))=false by decide)
 have hb2:begS l ⟨kVal,70,[110,61,101],none⟩ top 0=true:=by
  unfold begS fitS;simp only;rw[nB h0 kVal]
  rfl
 have hq:nameQ nk (tks l) 1 [] = .inl (s,2):=by
  unfold nameQ;rw[zJr (by rw[xW,h1];rfl) hs]
  rfl
 have hk:keysL (tks l) 2 [iS 61] = .inl ((),3):=by
  unfold keysL;have hk2:key (tks l) 2 (iS 61)=true:=by rw[nB h2];exact(show(decide ((3:Int)=3)&&decide (kEq=iS 61))=true by decide)
  rw[if_pos hk2]
  rfl
 rw[declF];obtain⟨O,hO⟩:∃O,oneS (typL nk lg (tks l)) (exprF nk lg l (n+1)) (fun j=>modF nk lg l (n+1) j) (fun j=>sigF nk lg l (n+1) j)=O:=⟨_,rfl⟩;have hO3:O 101 3 = .inl (t,j):=by rw[←hO];exact hE
 rw[hO];have hp:partS nk lg l O [110,61,101] 1 ⟨nob,nob,.nil⟩ = .inl (⟨s,nob,fr1 t⟩,j):=by
  have s1:stepS nk lg l O 110 1 ⟨nob,nob,.nil⟩ = .inl (⟨s,nob,.nil⟩,2):=by
   show thn (nameQ nk (tks l) 1 []) _=_
   rw[hq]
   rfl
  have s2:stepS nk lg l O 61 2 ⟨s,nob,.nil⟩ = .inl (⟨s,nob,.nil⟩,3):=by
   show thn (keysL (tks l) 2 [iS 61]) _=_
   rw[hk]
   rfl
  have s3:stepS nk lg l O 101 3 ⟨s,nob,.nil⟩ = .inl (⟨s,nob,fr1 t⟩,j):=by
   show thn (O 101 3) _=_
   rw[hO3]
   rfl
  unfold partS;rw[s1]
  show partS nk lg l O [61,101] 2 _=_
  unfold partS;rw[s2]
  show partS nk lg l O [101] 3 _=_
  unfold partS;rw[s3]
  rfl
 have hr:rowsS nk lg l O top declR 0 = .inl (some (⟨70,0,s,nob⟩,fr1 t),j):=by
  unfold declR rowsS;rw[hb1];simp only[Bool.false_eq_true,if_false];unfold rowsS;rw[if_pos hb2]
  show thn (partS nk lg l O [110,61,101] 1 ⟨nob,nob,.nil⟩) _=_
  rw[hp]
  rfl
 unfold manyS;rw[hr]
 show manyS nk lg l O declR top (n+1) j _=_
 unfold manyS;rw[zW1 declR j fun r _=>zMh he]
 rfl
end
theorem lG (a:Tr):(fr1 a).dp=dpT a:=by unfold dpT;simp only[fr1,Fr.dp];omega
theorem zJt (a b:Tr):(fr2 a b).dp=max (dpT a) (dpT b):=by unfold dpT;simp only[fr2,fr1,Fr.dp];omega
theorem zP5:∀k,dpT (sumTr k)=k+1
 | 0=>rfl
 | k+1=>by
  show 1+(fr2 (sumTr k) numTr).dp=_
  rw[zJt,zP5 k];have:dpT numTr=1:=rfl;omega
theorem zP6 (s:ByteArray):∀k,dpT (selTr s k)=k+1
 | 0=>rfl
 | k+1=>by
  show 1+(fr1 (selTr s k)).dp=_
  rw[lG,zP6 s k];omega
def sumR:Nat→List Nat
 | 0=>[49]
 | k+1=>49::43::sumR k
def selR:Nat→List Nat
 | 0=>[121]
 | k+1=>35::49::32::selR k
def tkOne:B.Tok:=⟨2,[49],1⟩
def zY1:B.Tok:=⟨3,[43],0⟩
def tkSel:B.Tok:=⟨3,[35,49],0⟩
def tkVal:B.Tok:=⟨3,[118,97,108],0⟩
def tkEqu:B.Tok:=⟨3,[61],0⟩
def tkNm (r:Nat):B.Tok:=⟨1,[r],0⟩
def sumU:Nat→List B.Tok
 | 0=>[tkOne]
 | k+1=>tkOne::zY1::sumU k
def selU:Nat→List B.Tok
 | 0=>[tkNm 121]
 | k+1=>tkSel::selU k
theorem kI {l:List Nat} {t:B.Tok} {n p:Nat} {us:List B.Tok} (h0:l≠[]) (h1:B.cnt B.blk l=0) (h2:B.cmt l=0) (h3:B.tokT l=some (t,n)) (h4:∀q,∃r,B.lexL (l.drop n) q = .inl r∧r.map (·.1)=us):∃r,B.lexL l p = .inl r∧r.map (·.1)=t::us:=by
 have hb:=B.eQ h1 h2;obtain⟨r,h5,h6⟩:=h4 (p+B.sz (l.take n));refine⟨(t,p)::r,?_,by rw[List.map_cons,h6]⟩;rw[B.kE (by rw[hb];exact h0) (by rw[hb];exact h3),hb];simp only[List.drop_zero,List.take_zero,B.zZ,Nat.add_zero,h5]
theorem xM {l:List Nat} {us:List B.Tok} (h:∀q,∃r,B.lexL l q = .inl r∧r.map (·.1)=us) (p:Nat):∃r,B.lexL (32::l) p = .inl r∧r.map (·.1)=us:=by
 obtain⟨r,h1,h2⟩:=h (p+B.sz [32]);exact⟨r,by rw[←h1];exact B.wO B.zV1 l p,h2⟩
theorem oN (p:Nat):∃r,B.lexL [] p = .inl r∧r.map (·.1)=([]:List B.Tok):=⟨[],B.jB (l:=[]) rfl,rfl⟩
theorem zP7 (l:List Nat):B.tokT (43::l)=some (zY1,1):=rfl
theorem zMk (l:List Nat):B.tokT (61::49::l)=some (tkEqu,1):=rfl
theorem zMl (l:List Nat):B.tokT (61::32::l)=some (tkEqu,1):=rfl
theorem zMm (l:List Nat):B.tokT (35::49::l)=some (tkSel,2):=rfl
theorem zP8:B.tokT [49]=some (tkOne,1):=by kernel_rfl
theorem zJu (l:List Nat):B.tokT (49::43::l)=some (tkOne,1):=by
 have e:B.tokT (49::43::l)=B.tokT [49]:=rfl;rw[e,zP8]
theorem tok_y:B.tokT [121]=some (tkNm 121,1):=by decide
theorem zJv (l:List Nat):B.tokT (120::61::l)=some (tkNm 120,1):=by
 have e:B.tokT (120::61::l)=B.tokT [120]:=rfl;rw[e]
 decide
theorem zJw (l:List Nat):B.tokT (120::32::l)=some (tkNm 120,1):=by
 have e:B.tokT (120::32::l)=B.tokT [120]:=rfl;rw[e]
 decide
theorem zW2 (l:List Nat):B.tokT (118::97::108::32::l)=some (tkVal,3):=by
 have e:B.tokT (118::97::108::32::l)=B.tokT [118,97,108]:=rfl;rw[e]
 decide
theorem zW3:∀(k p:Nat),∃r,B.lexL (sumR k) p = .inl r∧r.map (·.1)=sumU k
 | 0,_=>kI (l:=[49]) (List.cons_ne_nil _ _) rfl rfl zP8 oN
 | k+1,_=>kI (l:=49::43::sumR k) (List.cons_ne_nil _ _) rfl rfl (zJu _) fun _=>kI (l:=43::sumR k) (List.cons_ne_nil _ _) rfl rfl (zP7 _) fun q=>zW3 k q
theorem zW4:∀(k p:Nat),∃r,B.lexL (selR k) p = .inl r∧r.map (·.1)=selU k
 | 0,_=>kI (l:=[121]) (List.cons_ne_nil _ _) rfl rfl tok_y oN
 | k+1,_=>kI (l:=35::49::32::selR k) (List.cons_ne_nil _ _) rfl rfl (zMm _) fun q=>xM (fun q=>zW4 k q) q
theorem zP9:∀k,∃l,sumR k=49::l
 | 0=>⟨_,rfl⟩
 | _+1=>⟨_,rfl⟩
theorem zPa (k p:Nat):∃r,B.lexL ([118,97,108,32,120,61]++sumR k) p = .inl r∧r.map (·.1)=tkVal::tkNm 120::tkEqu::sumU k:=by
 refine kI (l:=118::97::108::32::120::61::sumR k) (List.cons_ne_nil _ _) rfl rfl (zW2 _) fun q=>xM (fun q=>?_) q
 refine kI (l:=120::61::sumR k) (List.cons_ne_nil _ _) rfl rfl (zJv _) fun q=>?_
 obtain⟨l,hl⟩:=zP9 k;have:=zW3 k
 show ∃r,B.lexL (61::sumR k) q = .inl r∧_
 rw[hl] at this ⊢;exact kI (List.cons_ne_nil _ _) rfl rfl (zMk _) this
theorem zPb (k p:Nat):∃r,B.lexL ([118,97,108,32,120,32,61,32]++selR k) p = .inl r∧r.map (·.1)=tkVal::tkNm 120::tkEqu::selU k:=by
 refine kI (l:=118::97::108::32::120::32::61::32::selR k) (List.cons_ne_nil _ _) rfl rfl (zW2 _) fun q=>xM (fun q=>?_) q
 refine kI (l:=120::32::61::32::selR k) (List.cons_ne_nil _ _) rfl rfl (zJw _) fun q=>xM (fun q=>?_) q
 exact kI (l:=61::32::selR k) (List.cons_ne_nil _ _) rfl rfl (zMl _) fun q=>xM (fun q=>zW4 k q) q
theorem zW5 (f:Fr):dpT (progT f)=1+f.dp:=rfl
theorem zPc {m:Nat} {s:ByteArray} {l:List (B.Tok×Nat)} (h:B.lexR s=(l,0,0)):srcZ m s=srcD s l (declF B.nck B.long (tqs l) m true 0):=by
 unfold srcZ;rw[h];exact if_pos rfl
def sumE:Nat→List Te
 | 0=>[oneT]
 | k+1=>oneT::plusT::sumE k
def selE:Nat→List Te
 | 0=>[⟨nmT ⟨#[121]⟩,0⟩]
 | k+1=>selT::selE k
def headE:List Te:=[⟨ky kVal,0⟩,⟨nmT ⟨#[120]⟩,0⟩,⟨ky kEq,0⟩]
theorem gR:∀w,(sumE w).length=2*w+1
 | 0=>rfl
 | k+1=>by show(sumE k).length+1+1=_;rw[gR k];omega
theorem gS:∀w,(selE w).length=w+1
 | 0=>rfl
 | k+1=>by show(selE k).length+1=_;rw[gS k]
theorem oO:∀w k,k≤w→(sumE w)[2*k]? = some oneT
 | 0,0,_=>rfl
 | 0,k+1,h=>by omega
 | w+1,0,_=>rfl
 | w+1,k+1,h=>by
  show(oneT::plusT::sumE w)[2*k+1+1]? = _
  rw[List.getElem?_cons_succ,List.getElem?_cons_succ];exact oO w k (by omega)
theorem dG:∀w k,k<w→(sumE w)[2*k+1]? = some plusT
 | 0,k,h=>by omega
 | w+1,0,_=>rfl
 | w+1,k+1,h=>by
  show(oneT::plusT::sumE w)[2*k+1+1+1]? = _
  rw[List.getElem?_cons_succ,List.getElem?_cons_succ];exact dG w k (by omega)
theorem zW6:∀w k,k<w→(selE w)[k]? = some selT
 | 0,k,h=>by omega
 | w+1,0,_=>rfl
 | w+1,k+1,h=>by
  show(selT::selE w)[k+1]? = _
  rw[List.getElem?_cons_succ];exact zW6 w k (by omega)
theorem oP:∀w,(selE w)[w]? = some ⟨nmT ⟨#[121]⟩,0⟩
 | 0=>rfl
 | w+1=>by
  show(selT::selE w)[w+1]? = _
  rw[List.getElem?_cons_succ];exact oP w
def tuq (u:B.Tok):Te:=⟨⟨u.k,B.T u.x⟩,u.n⟩
theorem zW7:∀k,(sumU k).map tuq=sumE k
 | 0=>rfl
 | k+1=>by
  show tuq tkOne::tuq zY1::(sumU k).map tuq=_
  rw[zW7 k]
  rfl
theorem zW8:∀k,(selU k).map tuq=selE k
 | 0=>rfl
 | k+1=>by
  show tuq tkSel::(selU k).map tuq=_
  rw[zW8 k]
  rfl
theorem zW9 (r:List (B.Tok×Nat)):tqs r=(r.map (·.1)).map tuq:=by unfold tqs;rw[List.map_map];rfl
theorem zWa:∀k,∀r∈sumR k,43≤r∧r≤49
 | 0,r,h=>by simp[sumR] at h;omega
 | k+1,r,h=>by
  rcases List.mem_cons.1 h with rfl | h
  ·omega
  ·rcases List.mem_cons.1 h with rfl | h
   ·omega
   ·exact zWa k r h
theorem zWb:∀k,∀r∈selR k,r=35∨r=49∨r=32∨r=121
 | 0,r,h=>by simp[selR] at h;omega
 | k+1,r,h=>by
  rcases List.mem_cons.1 h with rfl | h
  ·omega
  ·rcases List.mem_cons.1 h with rfl | h
   ·omega
   ·rcases List.mem_cons.1 h with rfl | h
    ·omega
    ·exact zWb k r h
theorem oQ:∀k,(sumR k).length=2*k+1
 | 0=>rfl
 | k+1=>by show(sumR k).length+1+1=_;rw[oQ k];omega
theorem oR:∀k,(selR k).length=3*k+1
 | 0=>rfl
 | k+1=>by show(selR k).length+1+1+1=_;rw[oR k];omega
theorem zMu:B.nck ⟨#[120]⟩=true:=by kernel_rfl
theorem zJx:B.long ⟨#[121]⟩=true:=by kernel_rfl
def wideR (w:Nat):List Nat:=[118,97,108,32,120,61]++sumR w
def deepR (w:Nat):List Nat:=[118,97,108,32,120,32,61,32]++selR w
theorem zPd {r:Nat} (h:32≤r∧r≤126):B.rdb (r:Int)=true:=by
 by_cases h2:r=32
 ·subst h2;decide
 ·exact B.rG (by omega)
theorem zPe {m w:Nat} (h1:60≤w) (h2:w≤8000) (hm:8100<m):srcZ m (B.T (wideR w))=(none,0,if 8192<2*w+3 then 3 else 7):=by
 obtain⟨r,e1,e2⟩:=zPa w 0;have hb:∀x∈wideR w,32≤x∧x≤126:=fun x hx=>by
  rcases List.mem_append.1 hx with h | h
  ·have:∀y∈([118,97,108,32,120,61]:List Nat),32≤y∧y≤126:=by decide
   exact this x h
  ·have:=zWa w x h;omega
 have hasc:∀x∈wideR w,x<128:=fun x hx=>by have:=hb x hx;omega
 have hsz:B.sz (wideR w)≤16384:=by
  rw[B.jJ hasc]
  show([118,97,108,32,120,61]++sumR w).length≤_
  rw[List.length_append,oQ]
  show 6+_≤_
  omega
 have hl:B.lexR (B.T (wideR w))=(r,0,0):=by
  rw[B.uK (B.fI hasc) (fun x hx=>zPd (hb x hx)) hsz];have:B.lexL (wideR w) 0 = .inl r:=e1;rw[this]
 have ht:tqs r=headE++sumE w:=by
  rw[zW9,e2]
  show tuq tkVal::tuq (tkNm 120)::tuq tkEqu::(sumU w).map tuq=_
  rw[zW7]
  rfl
 have hlen:r.length=2*w+4:=by rw[←vD,ht,List.length_append,gR];show 3+_=_;omega
 obtain⟨n,rfl⟩:∃n,m=n+2:=⟨m-2,by omega⟩;have at3:∀k,(headE++sumE w)[3+k]? = (sumE w)[k]?:=fun k=>by
  rw[List.getElem?_append_right (by show 3≤3+k;omega)]
  show(sumE w)[3+k-3]? = _
  rw[Nat.add_sub_cancel_left]
 have hE:exprF B.nck B.long (headE++sumE w) (n+1) 3 = .inl (sumTr w,3+2*w+1):=
  zP3 (fun k hk=>by rw[at3];exact oO w k hk) (fun k hk=>by rw[Nat.add_assoc,at3];exact dG w k hk) (by rw[Nat.add_assoc,at3];exact List.getElem?_eq_none (by rw[gR];omega)) (by omega)
 have hd:=oM (nk:=B.nck) (lg:=B.long) (l:=headE++sumE w) (top:=true) (n:=n) (s:=⟨#[120]⟩) (m0:=0) (m1:=0) (m2:=0) rfl rfl zMu rfl hE (by rw[List.length_append,gR];show 3+_≤_;omega);rw[zPc hl,ht,hd];unfold srcD;simp only;have hs:szT (progT (fr1 ((⟨70,0,⟨#[120]⟩,nob⟩,fr1 (sumTr w)):Tr)))=2*w+3:=by
  rw[aQ,vC,aB,zP0];omega
 have hp:dpT (progT (fr1 ((⟨70,0,⟨#[120]⟩,nob⟩,fr1 (sumTr w)):Tr)))=w+3:=by
  rw[zW5,lG]
  show 1+(1+(fr1 (sumTr w)).dp)=_
  rw[lG,zP5];omega
 rw[if_neg (by omega),hs,hp]
 split
 ·rfl
 ·rw[if_pos (by omega)]
theorem zPf {m w:Nat} (h1:1≤w) (h2:w≤100) (hm:300<m):∃t,srcZ m (B.T (deepR w))=if 60<w+3 then (none,0,7) else (some t,0,0):=by
 obtain⟨r,e1,e2⟩:=zPb w 0;have hb:∀x∈deepR w,32≤x∧x≤126:=fun x hx=>by
  rcases List.mem_append.1 hx with h | h
  ·have:∀y∈([118,97,108,32,120,32,61,32]:List Nat),32≤y∧y≤126:=by decide
   exact this x h
  ·have:=zWb w x h;omega
 have hasc:∀x∈deepR w,x<128:=fun x hx=>by have:=hb x hx;omega
 have hsz:B.sz (deepR w)≤16384:=by
  rw[B.jJ hasc]
  show([118,97,108,32,120,32,61,32]++selR w).length≤_
  rw[List.length_append,oR]
  show 8+_≤_
  omega
 have hl:B.lexR (B.T (deepR w))=(r,0,0):=by
  rw[B.uK (B.fI hasc) (fun x hx=>zPd (hb x hx)) hsz];have:B.lexL (deepR w) 0 = .inl r:=e1;rw[this]
 have ht:tqs r=headE++selE w:=by
  rw[zW9,e2]
  show tuq tkVal::tuq (tkNm 120)::tuq tkEqu::(selU w).map tuq=_
  rw[zW8]
  rfl
 have hlen:r.length=w+4:=by rw[←vD,ht,List.length_append,gS];show 3+_=_;omega
 obtain⟨n,rfl⟩:∃n,m=n+2:=⟨m-2,by omega⟩;have at3:∀k,(headE++selE w)[3+k]? = (selE w)[k]?:=fun k=>by
  rw[List.getElem?_append_right (by show 3≤3+k;omega)]
  show(selE w)[3+k-3]? = _
  rw[Nat.add_sub_cancel_left]
 have hy:hdE B.long (headE++selE w) (3+w) = .var ⟨#[121]⟩:=by
  unfold hdE;rw[at3,oP]
  show hdT B.long _=_
  unfold hdT;rw[if_neg (by show ¬(1:Int)=3;decide),if_neg (by show ¬(1:Int)=2;decide),if_pos (by rfl)];exact if_pos zJx
 have hE:exprF B.nck B.long (headE++selE w) (n+1) 3 = .inl (selTr ⟨#[121]⟩ w,3+w+1):=
  zP4 (by omega) (fun k hk=>by rw[at3];exact zW6 w k hk) hy (by rw[Nat.add_assoc,at3];exact List.getElem?_eq_none (by rw[gS];omega)) (by omega)
 have hd:=oM (nk:=B.nck) (lg:=B.long) (l:=headE++selE w) (top:=true) (n:=n) (s:=⟨#[120]⟩) (m0:=0) (m1:=0) (m2:=0) rfl rfl zMu rfl hE (by rw[List.length_append,gS];show 3+_≤_;omega);refine⟨progT (fr1 ((⟨70,0,⟨#[120]⟩,nob⟩,fr1 (selTr ⟨#[121]⟩ w)):Tr)),?_⟩;rw[zPc hl,ht,hd];unfold srcD;simp only;have hs:szT (progT (fr1 ((⟨70,0,⟨#[120]⟩,nob⟩,fr1 (selTr ⟨#[121]⟩ w)):Tr)))=w+3:=by
  rw[aQ,vC,aB,zP1];omega
 have hp:dpT (progT (fr1 ((⟨70,0,⟨#[120]⟩,nob⟩,fr1 (selTr ⟨#[121]⟩ w)):Tr)))=w+3:=by
  rw[zW5,lG]
  show 1+(1+(fr1 (selTr ⟨#[121]⟩ w)).dp)=_
  rw[lG,zP6];omega
 rw[if_neg (by omega),hs,if_neg (by omega),hp]
end Go.Proofs.YtnjgnbofcbhngaaGreatDoor
namespace Go.Proofs.YtnjgnbofcbhngaaGreatDoor
open Go.RowKit
theorem rem12 (a:Int):∃k:Nat,wrap64 (4090+(wrap64 (a.tmod 12+12)).tmod 12)=(k:Int)∧4090≤k∧k≤4101:=by
 have h1:=Int.tmod_lt_of_pos a (show(0:Int)<12 by decide);have h2:=Int.lt_tmod_of_pos a (show(0:Int)<12 by decide);obtain⟨x,hx⟩:∃x,a.tmod 12=x:=⟨_,rfl⟩;rw[hx] at h1 h2 ⊢;have e1:wrap64 (x+12)=x+12:=by unfold wrap64;omega
 rw[e1];have h3:=Int.tmod_lt_of_pos (x+12) (show(0:Int)<12 by decide);have h4:=Int.tmod_nonneg 12 (show 0≤x+12 by omega);obtain⟨y,hy⟩:∃y,(x+12).tmod 12=y:=⟨_,rfl⟩;rw[hy] at h3 h4 ⊢;exact⟨(4090+y).toNat,by unfold wrap64;omega,by omega,by omega⟩
theorem rem20 (a:Int):∃k:Nat,wrap64 (50+(wrap64 (a.tmod 20+20)).tmod 20)=(k:Int)∧50≤k∧k≤69:=by
 have h1:=Int.tmod_lt_of_pos a (show(0:Int)<20 by decide);have h2:=Int.lt_tmod_of_pos a (show(0:Int)<20 by decide);obtain⟨x,hx⟩:∃x,a.tmod 20=x:=⟨_,rfl⟩;rw[hx] at h1 h2 ⊢;have e1:wrap64 (x+20)=x+20:=by unfold wrap64;omega
 rw[e1];have h3:=Int.tmod_lt_of_pos (x+20) (show(0:Int)<20 by decide);have h4:=Int.tmod_nonneg 20 (show 0≤x+20 by omega);obtain⟨y,hy⟩:∃y,(x+20).tmod 20=y:=⟨_,rfl⟩;rw[hy] at h3 h4 ⊢;exact⟨(50+y).toNat,by unfold wrap64;omega,by omega,by omega⟩
theorem zWc:∀w:Nat,B.u8 (sumR w)=Lib.repeatL [49,43] w++[49]
 | 0=>rfl
 | w+1=>by
  show 49::43::B.u8 (sumR w)=49::43::(Lib.repeatL [49,43] w++[49])
  rw[zWc w]
theorem zWd:∀w:Nat,B.u8 (selR w)=Lib.repeatL [35,49,32] w++[121]
 | 0=>rfl
 | w+1=>by
  show 35::49::32::B.u8 (selR w)=35::49::32::(Lib.repeatL [35,49,32] w++[121])
  rw[zWd w]
theorem aV:∀w:Nat,∀x∈sumR w,x<128
 | 0,x,h=>by have h:=List.mem_singleton.1 h;omega
 | w+1,x,h=>by
  rcases List.mem_cons.1 h with rfl | h
  ·omega
  ·rcases List.mem_cons.1 h with rfl | h
   ·omega
   ·exact aV w x h
theorem aW:∀w:Nat,∀x∈selR w,x<128
 | 0,x,h=>by have h:=List.mem_singleton.1 h;omega
 | w+1,x,h=>by
  rcases List.mem_cons.1 h with rfl | h
  ·omega
  ·rcases List.mem_cons.1 h with rfl | h
   ·omega
   ·rcases List.mem_cons.1 h with rfl | h
    ·omega
    ·exact aW w x h
theorem zPg (k:Nat):(⟨#[118,97,108,32,120,61]⟩:ByteArray)++⟨(Lib.repeatL [49,43] k).toArray⟩++⟨#[49]⟩=B.T (wideR k):=by
 apply ByteArray.ext
 apply Array.ext'
 have hasc:∀x∈wideR k,x<128:=fun x hx=>by
  rcases List.mem_append.1 hx with h | h
  ·have:∀y∈([118,97,108,32,120,61]:List Nat),y<128:=by decide
   exact this x h
  ·exact aV k x h
 rw[B.yF,B.kJ hasc];simp only[ByteArray.data_append,Array.toList_append];unfold wideR
 show _=B.u8 ([118,97,108,32,120,61]++sumR k)
 rw[show B.u8 ([118,97,108,32,120,61]++sumR k)=[118,97,108,32,120,61]++B.u8 (sumR k) from by unfold B.u8;rw[List.map_append];rfl,zWc,←List.append_assoc]
theorem oS (k:Nat):(⟨#[118,97,108,32,120,32,61,32]⟩:ByteArray)++⟨(Lib.repeatL [35,49,32] k).toArray⟩++⟨#[121]⟩=B.T (deepR k):=by
 apply ByteArray.ext
 apply Array.ext'
 have hasc:∀x∈deepR k,x<128:=fun x hx=>by
  rcases List.mem_append.1 hx with h | h
  ·have:∀y∈([118,97,108,32,120,32,61,32]:List Nat),y<128:=by decide
   exact this x h
  ·exact aW k x h
 rw[B.yF,B.kJ hasc];simp only[ByteArray.data_append,Array.toList_append];unfold deepR;rw[show B.u8 ([118,97,108,32,120,32,61,32]++selR k)=[118,97,108,32,120,32,61,32]++B.u8 (selR k) from by unfold B.u8;rw[List.map_append];rfl,zWd,←List.append_assoc]
theorem zUh (a d:Int) (w:World) (hx:Vx7 w) :
  Calls Tryz.prog 8 #[.int .i64 a,.int .i64 d] w (BoP true w):=by
 have HX:=Lib.hid hx;obtain⟨ka,hka,ha1,ha2⟩:=rem12 a;obtain⟨kd,hkd,hd1,hd2⟩:=rem20 d;have asc1:∀x∈wideR ka,x<128:=fun x hx=>by
  rcases List.mem_append.1 hx with h | h
  ·have:∀y∈([118,97,108,32,120,61]:List Nat),y<128:=by decide
   exact this x h
  ·exact aV ka x h
 have l1:∀w,(sumR w).length=2*w+1:=fun w=>by induction w with | zero=>rfl | succ n ih=>show(sumR n).length+2=_;omega
 have l2:∀w,(selR w).length=3*w+1:=fun w=>by induction w with | zero=>rfl | succ n ih=>show(selR n).length+3=_;omega
 have asc2:∀x∈deepR kd,x<128:=fun x hx=>by
  rcases List.mem_append.1 hx with h | h
  ·have:∀y∈([118,97,108,32,120,32,61,32]:List Nat),y<128:=by decide
   exact this x h
  ·exact aW kd x h
 have z1:(B.T (wideR ka)).size≤1000000000:=by
  rw[B.qK,B.jJ asc1]
  show([118,97,108,32,120,61]++sumR ka).length≤_
  rw[List.length_append,l1]
  show 6+_≤_
  omega
 have z2:(B.T (deepR kd)).size≤1000000000:=by
  rw[B.qK,B.jJ asc2]
  show([118,97,108,32,120,32,61,32]++selR kd).length≤_
  rw[List.length_append,l2]
  show 8+_≤_
  omega
 have cR1:=Tryz.strings_Repeat ⟨#[49,43]⟩ ka w (by omega) (by show 2*ka≤_;omega);have HR2:Hid (∀w',Up w w'→Calls Tryz.prog 24 #[.string ⟨#[35,49,32]⟩,.int .i64 (kd:Int)] w' fun e w''=>e = .returned (.string ⟨(Lib.repeatL [35,49,32] kd).toArray⟩)∧Up w w''):=Lib.hid fun w' u=>(Tryz.strings_Repeat ⟨#[35,49,32]⟩ kd w' (by omega) (by show 3*kd≤_;omega)).mono fun e w'' ⟨h1,h2⟩=>⟨h1,u.trans h2⟩
 have HS1:Hid (∀w',Up w w'→Calls Tryz.prog 19 #[.string (B.T (wideR ka))] w' (SouP (none,0,if 8192<2*ka+3 then 3 else 7) w')):=Lib.hid fun w' u=>by
  have c:=jS (B.T (wideR ka)) z1 (3*(B.lexR (B.T (wideR ka))).1.length+4+9000) (by omega) w' (hx.up u);rw[zPe (by omega) (by omega) (by omega)] at c;exact c
 obtain⟨t2,ht2⟩:=zPf (m:=3*(B.lexR (B.T (deepR kd))).1.length+4+9000) (w:=kd) (by omega) (by omega) (by omega);have HS2:Hid (∀w',Up w w'→Calls Tryz.prog 19 #[.string (B.T (deepR kd))] w' (SouP (if 60<kd+3 then (none,0,7) else (some t2,0,0)) w')):=Lib.hid fun w' u=>by
  have c:=jS (B.T (deepR kd)) z2 (3*(B.lexR (B.T (deepR kd))).1.length+4+9000) (by omega) w' (hx.up u);rw[ht2] at c;exact c
 have w1:wrap64 (2*(ka:Int))=2*ka:=by unfold wrap64;omega
 have w2:wrap64 (2*(ka:Int)+3)=2*ka+3:=by unfold wrap64;omega
 have w3:wrap64 ((kd:Int)+3)=kd+3:=by unfold wrap64;omega
 have q1:=Lib.repeatL_length [49,43] ka
 have q2:=Lib.repeatL_length [35,49,32] kd
 have q3:([49,43]:List UInt8).length=2:=rfl;have q4:([35,49,32]:List UInt8).length=3:=rfl;rw[q3] at q1;rw[q4] at q2;have r1:¬9223372036854775807<6+(Lib.repeatL [49,43] ka).length:=by omega
 have r2:¬9223372036854775807<6+(Lib.repeatL [49,43] ka).length+1:=by omega
 have r3:¬9223372036854775807<8+(Lib.repeatL [35,49,32] kd).length:=by omega
 have r4:¬9223372036854775807<8+(Lib.repeatL [35,49,32] kd).length+1:=by omega
 clear hx asc1 asc2 l1 l2 z1 z2 ht2 q1 q2 q3 q4
 go_enter Tryz.func8,Tryz.ntmps8
 go_wp2_with fail;refine cR1.mono ?_;rintro e x1 ⟨rfl,u1⟩;have cS:=HS1.out x1 u1;have U1:=Lib.hid (show Up w x1 from u1);clear u1 cR1;go_wp2_with fail;rw[zPg];refine cS.mono ?_;rintro e x2 ⟨v,rfl,u2,hv⟩;have hv:v = .pointer none:=hv;subst hv;have cR:=HR2.out x2 (U1.out.trans u2);have U2:=Lib.hid (U1.out.trans u2);clear u2 cS
 by_cases h1:8192<2*ka+3
 ·have h1z:(8192:Int)<2*(ka:Int)+3:=by omega
  have e1:(if 8192<2*ka+3 then (3:Int) else 7)=3:=if_pos h1;simp only[e1];go_wp2_with fail;refine cR.mono ?_;rintro e x3 ⟨rfl,u3⟩;have cS:=HS2.out x3 u3;have U3:=Lib.hid u3;clear u3 cR;go_wp2_with fail;rw[oS]
  by_cases h2:60<kd+3
  ·have h2z:(60:Int)<(kd:Int)+3:=by omega
   rw[if_pos h2] at cS;refine cS.mono ?_;rintro e x4 ⟨v,rfl,u4,hv⟩;have hv:v = .pointer none:=hv;subst hv;have cW:=fC HX.out (U3.out.trans u4);clear u4 cS;go_wp2_with fail;refine cW.mono ?_;rintro e x5 ⟨rfl,u5⟩;go_wp2_with fail
   go_ret
   exact jU rfl u5
  ·have h2z:¬(60:Int)<(kd:Int)+3:=by omega
   rw[if_neg h2] at cS;refine cS.mono ?_;rintro e x4 ⟨v,rfl,u4,hv⟩;have hv:NewT x3 x4 v t2:=hv;obtain⟨q,p,rfl⟩:=InT.ptr hv;have hnil:∀W,(binOp .eql 24 (.pointer (some ⟨q,p,none⟩)) (.pointer none)).run Tryz.prog W = .ok (.bool false) W:=fun W=>sU W _
   have cW:=fC HX.out (U3.out.trans u4);clear u4 cS hv;go_wp2_with fail;refine cW.mono ?_;rintro e x5 ⟨rfl,u5⟩;go_wp2_with fail
   go_ret
   exact jU rfl u5
 ·have h1z:¬(8192:Int)<2*(ka:Int)+3:=by omega
  have e1:(if 8192<2*ka+3 then (3:Int) else 7)=7:=if_neg h1;simp only[e1];go_wp2_with fail;refine cR.mono ?_;rintro e x3 ⟨rfl,u3⟩;have cS:=HS2.out x3 u3;have U3:=Lib.hid u3;clear u3 cR;go_wp2_with fail;rw[oS]
  by_cases h2:60<kd+3
  ·have h2z:(60:Int)<(kd:Int)+3:=by omega
   rw[if_pos h2] at cS;refine cS.mono ?_;rintro e x4 ⟨v,rfl,u4,hv⟩;have hv:v = .pointer none:=hv;subst hv;have cW:=fC HX.out (U3.out.trans u4);clear u4 cS;go_wp2_with fail;refine cW.mono ?_;rintro e x5 ⟨rfl,u5⟩;go_wp2_with fail
   go_ret
   exact jU rfl u5
  ·have h2z:¬(60:Int)<(kd:Int)+3:=by omega
   rw[if_neg h2] at cS;refine cS.mono ?_;rintro e x4 ⟨v,rfl,u4,hv⟩;have hv:NewT x3 x4 v t2:=hv;obtain⟨q,p,rfl⟩:=InT.ptr hv;have hnil:∀W,(binOp .eql 24 (.pointer (some ⟨q,p,none⟩)) (.pointer none)).run Tryz.prog W = .ok (.bool false) W:=fun W=>sU W _
   have cW:=fC HX.out (U3.out.trans u4);clear u4 cS hv;go_wp2_with fail;refine cW.mono ?_;rintro e x5 ⟨rfl,u5⟩;go_wp2_with fail
   go_ret
   exact jU rfl u5
end Go.Proofs.YtnjgnbofcbhngaaGreatDoor
