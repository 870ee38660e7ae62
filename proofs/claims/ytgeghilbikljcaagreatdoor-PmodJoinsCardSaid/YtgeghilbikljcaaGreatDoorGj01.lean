/-
  Plain facts, without the program: texts as runes, by places in the text. 'dc s p': the rune that begins at byte p and its width; (65533, 1): none begins there. 'rns s p': the runes from place p on; 'vls s p': all from there on is right UTF-8.
-/
import Derived.Lib.ItoaNum
import Derived.Lib.RuneCount
import Derived.Lib.ValidLaws
set_option maxHeartbeats 40000000
set_option maxRecDepth 100000
namespace Go.Proofs.YtgeghilbikljcaaGreatDoor.B
open Go.Lib
abbrev dc (s:ByteArray) (p:Nat):Nat×Nat:=Utf8.decode s p
def bt (s:ByteArray) (p:Nat):Nat:=(s.get! p).toNat
theorem zX8 (s:ByteArray) (p:Nat):bt s p<256:=(s.get! p).toNat_lt
theorem zWw (s:ByteArray) (p:Nat):dc s p=decodeN (s.size-p) (bt s p) (bt s (p+1)) (bt s (p+2)) (bt s (p+3)):=decode_at s p
theorem zMh (s:ByteArray) (p:Nat) (h:p<s.size):((s[p]'h).toNat)=bt s p:=by
 unfold bt
 simp[ByteArray.get!,getElem!_pos,h]
 rfl
theorem kN (s:ByteArray) (p:Nat):1<=(dc s p).2:=width_pos s p
theorem zP8 (s:ByteArray) (p:Nat):(dc s p).1<=1114111:=rune_le s p
theorem iP (s:ByteArray) (p:Nat) (h:p<s.size):p+(dc s p).2<=s.size:=by
 rw[zWw]
 rcases decodeN_shape (s.size-p) (bt s p) (bt s (p+1)) (bt s (p+2)) (bt s (p+3)) with ⟨c,e⟩ | ⟨c1,c2,c3,cv,e⟩ | ⟨c1,c2,c3,c4,cv,cs,e⟩ | ⟨c1,c2,c3,c4,c5,cv,cw,e⟩ | e
 all_goals (rw[e];dsimp only;omega)
def bad (s:ByteArray) (p:Nat):Bool:=decide (dc s p=(65533,1))
theorem zX9 (s:ByteArray) (p:Nat):bad s p=true↔dc s p=(65533,1):=by simp[bad]
theorem mL (s:ByteArray) (p:Nat):bad s p=false↔dc s p≠(65533,1):=by simp[bad]
def nx (s:ByteArray) (p:Nat):Nat×Nat:=if bad s p then (0,0) else dc s p
def acc (s:ByteArray) (p r:Nat):Nat->Nat
 | 0=>r
 | k+1=>64*acc s p r k+(bt s (p+(k+1))-128)
def rnsF (s:ByteArray):Nat->Nat->List Nat
 | 0,_=>[]
 | f+1,p=>if p<s.size then (dc s p).1::rnsF s f (p+(dc s p).2) else []
def vlsF (s:ByteArray):Nat->Nat->Bool
 | 0,_=>true
 | f+1,p=>if p<s.size then (if bad s p then false else vlsF s f (p+(dc s p).2)) else true
theorem dE (s:ByteArray):∀f g p,s.size<=p+f->s.size<=p+g->rnsF s f p=rnsF s g p
 | 0,0,_,_,_=>rfl
 | 0,g+1,p,h,_=>by simp[rnsF,show ¬p<s.size by omega]
 | f+1,0,p,_,h=>by simp[rnsF,show ¬p<s.size by omega]
 | f+1,g+1,p,h1,h2=>by
  have hw:=kN s p;simp only[rnsF];rw[dE s f g _ (by omega) (by omega)]
theorem dF (s:ByteArray):∀f g p,s.size<=p+f->s.size<=p+g->vlsF s f p=vlsF s g p
 | 0,0,_,_,_=>rfl
 | 0,g+1,p,h,_=>by simp[vlsF,show ¬p<s.size by omega]
 | f+1,0,p,_,h=>by simp[vlsF,show ¬p<s.size by omega]
 | f+1,g+1,p,h1,h2=>by
  have hw:=kN s p;simp only[vlsF];rw[dF s f g _ (by omega) (by omega)]
def rns (s:ByteArray) (p:Nat):List Nat:=rnsF s s.size p
def vls (s:ByteArray) (p:Nat):Bool:=vlsF s s.size p
theorem fT {s:ByteArray} {p:Nat} (h:¬p<s.size):rns s p=[]:=by
 unfold rns;cases s.size<;>simp_all [rnsF]
theorem pM {s:ByteArray} {p:Nat} (h:¬p<s.size):vls s p=true:=by
 unfold vls;cases s.size<;>simp_all [vlsF]
theorem vR {s:ByteArray} {p:Nat} (h:p<s.size):rns s p=(dc s p).1::rns s (p+(dc s p).2):=by
 have hw:=kN s p;unfold rns;rw[dE s s.size (s.size+1) p (by omega) (by omega)];simp only[rnsF,if_pos h]
theorem sQ {s:ByteArray} {p:Nat} (h:p<s.size):vls s p=if bad s p then false else vls s (p+(dc s p).2):=by
 have hw:=kN s p;unfold vls;rw[dF s s.size (s.size+1) p (by omega) (by omega)];simp only[vlsF,if_pos h]
theorem sR {s:ByteArray} {p:Nat} (h:p<s.size) (hb:bad s p=false):vls s p=vls s (p+(dc s p).2):=by rw[sQ h,hb];simp
theorem zUy {s:ByteArray} {p:Nat} (h:p<s.size) (hv:vls s p=true):bad s p=false/\vls s (p+(dc s p).2)=true:=by
 rw[sQ h] at hv
 split at hv
 ·cases hv
 ·exact⟨by simp_all,hv⟩
theorem along (s:ByteArray) (Q:Nat->Prop) (hend:∀p,s.size<=p->Q p) (hstep:∀p,p<s.size->Q (p+(dc s p).2)->Q p):∀p,Q p:=by
 have key:∀f p,s.size<=p+f->Q p:=by
  intro f
  induction f with
  | zero=>intro p h;exact hend p (by omega)
  | succ f ih=>
   intro p h
   by_cases hp:p<s.size
   ·have hw:=kN s p
    exact hstep p hp (ih _ (by omega))
   ·exact hend p (by omega)
 intro p;exact key s.size p (by omega)
theorem zMi (s:ByteArray):validD s.data.toList=vls s 0:=by
 have key:∀p,validD (s.data.toList.drop p)=vls s p:=by
  refine along s _ ?_ ?_
  ·intro p h
   rw[pM (by omega),List.drop_eq_nil_of_le (by simpa using h)]
   rfl
  ·intro p h ih
   have hne:s.data.toList.drop p≠[]:=by
    intro he;have:=congrArg List.length he
    simp at this
    have h':s.size=s.data.size:=rfl;omega
   rw[validD_step _ hne,decodeL_drop,List.drop_drop,sQ h];have e:((Utf8.decode s p).1=65533/\(Utf8.decode s p).2=1)↔bad s p=true:=by
    rw[zX9];exact⟨fun⟨a,b⟩=>Prod.ext a b,fun hx=>by rw[show Utf8.decode s p=(65533,1) from hx];exact⟨rfl,rfl⟩⟩
   simp only[e];rw[ih]
 exact key 0
theorem zMj {s:ByteArray} {p:Nat} (h:p<s.size) (hb:bad s p=false):encodeRune ((dc s p).1:Int)=(s.data.toList.drop p).take (dc s p).2:=by
 have hne:s.data.toList.drop p≠[]:=by
  intro he;have:=congrArg List.length he
  simp at this
  have h':s.size=s.data.size:=rfl;omega
 have:=encode_decode (s.data.toList.drop p) hne;rw[decodeL_drop] at this;refine this fun hx=>?_
 rw[mL] at hb;exact hb (Prod.ext hx.1 hx.2)
def goF {σ α:Type} (s:ByteArray) (stop:σ->Nat->Option α) (next:σ->Nat->σ) (fin:σ->α):Nat->σ->Nat->α
 | 0,st,_=>fin st
 | f+1,st,p=>if p<s.size then (match stop st p with | some a=>a | none=>goF s stop next fin f (next st p) (p+(dc s p).2)) else fin st
section
variable {σ α:Type} {s:ByteArray} {stop:σ->Nat->Option α} {next:σ->Nat->σ} {fin:σ->α}
theorem fU {f:Nat} {st:σ} {p:Nat} (h:¬p<s.size):goF s stop next fin f st p=fin st:=by
 cases f with
 | zero=>rfl
 | succ f=>simp only[goF,if_neg h]
theorem sS:∀(f g:Nat) (st:σ) (p:Nat),s.size<=p+f->s.size<=p+g->goF s stop next fin f st p=goF s stop next fin g st p
 | 0,g,st,p,h,_=>by rw[fU (by omega),fU (by omega)]
 | f+1,0,st,p,_,h=>by rw[fU (by omega),fU (by omega)]
 | f+1,g+1,st,p,h1,h2=>by
  have hw:=kN s p;simp only[goF];rw[sS f g (next st p) (p+(dc s p).2) (by omega) (by omega)]
end
def jP {σ α:Type} (s:ByteArray) (stop:σ->Nat->Option α) (next:σ->Nat->σ) (fin:σ->α) (st:σ) (p:Nat):α:=goF s stop next fin s.size st p
section
variable {σ α:Type} {s:ByteArray} {stop:σ->Nat->Option α} {next:σ->Nat->σ} {fin:σ->α}
theorem wO {st:σ} {p:Nat} (h:¬p<s.size):jP s stop next fin st p=fin st:=fU h
theorem xZ {st:σ} {p:Nat} {a:α} (h:p<s.size) (e:stop st p=some a):jP s stop next fin st p=a:=by
 unfold jP;rw[sS s.size (s.size+1) st p (by omega) (by omega)];simp only[goF,if_pos h,e]
theorem vA {st:σ} {p:Nat} (h:p<s.size) (e:stop st p=none):jP s stop next fin st p=jP s stop next fin (next st p) (p+(dc s p).2):=by
 have hw:=kN s p;unfold jP;rw[sS s.size (s.size+1) st p (by omega) (by omega)];simp only[goF,if_pos h,e]
end
def cls (r:Int):Int:=
 if (65<=r/\r<=90)\/(97<=r/\r<=122)\/r=95 then 1
 else if 48<=r/\r<=57 then 2
 else if r=32\/r=9\/r=10 then 3
 else if 128<=r/\r<=1114111/\r≠65533/\(r<55296\/57343<r) then 1
 else 0
theorem zMk (r c:Int) (h:((65<=r/\r<=90)\/(97<=r/\r<=122)\/r=95)/\c=1\/(48<=r/\r<=57)/\c=2\/(r=32\/r=9\/r=10)/\c=3\/
  (128<=r/\r<=1114111/\r≠65533/\(r<55296\/57343<r))/\c=1\/
  (¬((65<=r/\r<=90)\/(97<=r/\r<=122)\/r=95)/\¬(48<=r/\r<=57)/\¬(r=32\/r=9\/r=10)/\¬(128<=r/\r<=1114111/\r≠65533/\(r<55296\/57343<r)))/\c=0):cls r=c:=by
 unfold cls
 repeat' split
 all_goals omega
theorem zWx (r:Int):cls r=3↔(r=32\/r=9\/r=10):=by
 unfold cls
 repeat' split
 all_goals omega
theorem zP9:cls 65533=0:=by decide
def rdb (r:Int):Bool:=!(decide (r=65533\/r=127\/(r<32/\r≠9/\r≠10)))
theorem zMl (r:Int) (b:Bool) (h:b=true↔¬(r=65533\/r=127\/(r<32/\r≠9/\r≠10))):rdb r=b:=by
 unfold rdb;rw[Bool.eq_iff_iff,h,Bool.not_eq_true',decide_eq_false_iff_not]
theorem zXa {s:ByteArray} {p:Nat} (h:bad s p=true):(dc s p).1=65533:=by
 rw[zX9] at h;rw[h]
def ck (s:ByteArray) (p:Nat):Int×Int:=jP s (fun(_:Unit) p=>if rdb (dc s p).1 then none else some ((p:Int),(4:Int))) (fun u _=>u) (fun _=>(0,0)) () p
theorem zZd {s:ByteArray} {p:Nat} (h:¬p<s.size):ck s p=(0,0):=wO h
theorem zXb {s:ByteArray} {p:Nat} (h:p<s.size) (e:rdb (dc s p).1=false):ck s p=((p:Int),4):=xZ h (by simp[e])
theorem aI {s:ByteArray} {p:Nat} (h:p<s.size) (e:rdb (dc s p).1=true):ck s p=ck s (p+(dc s p).2):=vA h (by simp[e])
def mst (r:Int) (first:Bool):Bool:=decide (cls r=1)||(decide (cls r=2\/r=39) && !first)
def nmF (s:ByteArray) (p:Nat):Bool:=jP s (fun(_:Unit) p=>if mst (dc s p).1 (decide (p=0)) then none else some false) (fun u _=>u) (fun _=>true) () p
theorem zZe {s:ByteArray} {p:Nat} (h:¬p<s.size):nmF s p=true:=wO h
theorem fV {s:ByteArray} {p:Nat} (h:p<s.size) (e:mst (dc s p).1 (decide (p=0))=false):nmF s p=false:=xZ h (by simp[e])
theorem pN {s:ByteArray} {p:Nat} (h:p<s.size) (e:mst (dc s p).1 (decide (p=0))=true):nmF s p=nmF s (p+(dc s p).2):=vA h (by simp[e])
def nmL:List Nat->Bool
 | []=>true
 | r::t=>mst r true&&t.all fun(x:Nat)=>mst x false
theorem zMm (s:ByteArray):∀p,vls s p=false->nmF s p=false:=by
 refine along s _ ?_ ?_
 ·intro p h hv
  rw[pM (by omega)] at hv
  cases hv
 ·intro p h ih hv
  cases hb:bad s p
  ·rw[sR h hb] at hv
   cases hm:mst (dc s p).1 (decide (p=0))
   ·exact fV h hm
   ·rw[pN h hm];exact ih hv
  ·refine fV h ?_
   rw[zXa hb];unfold mst;rw[show((65533:Nat):Int)=65533 from rfl,zP9]
   rfl
theorem zPa (s:ByteArray):∀p,0<p->nmF s p=(rns s p).all fun(x:Nat)=>mst x false:=by
 refine along s _ ?_ ?_
 ·intro p h _
  rw[zZe (by omega),fT (by omega)]
  rfl
 ·intro p h ih hp
  have hw:=kN s p;have e0:decide (p=0)=false:=by simp;omega
  rw[vR h,List.all_cons,<- ih (by omega)]
  cases hm:mst (dc s p).1 false
  ·rw[Bool.false_and]
   exact fV h (by rw[e0];exact hm)
  ·rw[Bool.true_and]
   exact pN h (by rw[e0];exact hm)
theorem zPb (s:ByteArray):nmF s 0=nmL (rns s 0):=by
 by_cases h:0<s.size
 ·have hw:=kN s 0
  rw[vR h]
  show _=(mst (dc s 0).1 true&&_)
  rw[<- zPa s _ (by omega)]
  cases hm:mst (dc s 0).1 true
  ·rw[Bool.false_and]
   exact fV h (by simpa using hm)
  ·rw[Bool.true_and]
   exact pN h (by simpa using hm)
 ·rw[zZe h,fT h]
  rfl
def nm (s:ByteArray):Bool:=decide (1<=s.size/\s.size<=32)&&nmF s 0
theorem zPc {s:ByteArray} (h:¬(1<=s.size/\s.size<=32)):nm s=false:=by simp[nm,h]
theorem nm_of {s:ByteArray} (h:1<=s.size/\s.size<=32):nm s=nmF s 0:=by simp[nm,h]
def bhd (st:Int×Int) (r:Nat):Int×Int:=if r=10 then (st.1+1,1) else (st.1,st.2+1)
def pl (s:ByteArray) (at_:Int) (st:Int×Int) (p:Nat):Int×Int:=
 jP s (fun(st:Int×Int) p=>if at_<(p+(dc s p).2:Nat) then some st else none) (fun st p=>bhd st (dc s p).1) (fun st=>st) st p
theorem zUz {s:ByteArray} {p:Nat} (hb:bad s p=false):(dc s p).1<55296\/(57343<(dc s p).1/\(dc s p).1<=1114111):=by
 rw[mL,zWw] at hb;rw[zWw];have k0:=zX8 s p;have k1:=zX8 s (p+1);have k2:=zX8 s (p+2);have k3:=zX8 s (p+3)
 rcases decodeN_shape (s.size-p) (bt s p) (bt s (p+1)) (bt s (p+2)) (bt s (p+3)) with ⟨c,e⟩ | ⟨c1,c2,c3,cv,e⟩ | ⟨c1,c2,c3,c4,cv,cs,e⟩ | ⟨c1,c2,c3,c4,c5,cv,cw,e⟩ | e
 all_goals (rw[e] at hb ⊢;dsimp only)
 all_goals (try (exact absurd rfl hb))
 all_goals omega
theorem byteZ (z:Int) (n:Nat) (h:z=(n:Int)):z.toNat.toUInt8=UInt8.ofNat n:=by
 subst h
 rfl
theorem zT0 (s:ByteArray) (a b:Nat):(s.extract a b).size=min (b-a) (s.size-a):=by
 rw[size_eq,extract_data,List.length_take,List.length_drop,<- size_eq]
theorem zPd (s:ByteArray) (p:Nat) (h:¬p<s.size):bt s p=0:=by
 unfold bt
 simp[ByteArray.get!,getElem!_neg,h]
 rfl
theorem aJ (s:ByteArray) (p:Nat):bt s p=(s.data.toList.getD p 0).toNat:=by
 by_cases h:p<s.size
 ·rw[<- zMh s p h]
  have h':p<s.data.toList.length:=by rw[<- size_eq];exact h
  rw[List.getD_eq_getElem?_getD,List.getElem?_eq_getElem h']
  rfl
 ·rw[zPd s p h,List.getD_eq_getElem?_getD,List.getElem?_eq_none (by rw[<- size_eq];omega)]
  rfl
theorem aK (s:ByteArray) (c q:Nat):bt (s.extract c s.size) q=bt s (c+q):=by
 rw[aJ,aJ,extract_data];simp only[List.getD_eq_getElem?_getD,List.getElem?_take,List.getElem?_drop]
 by_cases h:q<s.size-c
 ·rw[if_pos h]
 ·rw[if_neg h,List.getElem?_eq_none (by rw[<- size_eq];omega)]
theorem zMn (s:ByteArray) (c q:Nat):dc (s.extract c s.size) q=dc s (c+q):=by
 rw[zWw,zWw,aK,aK,aK,aK,zT0];rw[show min (s.size-c) (s.size-c)-q=s.size-(c+q) by omega,show c+(q+1)=c+q+1 by omega,show c+(q+2)=c+q+2 by omega,show c+(q+3)=c+q+3 by omega]
def ok (r:Nat):Prop:=r<55296\/(57343<r/\r<=1114111)
def okl (l:List Nat):Prop:=∀r∈l,ok r
def en (r:Nat):List UInt8:=encodeRune (r:Int)
def enc:List Nat->List UInt8
 | []=>[]
 | r::t=>en r++enc t
def T (l:List Nat):ByteArray:=⟨(enc l).toArray⟩
def wd (r:Nat):Nat:=(en r).length
def sz (l:List Nat):Nat:=(enc l).length
theorem zPe:okl []:=fun _ h=>by cases h
theorem yS {r:Nat} {t:List Nat}:okl (r::t)↔ok r/\okl t:=by
 unfold okl;simp
theorem xB {a b:List Nat}:okl (a++b)↔okl a/\okl b:=by
 unfold okl;simp only[List.mem_append];exact⟨fun h=>⟨fun r hr=>h r (.inl hr),fun r hr=>h r (.inr hr)⟩,fun h r hr=>hr.elim (h.1 r) (h.2 r)⟩
theorem zXc {a b:List Nat} (h:okl b) (hs:∀r∈a,r∈b):okl a:=fun r hr=>h r (hs r hr)
theorem zT1 {l:List Nat} (h:okl l) (n:Nat):okl (l.take n):=zXc h fun _ hr=>List.mem_of_mem_take hr
theorem sU {l:List Nat} (h:okl l) (n:Nat):okl (l.drop n):=zXc h fun _ hr=>List.mem_of_mem_drop hr
theorem fW (a b:List Nat):enc (a++b)=enc a++enc b:=by
 induction a with
 | nil=>rfl
 | cons r t ih=>simp only[List.cons_append,enc,ih,List.append_assoc]
theorem yL (l:List Nat):(T l).data.toList=enc l:=rfl
theorem qO (l:List Nat):(T l).size=sz l:=by rw[size_eq,yL];rfl
theorem sz_app (a b:List Nat):sz (a++b)=sz a+sz b:=by unfold sz;rw[fW,List.length_append]
theorem yT:sz []=0:=rfl
theorem zG (r:Nat) (t:List Nat):sz (r::t)=wd r+sz t:=by unfold sz wd;simp only[enc,List.length_append]
theorem sV (r:Nat):1<=wd r/\wd r<=4:=by
 have:=encodeRuneZ_length (r:Int);unfold wd en encodeRune;rw[List.length_map];exact this
theorem mN (l:List Nat):l.length<=sz l:=by
 induction l with
 | nil=>simp
 | cons r t ih=>
  have:=(sV r).1;rw[zG,List.length_cons];omega
theorem fB {s t:ByteArray} (h:s.data.toList=t.data.toList):s=t:=by
 apply ByteArray.ext
 exact Array.ext' h
theorem fX (a b:List Nat):(T (a++b)).extract (sz a) (sz (a++b))=T b:=by
 apply fB
 rw[extract_data,yL,yL,fW,sz_app];unfold sz;rw[List.drop_left,Nat.add_sub_cancel_left,List.take_length]
theorem zT2 (a b:List Nat):(T (a++b)).extract 0 (sz a)=T a:=by
 apply fB
 rw[extract_data,yL,yL,fW];unfold sz;rw[List.drop_zero,Nat.sub_zero,List.take_left]
theorem yH {r:Nat} (h:r<128):wd r=1/\en r=[UInt8.ofNat r]:=by
 have e:en r=[UInt8.ofNat r]:=by
  unfold en encodeRune;rw[encodeRuneZ_one (by omega) (by omega)]
  rfl
 exact⟨by unfold wd;rw[e];rfl,e⟩
theorem u8n (n:Nat) (h:n<256):(UInt8.ofNat n).toNat=n:=by simp[UInt8.toNat_ofNat'];omega
theorem zT3 {r:Nat} (h:ok r) :
  (r<128/\en r=[UInt8.ofNat r])\/(128<=r/\r<2048/\en r=[UInt8.ofNat (192+r / 64),UInt8.ofNat (128+r % 64)])\/
  (2048<=r/\r<65536/\en r=[UInt8.ofNat (224+r / 4096),UInt8.ofNat (128+r / 64 % 64),UInt8.ofNat (128+r % 64)])\/
  (65536<=r/\en r=[UInt8.ofNat (240+r / 262144),UInt8.ofNat (128+r / 4096 % 64),UInt8.ofNat (128+r / 64 % 64),UInt8.ofNat (128+r % 64)]):=by
 unfold ok at h;unfold en encodeRune
 by_cases h1:r<128
 ·rw[encodeRuneZ_one (by omega) (by omega)]
  exact .inl ⟨h1,rfl⟩
 by_cases h2:r<2048
 ·rw[encodeRuneZ_two (by omega) (by omega)]
  simp only[List.map_cons,List.map_nil];rw[byteZ _ (192+r / 64) (by omega),byteZ _ (128+r % 64) (by omega)];exact .inr (.inl ⟨by omega,h2,rfl⟩)
 by_cases h3:r<65536
 ·rw[encodeRuneZ_three (by omega)]
  simp only[List.map_cons,List.map_nil];rw[byteZ _ (224+r / 4096) (by omega),byteZ _ (128+r / 64 % 64) (by omega),byteZ _ (128+r % 64) (by omega)];exact .inr (.inr (.inl ⟨by omega,h3,rfl⟩))
 ·rw[encodeRuneZ_four (by omega) (by omega)]
  simp only[List.map_cons,List.map_nil];rw[byteZ _ (240+r / 262144) (by omega),byteZ _ (128+r / 4096 % 64) (by omega),byteZ _ (128+r / 64 % 64) (by omega),byteZ _ (128+r % 64) (by omega)];exact .inr (.inr (.inr ⟨by omega,rfl⟩))
theorem zM9 {r:Nat} (h:ok r) (b:List Nat):dc (T (r::b)) 0=(r,wd r):=by
 have hz:(T (r::b)).size=wd r+sz b:=by rw[qO,zG]
 have hok:=h;unfold ok at hok;rw[zWw];simp only[aJ,yL,enc,Nat.zero_add,Nat.sub_zero];rw[hz];unfold wd
 rcases zT3 h with ⟨h1,e⟩ | ⟨h1,h2,e⟩ | ⟨h1,h2,e⟩ | ⟨h1,e⟩
 ·rw[e]
  simp only[List.cons_append,List.nil_append,List.getD_cons_zero,List.length_cons,List.length_nil];rw[u8n _ (by omega)];unfold decodeN;rw[if_pos h1]
 ·rw[e]
  simp only[List.cons_append,List.nil_append,List.getD_cons_zero,List.getD_cons_succ,List.length_cons,List.length_nil];rw[u8n _ (by omega),u8n _ (by omega)]
  generalize ((enc b).getD 0 0).toNat=x2
  generalize ((enc b).getD 1 0).toNat=x3
  unfold decodeN;rw[if_neg (by omega),if_pos ⟨by omega,by omega,by omega⟩,if_pos (by omega)];exact Prod.ext (by dsimp only;omega) rfl
 ·rw[e]
  simp only[List.cons_append,List.nil_append,List.getD_cons_zero,List.getD_cons_succ,List.length_cons,List.length_nil];rw[u8n _ (by omega),u8n _ (by omega),u8n _ (by omega)]
  generalize ((enc b).getD 0 0).toNat=x3
  unfold decodeN;rw[if_neg (by omega),if_neg (by omega),if_pos ⟨by omega,⟨by omega,by omega⟩,by omega,by omega⟩,if_pos ⟨by omega,by omega⟩];exact Prod.ext (by dsimp only;omega) rfl
 ·rw[e]
  simp only[List.cons_append,List.nil_append,List.getD_cons_zero,List.getD_cons_succ,List.length_cons,List.length_nil];rw[u8n _ (by omega),u8n _ (by omega),u8n _ (by omega),u8n _ (by omega)];unfold decodeN;rw[if_neg (by omega),if_neg (by omega),if_neg (by omega),if_pos ⟨by omega,⟨by omega,by omega⟩,⟨by omega,by omega⟩,by omega,by omega⟩,if_pos ⟨by omega,by omega⟩];exact Prod.ext (by dsimp only;omega) rfl
theorem rX (a:List Nat) {r:Nat} (h:ok r) (b:List Nat):dc (T (a++r::b)) (sz a)=(r,wd r):=by
 have e:=zMn (T (a++r::b)) (sz a) 0;rw[Nat.add_zero,qO,fX,zM9 h] at e;exact e.symm
theorem bad_T (a:List Nat) {r:Nat} (h:ok r) (b:List Nat):bad (T (a++r::b)) (sz a)=false:=by
 rw[mL,rX a h b];intro e;injection e with e1 e2;subst e1;exact absurd e2 (by decide)
theorem zMo (b:List Nat):∀a:List Nat,okl b->rns (T (a++b)) (sz a)=b/\vls (T (a++b)) (sz a)=true:=by
 induction b with
 | nil=>
  intro a _;rw[List.append_nil,fT (by rw[qO];omega),pM (by rw[qO];omega)];exact⟨rfl,rfl⟩
 | cons r t ih=>
  intro a h;obtain⟨h1,h2⟩:=yS.1 h;have hw:=sV r;have hlt:sz a<(T (a++r::t)).size:=by rw[qO,sz_app,zG];omega
  have e:a++r::t=(a++[r])++t:=by simp
  have es:sz a+wd r=sz (a++[r]):=by rw[sz_app,zG,yT];omega
  have k:=ih (a++[r]) h2;rw[<- e,<- es] at k;rw[vR hlt,sR hlt (bad_T a h1 t),rX a h1 t,k.1,k.2];exact⟨rfl,rfl⟩
theorem rns_T {l:List Nat} (h:okl l):rns (T l) 0=l:=(zMo l [] h).1
theorem zXd (s:ByteArray):∀p,vls s p=true->enc (rns s p)=s.data.toList.drop p/\okl (rns s p):=by
 refine along s _ ?_ ?_
 ·intro p h _
  rw[fT (by omega),List.drop_eq_nil_of_le (by rw[<- size_eq];omega)];exact⟨rfl,zPe⟩
 ·intro p h ih hv
  obtain⟨hb,hv'⟩:=zUy h hv;obtain⟨k1,k2⟩:=ih hv';rw[vR h];refine⟨?_,yS.2 ⟨zUz hb,k2⟩⟩
  show encodeRune ((dc s p).1:Int)++enc (rns s (p+(dc s p).2))=_
  rw[k1,zMj h hb];rw[<- List.drop_drop];exact List.take_append_drop _ _
theorem zT4 {s:ByteArray} (h:vls s 0=true):T (rns s 0)=s:=by
 apply fB
 rw[yL,(zXd s 0 h).1,List.drop_zero]
theorem aL {s:ByteArray} (h:vls s 0=true):okl (rns s 0):=(zXd s 0 h).2
def u8 (l:List Nat):List UInt8:=l.map UInt8.ofNat
theorem zPf {r:Nat} (h:ok r) (hr:128<=r):∃x t,en r=x::t/\128<=x.toNat:=by
 unfold ok at h
 rcases zT3 h with ⟨h1,e⟩ | ⟨h1,h2,e⟩ | ⟨h1,h2,e⟩ | ⟨h1,e⟩
 ·omega
 all_goals exact⟨_,_,e,by rw[u8n _ (by omega)];omega⟩
theorem pL {α:Type} [BEq α] (a b:α) (s t:List α):(a::s).isPrefixOf (b::t)=(a==b&&s.isPrefixOf t):=rfl
theorem zXe {p l:List Nat} (hp:∀x∈p,x<128) (h:okl l):hasPrefix (enc l) (u8 p)=p.isPrefixOf l:=by
 unfold hasPrefix
 induction p generalizing l with
 | nil=>cases l<;>simp[u8]
 | cons x p ih=>
  have hx:x<128:=hp x (by simp)
  cases l with
  | nil=>simp[u8,enc]
  | cons r t=>
   obtain⟨h1,h2⟩:=yS.1 h;have e1:u8 (x::p)=UInt8.ofNat x::u8 p:=rfl;rw[e1,pL]
   show List.isPrefixOf _ (en r++enc t)=_
   by_cases hr:r<128
   ·rw[(yH hr).2]
    show(UInt8.ofNat x==UInt8.ofNat r&&List.isPrefixOf (u8 p) (enc t))=_
    rw[ih (fun y hy=>hp y (by simp[hy])) h2]
    congr 1
    rw[Bool.eq_iff_iff,beq_iff_eq,beq_iff_eq]
    constructor
    ·intro e
     have:=congrArg UInt8.toNat e;rw[u8n _ (by omega),u8n _ (by omega)] at this;exact this
    ·intro e;rw[e]
   ·obtain⟨y,u,e,hy⟩:=zPf h1 (by omega)
    rw[e]
    show(UInt8.ofNat x==y&&_)=_
    have e2:(UInt8.ofNat x==y)=false:=by
     rw[beq_eq_false_iff_ne];intro e;rw[<- e,u8n _ (by omega)] at hy;omega
    have e3:(x==r)=false:=by rw[beq_eq_false_iff_ne];omega
    rw[e2,e3,Bool.false_and,Bool.false_and]
theorem xM {l:List Nat} (h:∀x∈l,x<128):enc l=u8 l:=by
 induction l with
 | nil=>rfl
 | cons r t ih=>
  show en r++enc t=UInt8.ofNat r::u8 t
  rw[(yH (h r (by simp))).2,ih (fun x hx=>h x (by simp[hx]))]
  rfl
theorem sW {l:List Nat} (h:∀x∈l,x<128):sz l=l.length:=by
 unfold sz;rw[xM h];simp[u8]
theorem iQ {l:List Nat} (h:∀x∈l,x<128):okl l:=fun r hr=>.inl (by have:=h r hr;omega)
def inr (r:Nat):Bool:=decide (cls r=1\/cls r=2\/r=39)
def blk (r:Nat):Bool:=decide (cls r=3)
def dig (r:Nat):Bool:=decide (cls r=2)
def lng (r:Nat):Bool:=inr r||decide (r=46)
def cnt (f:Nat->Bool):List Nat->Nat
 | []=>0
 | r::t=>if f r then cnt f t+1 else 0
theorem kC (f:Nat->Bool) (l:List Nat):cnt f l<=l.length:=by
 induction l with
 | nil=>exact Nat.le_refl _
 | cons r t ih=>unfold cnt;split<;>simp<;>omega
def cm (d:Int) (last:Nat):List Nat->Option Nat
 | []=>none
 | r::t=>
  if last=40/\r=42 then (if d+1=0 then some 1 else (cm (d+1) 32 t).map (· + 1))
  else if last=42/\r=41 then (if d-1=0 then some 1 else (cm (d-1) 32 t).map (· + 1))
  else (cm d r t).map (· + 1)
def opens (l:List Nat):Bool:=[40,42].isPrefixOf l
def cmt (l:List Nat):Nat:=if opens l then (cm 0 32 l).getD 0 else 0
def btwF:Nat->List Nat->Nat
 | 0,_=>0
 | f+1,l=>if cmt (l.drop (cnt blk l))=0 then cnt blk l else cnt blk l+cmt (l.drop (cnt blk l))+btwF f (l.drop (cnt blk l+cmt (l.drop (cnt blk l))))
def btw (l:List Nat):Nat:=btwF (l.length+1) l
def WORDS:List (List Nat):=[[118,97,108],[116,121,112,101],[100,97,116,97,116,121,112,101],[115,116,114,117,99,116,117,114,101],[115,105,103,110,97,116,117,114,101],[102,117,110,99,116,111,114],[111,112,101,110],[105,110,99,108,117,100,101],[115,116,114,117,99,116],[101,110,100],[115,105,103],[119,104,101,114,101],[115,104,97,114,105,110,103],[102,110],[108,101,116],[105,110],[105,102],[116,104,101,110],[101,108,115,101],[99,97,115,101],[102,111,108,100],[111,102],[116,111],[105,110,116],[98,111,111,108],[117,110,105,116],[116,114,117,101],[102,97,108,115,101],[109,117]]
def wrd (s:ByteArray):Bool:=WORDS.any fun x=>decide (s=T x)
def SIGNS:List (List Nat):=[[58,62],[61,62],[45,62],[35,49],[35,50],[40],[41],[123],[125],[44],[58],[61],[42],[43],[45],[60],[124]]
structure Tok where
 k:Int
 x:List Nat
 n:Int
 deriving DecidableEq
def spl:List Nat->List (List Nat)
 | []=>[[]]
 | r::t=>if r=46 then []::spl t else match spl t with | []=>[[r]] | a::b=>(r::a)::b
def vB (x:List Nat):Bool:=decide (sz x<=128)&&(spl x).all fun y=>!wrd (T y)&&nm (T y)
def nameT (l:List Nat):Option (Tok×Nat):=
 if wrd (T (l.take (cnt lng l))) then some (⟨3,l.take (cnt lng l),0⟩,cnt lng l)
 else if vB (l.take (cnt lng l)) then some (⟨1,l.take (cnt lng l),0⟩,cnt lng l) else none
def dgs (u:Nat):List Nat:=(decDigits u).map UInt8.toNat
def numb (n:Int):List Nat:=if n<0 then 126::dgs n.natAbs else dgs n.toNat
def val (a:Nat):List Nat->Nat
 | []=>a
 | r::t=>val (10*a+(r-48)) t
def digT (neg:Bool) (d:List Nat):Option (Tok×Nat):=
 if cnt inr (d.drop (cnt dig d)) > 0 then none
 else if cnt dig d=0 then none
 else if 1073741824<val 0 (d.take (cnt dig d)) then none
 else some (if neg then (⟨2,numb (-(val 0 (d.take (cnt dig d)):Int)),-(val 0 (d.take (cnt dig d)):Int)⟩,1+cnt dig d) else (⟨2,numb (val 0 (d.take (cnt dig d)):Int),(val 0 (d.take (cnt dig d)):Int)⟩,cnt dig d))
def numT (l:List Nat):Option (Tok×Nat):=match l with
 | 126::d=>digT true d
 | d=>digT false d
def signT (l:List Nat):Option (Tok×Nat):=(SIGNS.find? fun x=>x.isPrefixOf l).map fun x=>(⟨3,x,0⟩,x.length)
def tokT (l:List Nat):Option (Tok×Nat):=match l with
 | []=>none
 | r::_=>if cls r=1 then nameT l else if cls r=2\/r=126 then numT l else if opens l then none else signT l
def lexF:Nat->List Nat->Nat->List (Tok×Nat) ⊕ Nat
 | 0,_,a=>.inr a
 | f+1,l,a=>
  if l.drop (btw l)=[] then .inl []
  else match tokT (l.drop (btw l)) with
   | none=>.inr (a+sz (l.take (btw l)))
   | some (t,n)=>match lexF f ((l.drop (btw l)).drop n) (a+sz (l.take (btw l))+sz ((l.drop (btw l)).take n)) with
    | .inl r=>.inl ((t,a+sz (l.take (btw l)))::r)
    | .inr e=>.inr e
def lexL (l:List Nat) (a:Nat):List (Tok×Nat) ⊕ Nat:=lexF (l.length+1) l a
theorem zPg {d:Int} {last:Nat} {l:List Nat} {k:Nat} (h:cm d last l=some k):1<=k/\k<=l.length:=by
 induction l generalizing d last k with
 | nil=>cases h
 | cons r t ih=>
  unfold cm at h;have key:∀{d':Int} {last':Nat},(cm d' last' t).map (· + 1)=some k->1<=k/\k<=(r::t).length:=by
   intro d' last' h;obtain⟨j,hj,rfl⟩:=Option.map_eq_some_iff.1 h;have:=ih hj
   simp
   omega
  split at h
  ·split at h
   ·injection h with h;subst h;simp
   ·exact key h
  ·split at h
   ·split at h
    ·injection h with h;subst h;simp
    ·exact key h
   ·exact key h
theorem mO (l:List Nat):cmt l<=l.length:=by
 unfold cmt
 split
 ·cases h:cm 0 32 l with
  | none=>simp
  | some k=>exact(zPg h).2
 ·omega
theorem dG:∀(f g:Nat) (l:List Nat),l.length<f->l.length<g->btwF f l=btwF g l
 | 0,_,_,h,_=>by omega
 | _+1,0,_,_,h=>by omega
 | f+1,g+1,l,h1,h2=>by
  have hc:=mO (l.drop (cnt blk l));simp only[List.length_drop] at hc;simp only[btwF]
  by_cases h:cmt (l.drop (cnt blk l))=0
  ·rw[if_pos h,if_pos h]
  ·rw[if_neg h,if_neg h,dG f g _ (by simp only[List.length_drop];omega) (by simp only[List.length_drop];omega)]
theorem wP {l:List Nat} (h:cmt (l.drop (cnt blk l))=0):btw l=cnt blk l:=by
 show btwF (l.length+1) l=_
 simp only[btwF,if_pos h]
theorem jQ {l:List Nat} (h:cmt (l.drop (cnt blk l))≠0):btw l=cnt blk l+cmt (l.drop (cnt blk l))+btw (l.drop (cnt blk l+cmt (l.drop (cnt blk l)))):=by
 have hc:=mO (l.drop (cnt blk l));have hl:=kC blk l;simp only[List.length_drop] at hc
 show btwF (l.length+1) l=_
 simp only[btwF,if_neg h];unfold btw;rw[dG l.length (((l.drop (cnt blk l+cmt (l.drop (cnt blk l)))).length)+1) _ (by simp only[List.length_drop];omega) (by omega)]
theorem zXf:∀(f:Nat) (l:List Nat),btwF f l<=l.length
 | 0,l=>by simp[btwF]
 | f+1,l=>by
  have hl:=kC blk l;have hc:=mO (l.drop (cnt blk l));have:=zXf f (l.drop (cnt blk l+cmt (l.drop (cnt blk l))));simp only[List.length_drop] at hc this;simp only[btwF]
  split<;>omega
theorem aN (l:List Nat):btw l<=l.length:=zXf _ l
theorem dH {b:Bool} {d:List Nat} {t:Tok} {n:Nat} (h:digT b d=some (t,n)):1<=n/\n<=d.length+(if b then 1 else 0):=by
 unfold digT at h;have:=kC dig d
 split at h
 ·cases h
 split at h
 ·cases h
 split at h
 ·cases h
 ·cases b
  ·simp at h;simp;omega
  ·simp at h;simp;omega
theorem zT5 {f:Nat->Bool} {r:Nat} {t:List Nat} (h:f r=true):1<=cnt f (r::t):=by simp[cnt,h]
theorem zWy:∀x∈SIGNS,1<=x.length:=by decide
theorem iR {l x:List Nat} (h:SIGNS.find? (fun x=>x.isPrefixOf l)=some x):x∈SIGNS/\x <+: l:=by
 refine⟨List.mem_of_find?_eq_some h,?_⟩;have:=List.find?_some h;exact List.isPrefixOf_iff_prefix.1 this
theorem kP {l:List Nat} {t:Tok} {n:Nat} (h:tokT l=some (t,n)):1<=n/\n<=l.length:=by
 cases l with
 | nil=>cases h
 | cons r u=>
  unfold tokT at h;simp only at h
  split at h
  ·rename_i hr
   have h1:1<=cnt lng (r::u):=zT5 (by simp[lng,inr,hr]);have h2:=kC lng (r::u);unfold nameT at h
   split at h
   ·simp at h;omega
   ·split at h
    ·simp at h;omega
    ·cases h
  ·split at h
   ·unfold numT at h
    split at h
    ·have:=dH h;simp_all
    ·have:=dH h;simp_all
   ·split at h
    ·cases h
    ·unfold signT at h
     obtain⟨x,hx,he⟩:=Option.map_eq_some_iff.1 h;obtain⟨h1,h2⟩:=iR hx;have h3:=zWy x h1;have h4:=h2.length_le
     simp at he
     omega
theorem dI:∀(f g:Nat) (l:List Nat) (a:Nat),l.length<f->l.length<g->lexF f l a=lexF g l a
 | 0,_,_,_,h,_=>by omega
 | _+1,0,_,_,_,h=>by omega
 | f+1,g+1,l,a,h1,h2=>by
  simp only[lexF]
  split
  ·rfl
  ·split
   ·rfl
   ·rename_i t n e
    have:=kP e;simp only[List.length_drop] at this;rw[dI f g _ _ (by simp only[List.length_drop];omega) (by simp only[List.length_drop];omega)]
theorem jI {l:List Nat} {a:Nat} (h:l.drop (btw l)=[]):lexL l a = .inl []:=by
 unfold lexL;simp only[lexF,if_pos h]
theorem jJ {l:List Nat} {a:Nat} (h:l.drop (btw l)≠[]) (e:tokT (l.drop (btw l))=none):lexL l a = .inr (a+sz (l.take (btw l))):=by
 unfold lexL;simp only[lexF,if_neg h,e]
theorem kD {l:List Nat} {a:Nat} {t:Tok} {n:Nat} (h:l.drop (btw l)≠[]) (e:tokT (l.drop (btw l))=some (t,n)) :
  lexL l a=match lexL ((l.drop (btw l)).drop n) (a+sz (l.take (btw l))+sz ((l.drop (btw l)).take n)) with
   | .inl r=>.inl ((t,a+sz (l.take (btw l)))::r)
   | .inr e=>.inr e:=by
 have hn:=kP e;simp only[List.length_drop] at hn;have hb:=aN l;unfold lexL;rw[show lexF (l.length+1) l a=(if l.drop (btw l)=[] then Sum.inl [] else match tokT (l.drop (btw l)) with
                                                                              | none=>.inr (a+sz (l.take (btw l)))
                                                                              | some (t,n)=>match lexF l.length ((l.drop (btw l)).drop n) (a+sz (l.take (btw l))+sz ((l.drop (btw l)).take n)) with
                                                                               | .inl r=>.inl ((t,a+sz (l.take (btw l)))::r)
                                                                               | .inr e=>.inr e) from rfl,if_neg h,e]
 simp only;rw[dI l.length (((l.drop (btw l)).drop n).length+1) _ _ (by simp only[List.length_drop];omega) (by omega)]
def ckr (s:ByteArray):Int×Int:=if 16384<s.size then (0,3) else ck s 0
theorem zMa (s:ByteArray):∀p,((ck s p).2=0/\(ck s p).1=0/\vls s p=true/\∀r∈rns s p,rdb (r:Int)=true)\/((ck s p).2=4):=by
 refine along s _ ?_ ?_
 ·intro p h
  rw[zZd (by omega),pM (by omega),fT (by omega)];exact .inl ⟨rfl,rfl,rfl,fun _ h=>by cases h⟩
 ·intro p h ih
  cases hr:rdb ((dc s p).1:Int)
  ·rw[zXb h hr];exact .inr rfl
  ·rw[aI h hr]
   rcases ih with ⟨h1,h2,h3,h4⟩ | h1
   ·refine .inl ⟨h1,h2,?_,?_⟩
    ·cases hb:bad s p
     ·rw[sR h hb];exact h3
     ·rw[zXa hb] at hr
      exact absurd hr (by decide)
    ·rw[vR h]
     intro r hrr
     rcases List.mem_cons.1 hrr with rfl | h5
     ·exact hr
     ·exact h4 r h5
   ·exact .inr h1
theorem ck_T:∀{l:List Nat} (a:List Nat),okl (a++l)->(∀r∈l,rdb (r:Int)=true)->ck (T (a++l)) (sz a)=(0,0):=by
 intro l
 induction l with
 | nil=>intro a _ _;rw[List.append_nil];exact zZd (by rw[qO];omega)
 | cons r t ih=>
  intro a h hr;obtain⟨h0,h1⟩:=xB.1 h;obtain⟨h1,h2⟩:=yS.1 h1;have hw:=sV r;have hlt:sz a<(T (a++r::t)).size:=by rw[qO,sz_app,zG];omega
  have e:a++r::t=(a++[r])++t:=by simp
  have es:sz a+wd r=sz (a++[r]):=by rw[sz_app,zG,yT];omega
  have k:=ih (a++[r]) (by rw[<- e];exact h) (fun x hx=>hr x (by simp[hx]));rw[aI hlt (by rw[rX a h1 t];exact hr r (by simp)),rX a h1 t];rw[<- e,<- es] at k;exact k
def lexR (s:ByteArray):List (Tok×Nat)×Int×Int:=
 if (ckr s).2=0 then (match lexL (rns s 0) 0 with | .inl l=>(l,0,0) | .inr a=>([],(a:Int),5)) else ([],(ckr s).1,(ckr s).2)
end Go.Proofs.YtgeghilbikljcaaGreatDoor.B
