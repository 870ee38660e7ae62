/-
  Plain facts, without the program: texts as runes, by places in the text. 'dc s p': the rune that begins at byte p and its width; (65533, 1): none begins there. 'rns s p': the runes from place p on; 'vls s p': all from there on is right UTF-8.
-/
import Derived.Lib.RuneCount
import Derived.Lib.ValidLaws
import Derived.Shelf.Bits.Mul64
import Derived.Shelf.LaysC
import Derived.Shelf.LaysM
import Derived.Shelf.Slices.Turned
import Derived.Shelf.Small.Utf8
import Derived.Shelf.Strconv.Atoi
import Derived.Shelf.Strconv.AtoiAll
import Derived.Shelf.Strconv.AtoiErr
import Derived.Shelf.Strconv.AtoiErrFast
import Derived.Shelf.Strconv.AtoiFail
import Derived.Shelf.Strconv.AtoiInnerAll
import Derived.Shelf.Strconv.AtoiLong
import Derived.Shelf.Strconv.Clone
import Derived.Shelf.Strconv.ErrVarAll
import Derived.Shelf.Strconv.Itoa0
import Derived.Shelf.Strconv.Itoa1
import Derived.Shelf.Strconv.Itoa2
import Derived.Shelf.Strconv.Itoa3
import Derived.Shelf.Strconv.Lower
import Derived.Shelf.Strconv.ParseInt10
import Derived.Shelf.Strconv.ParseIntEmpty
import Derived.Shelf.Strconv.ParseUint10
import Derived.Shelf.Strconv.ParseUint10Any
import Derived.Shelf.Strconv.ParseUint10Empty
import Derived.Shelf.Strconv.RangeError
import Derived.Shelf.Strconv.SyntaxError
import Derived.Shelf.Strconv.ToError
import Derived.Shelf.Strconv.ToErrorRange
import Derived.Shelf.Strings.Builder1
import Derived.Shelf.Strings.Builder2
import Derived.Shelf.Strings.Builder2Cap
import Derived.Shelf.Strings.BuilderCap
import Derived.Shelf.Strings.BuilderF
import Derived.Shelf.Strings.BuilderK
import Derived.Shelf.Strings.Count
import Derived.Shelf.Strings.Cut
import Derived.Shelf.Strings.OnBuilder
import Derived.Shelf.Strings.Prefix
import Derived.Shelf.Strings.Replace
import Derived.Shelf.Strings.Search1
import Derived.Shelf.Strings.Search2
import Derived.Shelf.Strings.Search3
import Derived.Shelf.Strings.Shaped
import Derived.Shelf.Strings.Split
import Derived.Shelf.Strings.SplitShaped
import Derived.Shelf.Unicode.DecodeAny
import Derived.Shelf.Unicode.DecodeSlow
import Derived.Shelf.Utf8.RuneCount
import Derived.Test.YtbpijnalmakfaaaGreatDoorProg
set_option maxHeartbeats 40000000
set_option maxRecDepth 100000
namespace Go.Proofs.YtbpijnalmakfaaaGreatDoor.B
open Go.Lib
abbrev dc (s:ByteArray) (p:Nat):Nat×Nat:=Utf8.decode s p
def bt (s:ByteArray) (p:Nat):Nat:=(s.get! p).toNat
theorem vX (s:ByteArray) (p:Nat):bt s p<256:=(s.get! p).toNat_lt
theorem eS (s:ByteArray) (p:Nat):dc s p=decodeN (s.size-p) (bt s p) (bt s (p+1)) (bt s (p+2)) (bt s (p+3)):=decode_at s p
theorem wK (s:ByteArray) (p:Nat) (h:p<s.size):((s[p]'h).toNat)=bt s p:=by
 unfold bt
 simp[ByteArray.get!,getElem!_pos,h]
 rfl
theorem kT (s:ByteArray) (p:Nat):1≤(dc s p).2:=width_pos s p
theorem zP3 (s:ByteArray) (p:Nat):(dc s p).1≤1114111:=rune_le s p
theorem eU (s:ByteArray) (p:Nat) (h:p<s.size):p+(dc s p).2≤s.size:=by
 rw[eS]
 rcases decodeN_shape (s.size-p) (bt s p) (bt s (p+1)) (bt s (p+2)) (bt s (p+3)) with ⟨c,e⟩ | ⟨c1,c2,c3,cv,e⟩ | ⟨c1,c2,c3,c4,cv,cs,e⟩ | ⟨c1,c2,c3,c4,c5,cv,cw,e⟩ | e
 all_goals (rw[e];dsimp only;omega)
def bad (s:ByteArray) (p:Nat):Bool:=decide (dc s p=(65533,1))
theorem nV (s:ByteArray) (p:Nat):bad s p=true↔dc s p=(65533,1):=by simp[bad]
theorem fT (s:ByteArray) (p:Nat):bad s p=false↔dc s p≠(65533,1):=by simp[bad]
def nx (s:ByteArray) (p:Nat):Nat×Nat:=if bad s p then (0,0) else dc s p
theorem fI {s:ByteArray} {p:Nat} (h:bad s p=true):nx s p=(0,0):=by simp[nx,h]
theorem nW {s:ByteArray} {p:Nat} (h:bad s p=false):nx s p=dc s p:=by simp[nx,h]
def acc (s:ByteArray) (p r:Nat):Nat→Nat
 | 0=>r
 | k+1=>64*acc s p r k+(bt s (p+(k+1))-128)
def kU (s:ByteArray) (p k:Nat):Prop:=128≤bt s (p+k)∧bt s (p+k)≤191
def Lead (b n off least:Nat):Prop:=
 (n=2∧off=192∧least=128∧194≤b∧b<224)∨(n=3∧off=224∧least=2048∧224≤b∧b<240)∨(n=4∧off=240∧least=65536∧240≤b∧b<245)
theorem zSs {s:ByteArray} {p n off least:Nat} (h:Lead (bt s p) n off least) (hs:s.size-p<n):bad s p=true:=by
 rw[nV,eS];have h1:=vX s (p+1)
 rcases h with ⟨rfl,rfl,rfl,hl,hu⟩ | ⟨rfl,rfl,rfl,hl,hu⟩ | ⟨rfl,rfl,rfl,hl,hu⟩
 all_goals
  unfold decodeN
  repeat' split
  all_goals first | rfl | (exfalso;omega)
theorem rM {s:ByteArray} {p n off least k:Nat} (h:Lead (bt s p) n off least) (hk:1≤k) (hkn:k<n) (hc:¬kU s p k):bad s p=true:=by
 rw[nV,eS];have h1:=vX s (p+1);have h2:=vX s (p+2);have h3:=vX s (p+3);unfold kU at hc;have hk':k=1∨k=2∨k=3:=by rcases h with h | h | h<;>omega
 rcases hk' with rfl | rfl | rfl
 all_goals
  rcases h with ⟨rfl,rfl,rfl,hl,hu⟩ | ⟨rfl,rfl,rfl,hl,hu⟩ | ⟨rfl,rfl,rfl,hl,hu⟩
  all_goals
   unfold decodeN
   repeat' split
   all_goals first | rfl | (exfalso;omega)
theorem zSt (s:ByteArray) (p r k:Nat) (hr:r<64) (hk:k≤3):acc s p r k<20000000:=by
 have h1:=vX s (p+1);have h2:=vX s (p+2);have h3:=vX s (p+3);have e0:acc s p r 0=r:=rfl;have e1:acc s p r 1=64*acc s p r 0+(bt s (p+1)-128):=rfl;have e2:acc s p r 2=64*acc s p r 1+(bt s (p+2)-128):=rfl;have e3:acc s p r 3=64*acc s p r 2+(bt s (p+3)-128):=rfl;have hk':k=0∨k=1∨k=2∨k=3:=by omega
 rcases hk' with rfl | rfl | rfl | rfl<;>omega
theorem zJg {n b0 b1 b2 b3:Nat} (hl:194≤b0) (hu:b0<224) (hs:2≤n) (c1:128≤b1∧b1≤191):decodeN n b0 b1 b2 b3=(64*(b0-192)+(b1-128),2):=by
 unfold decodeN
 repeat' split
 all_goals first | (exfalso;omega) | (apply Prod.ext<;>simp only<;>omega)
theorem zSu {n b0 b1 b2 b3 r:Nat} (hl:224≤b0) (hu:b0<240) (hs:3≤n) (c1:128≤b1∧b1≤191) (c2:128≤b2∧b2≤191) (hr:r=64*(64*(b0-224)+(b1-128))+(b2-128)) :
  (r<2048∨1114111<r∨(55296≤r∧r≤57343)→decodeN n b0 b1 b2 b3=(65533,1))∧(¬(r<2048∨1114111<r∨(55296≤r∧r≤57343))→decodeN n b0 b1 b2 b3=(r,3)):=by
 constructor
 ·intro hb
  unfold decodeN
  repeat' split
  all_goals first | rfl | (exfalso;omega)
 ·intro hb
  unfold decodeN
  repeat' split
  all_goals first | (exfalso;omega) | (apply Prod.ext<;>simp only<;>omega)
theorem zM4 {n b0 b1 b2 b3 r:Nat} (hl:240≤b0) (hu:b0<245) (hs:4≤n) (c1:128≤b1∧b1≤191) (c2:128≤b2∧b2≤191) (c3:128≤b3∧b3≤191)
  (hr:r=64*(64*(64*(b0-240)+(b1-128))+(b2-128))+(b3-128)) :
  (r<65536∨1114111<r∨(55296≤r∧r≤57343)→decodeN n b0 b1 b2 b3=(65533,1))∧(¬(r<65536∨1114111<r∨(55296≤r∧r≤57343))→decodeN n b0 b1 b2 b3=(r,4)):=by
 constructor
 ·intro hb
  unfold decodeN
  repeat' split
  all_goals first | rfl | (exfalso;omega)
 ·intro hb
  unfold decodeN
  repeat' split
  all_goals first | (exfalso;omega) | (apply Prod.ext<;>simp only<;>omega)
theorem zX2 {a b:Nat} (h:b≠1):(a,b)≠((65533:Nat),(1:Nat)):=fun hx=>h (congrArg Prod.snd hx)
theorem sE {s:ByteArray} {p n off least r:Nat} (h:Lead (bt s p) n off least) (hs:n≤s.size-p) (hc:∀k,1≤k→k<n→kU s p k) (hr:r=acc s p (bt s p-off) (n-1)) :
  (r<least∨1114111<r∨(55296≤r∧r≤57343)→bad s p=true)∧(¬(r<least∨1114111<r∨(55296≤r∧r≤57343))→bad s p=false∧dc s p=(r,n)):=by
 rw[nV,fT,eS]
 rcases h with ⟨rfl,rfl,rfl,hl,hu⟩ | ⟨rfl,rfl,rfl,hl,hu⟩ | ⟨rfl,rfl,rfl,hl,hu⟩
 ·have c1:kU s p 1:=hc 1 (by omega) (by omega)
  have hr':r=64*(bt s p-192)+(bt s (p+1)-128):=hr;unfold kU at c1;rw[zJg hl hu hs c1,←hr'];exact⟨fun hb=>by exfalso;omega,fun _=>⟨zX2 (by omega),rfl⟩⟩
 ·have c1:kU s p 1:=hc 1 (by omega) (by omega)
  have c2:kU s p 2:=hc 2 (by omega) (by omega);have hr':r=64*(64*(bt s p-224)+(bt s (p+1)-128))+(bt s (p+2)-128):=hr;have k:=zSu (b3:=bt s (p+3)) hl hu hs c1 c2 hr';exact⟨k.1,fun hb=>by rw[k.2 hb];exact⟨zX2 (by omega),rfl⟩⟩
 ·have c1:kU s p 1:=hc 1 (by omega) (by omega)
  have c2:kU s p 2:=hc 2 (by omega) (by omega);have c3:kU s p 3:=hc 3 (by omega) (by omega);have hr':r=64*(64*(64*(bt s p-240)+(bt s (p+1)-128))+(bt s (p+2)-128))+(bt s (p+3)-128):=hr;have k:=zM4 hl hu hs c1 c2 c3 hr';exact⟨k.1,fun hb=>by rw[k.2 hb];exact⟨zX2 (by omega),rfl⟩⟩
theorem zM5 {s:ByteArray} {p:Nat} (h1:128≤bt s p) (h2:bt s p<194∨245≤bt s p):bad s p=true:=by
 rw[nV,eS];have h3:=vX s p;exact decodeN_bad _ _ _ _ _ (by omega)
theorem eV {s:ByteArray} {p:Nat} (h:bt s p<128):bad s p=false∧dc s p=(bt s p,1):=by
 have e:dc s p=(bt s p,1):=by rw[eS];unfold decodeN;rw[if_pos h]
 exact⟨by rw[fT,e];intro hx;injection hx with h1 h2;omega,e⟩
def rnsF (s:ByteArray):Nat→Nat→List Nat
 | 0,_=>[]
 | f+1,p=>if p<s.size then (dc s p).1::rnsF s f (p+(dc s p).2) else []
def vlsF (s:ByteArray):Nat→Nat→Bool
 | 0,_=>true
 | f+1,p=>if p<s.size then (if bad s p then false else vlsF s f (p+(dc s p).2)) else true
theorem zZb (s:ByteArray):∀f g p,s.size≤p+f→s.size≤p+g→rnsF s f p=rnsF s g p
 | 0,0,_,_,_=>rfl
 | 0,g+1,p,h,_=>by simp[rnsF,show ¬p<s.size by omega]
 | f+1,0,p,_,h=>by simp[rnsF,show ¬p<s.size by omega]
 | f+1,g+1,p,h1,h2=>by
  have hw:=kT s p;simp only[rnsF];rw[zZb s f g _ (by omega) (by omega)]
theorem zZc (s:ByteArray):∀f g p,s.size≤p+f→s.size≤p+g→vlsF s f p=vlsF s g p
 | 0,0,_,_,_=>rfl
 | 0,g+1,p,h,_=>by simp[vlsF,show ¬p<s.size by omega]
 | f+1,0,p,_,h=>by simp[vlsF,show ¬p<s.size by omega]
 | f+1,g+1,p,h1,h2=>by
  have hw:=kT s p;simp only[vlsF];rw[zZc s f g _ (by omega) (by omega)]
def rns (s:ByteArray) (p:Nat):List Nat:=rnsF s s.size p
def vls (s:ByteArray) (p:Nat):Bool:=vlsF s s.size p
theorem gQ {s:ByteArray} {p:Nat} (h:¬p<s.size):rns s p=[]:=by
 unfold rns;cases s.size<;>simp_all [rnsF]
theorem tA {s:ByteArray} {p:Nat} (h:¬p<s.size):vls s p=true:=by
 unfold vls;cases s.size<;>simp_all [vlsF]
theorem wL {s:ByteArray} {p:Nat} (h:p<s.size):rns s p=(dc s p).1::rns s (p+(dc s p).2):=by
 have hw:=kT s p;unfold rns;rw[zZb s s.size (s.size+1) p (by omega) (by omega)];simp only[rnsF,if_pos h]
theorem tC {s:ByteArray} {p:Nat} (h:p<s.size):vls s p=if bad s p then false else vls s (p+(dc s p).2):=by
 have hw:=kT s p;unfold vls;rw[zZc s s.size (s.size+1) p (by omega) (by omega)];simp only[vlsF,if_pos h]
theorem zC8 {s:ByteArray} {p:Nat} (h:p<s.size) (hb:bad s p=true):vls s p=false:=by rw[tC h,if_pos hb]
theorem tD {s:ByteArray} {p:Nat} (h:p<s.size) (hb:bad s p=false):vls s p=vls s (p+(dc s p).2):=by rw[tC h,hb];simp
theorem zJh {s:ByteArray} {p:Nat} (h:p<s.size) (hv:vls s p=true):bad s p=false∧vls s (p+(dc s p).2)=true:=by
 rw[tC h] at hv
 split at hv
 ·cases hv
 ·exact⟨by simp_all,hv⟩
theorem along (s:ByteArray) (Q:Nat→Prop) (hend:∀p,s.size≤p→Q p) (hstep:∀p,p<s.size→Q (p+(dc s p).2)→Q p):∀p,Q p:=by
 have key:∀f p,s.size≤p+f→Q p:=by
  intro f
  induction f with
  | zero=>intro p h;exact hend p (by omega)
  | succ f ih=>
   intro p h
   by_cases hp:p<s.size
   ·have hw:=kT s p
    exact hstep p hp (ih _ (by omega))
   ·exact hend p (by omega)
 intro p;exact key s.size p (by omega)
theorem eX (s:ByteArray):∀p,(rns s p).length≤s.size-p:=by
 refine along s _ ?_ ?_
 ·intro p h;rw[gQ (by omega)];simp
 ·intro p h ih
  have hw:=kT s p;rw[wL h,List.length_cons];omega
theorem yXd (s:ByteArray):validD s.data.toList=vls s 0:=by
 have key:∀p,validD (s.data.toList.drop p)=vls s p:=by
  refine along s _ ?_ ?_
  ·intro p h
   rw[tA (by omega),List.drop_eq_nil_of_le (by simpa using h)]
   rfl
  ·intro p h ih
   have hne:s.data.toList.drop p≠[]:=by
    intro he;have:=congrArg List.length he
    simp at this
    have h':s.size=s.data.size:=rfl;omega
   rw[validD_step _ hne,decodeL_drop,List.drop_drop,tC h];have e:((Utf8.decode s p).1=65533∧(Utf8.decode s p).2=1)↔bad s p=true:=by
    rw[nV];exact⟨fun⟨a,b⟩=>Prod.ext a b,fun hx=>by rw[show Utf8.decode s p=(65533,1) from hx];exact⟨rfl,rfl⟩⟩
   simp only[e];rw[ih]
 exact key 0
theorem yXe {s:ByteArray} {p:Nat} (h:p<s.size) (hb:bad s p=false):encodeRune ((dc s p).1:Int)=(s.data.toList.drop p).take (dc s p).2:=by
 have hne:s.data.toList.drop p≠[]:=by
  intro he;have:=congrArg List.length he
  simp at this
  have h':s.size=s.data.size:=rfl;omega
 have:=encode_decode (s.data.toList.drop p) hne;rw[decodeL_drop] at this;refine this fun hx=>?_
 rw[fT] at hb;exact hb (Prod.ext hx.1 hx.2)
def goF {σ α:Type} (s:ByteArray) (stop:σ→Nat→Option α) (next:σ→Nat→σ) (fin:σ→α):Nat→σ→Nat→α
 | 0,st,_=>fin st
 | f+1,st,p=>if p<s.size then (match stop st p with | some a=>a | none=>goF s stop next fin f (next st p) (p+(dc s p).2)) else fin st
section
variable {σ α:Type} {s:ByteArray} {stop:σ→Nat→Option α} {next:σ→Nat→σ} {fin:σ→α}
theorem tE {f:Nat} {st:σ} {p:Nat} (h:¬p<s.size):goF s stop next fin f st p=fin st:=by
 cases f with
 | zero=>rfl
 | succ f=>simp only[goF,if_neg h]
theorem eY:∀(f g:Nat) (st:σ) (p:Nat),s.size≤p+f→s.size≤p+g→goF s stop next fin f st p=goF s stop next fin g st p
 | 0,g,st,p,h,_=>by rw[tE (by omega),tE (by omega)]
 | f+1,0,st,p,_,h=>by rw[tE (by omega),tE (by omega)]
 | f+1,g+1,st,p,h1,h2=>by
  have hw:=kT s p;simp only[goF];rw[eY f g (next st p) (p+(dc s p).2) (by omega) (by omega)]
end
def vT {σ α:Type} (s:ByteArray) (stop:σ→Nat→Option α) (next:σ→Nat→σ) (fin:σ→α) (st:σ) (p:Nat):α:=goF s stop next fin s.size st p
section
variable {σ α:Type} {s:ByteArray} {stop:σ→Nat→Option α} {next:σ→Nat→σ} {fin:σ→α}
theorem nX {st:σ} {p:Nat} (h:¬p<s.size):vT s stop next fin st p=fin st:=tE h
theorem gR {st:σ} {p:Nat} {a:α} (h:p<s.size) (e:stop st p=some a):vT s stop next fin st p=a:=by
 unfold vT;rw[eY s.size (s.size+1) st p (by omega) (by omega)];simp only[goF,if_pos h,e]
theorem gS {st:σ} {p:Nat} (h:p<s.size) (e:stop st p=none):vT s stop next fin st p=vT s stop next fin (next st p) (p+(dc s p).2):=by
 have hw:=kT s p;unfold vT;rw[eY s.size (s.size+1) st p (by omega) (by omega)];simp only[goF,if_pos h,e]
end
def cls (r:Int):Int:=
 if (65≤r∧r≤90)∨(97≤r∧r≤122)∨r=95 then 1
 else if 48≤r∧r≤57 then 2
 else if r=32∨r=9∨r=10 then 3
 else if 128≤r∧r≤1114111∧r≠65533∧(r<55296∨57343<r) then 1
 else 0
theorem zJi (r c:Int) (h:((65≤r∧r≤90)∨(97≤r∧r≤122)∨r=95)∧c=1∨(48≤r∧r≤57)∧c=2∨(r=32∨r=9∨r=10)∧c=3∨
  (128≤r∧r≤1114111∧r≠65533∧(r<55296∨57343<r))∧c=1∨
  (¬((65≤r∧r≤90)∨(97≤r∧r≤122)∨r=95)∧¬(48≤r∧r≤57)∧¬(r=32∨r=9∨r=10)∧¬(128≤r∧r≤1114111∧r≠65533∧(r<55296∨57343<r)))∧c=0):cls r=c:=by
 unfold cls
 repeat' split
 all_goals omega
theorem zM6 (r:Int):cls r=3↔(r=32∨r=9∨r=10):=by
 unfold cls
 repeat' split
 all_goals omega
theorem zC9:cls 65533=0:=by decide
def rdb (r:Int):Bool:=!(decide (r=65533∨r=127∨(r<32∧r≠9∧r≠10)))
theorem zX3 (r:Int) (b:Bool) (h:b=true↔¬(r=65533∨r=127∨(r<32∧r≠9∧r≠10))):rdb r=b:=by
 unfold rdb;rw[Bool.eq_iff_iff,h,Bool.not_eq_true',decide_eq_false_iff_not]
theorem zX4 {s:ByteArray} {p:Nat} (h:bad s p=true):(dc s p).1=65533:=by
 rw[nV] at h;rw[h]
def ck (s:ByteArray) (p:Nat):Int×Int:=vT s (fun(_:Unit) p=>if rdb (dc s p).1 then none else some ((p:Int),(4:Int))) (fun u _=>u) (fun _=>(0,0)) () p
theorem zX5 {s:ByteArray} {p:Nat} (h:¬p<s.size):ck s p=(0,0):=nX h
theorem aE {s:ByteArray} {p:Nat} (h:p<s.size) (e:rdb (dc s p).1=false):ck s p=((p:Int),4):=gR h (by simp[e])
theorem aF {s:ByteArray} {p:Nat} (h:p<s.size) (e:rdb (dc s p).1=true):ck s p=ck s (p+(dc s p).2):=gS h (by simp[e])
def mst (r:Int) (first:Bool):Bool:=decide (cls r=1)||(decide (cls r=2∨r=39) && !first)
def nmF (s:ByteArray) (p:Nat):Bool:=vT s (fun(_:Unit) p=>if mst (dc s p).1 (decide (p=0)) then none else some false) (fun u _=>u) (fun _=>true) () p
theorem zSv {s:ByteArray} {p:Nat} (h:¬p<s.size):nmF s p=true:=nX h
theorem tF {s:ByteArray} {p:Nat} (h:p<s.size) (e:mst (dc s p).1 (decide (p=0))=false):nmF s p=false:=gR h (by simp[e])
theorem aG {s:ByteArray} {p:Nat} (h:p<s.size) (e:mst (dc s p).1 (decide (p=0))=true):nmF s p=nmF s (p+(dc s p).2):=gS h (by simp[e])
def nmL:List Nat→Bool
 | []=>true
 | r::t=>mst r true&&t.all fun(x:Nat)=>mst x false
theorem zJj (s:ByteArray):∀p,vls s p=false→nmF s p=false:=by
 refine along s _ ?_ ?_
 ·intro p h hv
  rw[tA (by omega)] at hv
  cases hv
 ·intro p h ih hv
  cases hb:bad s p
  ·rw[tD h hb] at hv
   cases hm:mst (dc s p).1 (decide (p=0))
   ·exact tF h hm
   ·rw[aG h hm];exact ih hv
  ·refine tF h ?_
   rw[zX4 hb];unfold mst;rw[show((65533:Nat):Int)=65533 from rfl,zC9]
   rfl
theorem zCa (s:ByteArray):∀p,0<p→nmF s p=(rns s p).all fun(x:Nat)=>mst x false:=by
 refine along s _ ?_ ?_
 ·intro p h _
  rw[zSv (by omega),gQ (by omega)]
  rfl
 ·intro p h ih hp
  have hw:=kT s p;have e0:decide (p=0)=false:=by simp;omega
  rw[wL h,List.all_cons,←ih (by omega)]
  cases hm:mst (dc s p).1 false
  ·rw[Bool.false_and]
   exact tF h (by rw[e0];exact hm)
  ·rw[Bool.true_and]
   exact aG h (by rw[e0];exact hm)
theorem zX6 (s:ByteArray):nmF s 0=nmL (rns s 0):=by
 by_cases h:0<s.size
 ·have hw:=kT s 0
  rw[wL h]
  show _=(mst (dc s 0).1 true&&_)
  rw[←zCa s _ (by omega)]
  cases hm:mst (dc s 0).1 true
  ·rw[Bool.false_and]
   exact tF h (by simpa using hm)
  ·rw[Bool.true_and]
   exact aG h (by simpa using hm)
 ·rw[zSv h,gQ h]
  rfl
def nm (s:ByteArray):Bool:=decide (1≤s.size∧s.size≤32)&&nmF s 0
theorem zCb {s:ByteArray} (h:¬(1≤s.size∧s.size≤32)):nm s=false:=by simp[nm,h]
theorem nm_of {s:ByteArray} (h:1≤s.size∧s.size≤32):nm s=nmF s 0:=by simp[nm,h]
def bhd (st:Int×Int) (r:Nat):Int×Int:=if r=10 then (st.1+1,1) else (st.1,st.2+1)
def pl (s:ByteArray) (at_:Int) (st:Int×Int) (p:Nat):Int×Int:=
 vT s (fun(st:Int×Int) p=>if at_<(p+(dc s p).2:Nat) then some st else none) (fun st p=>bhd st (dc s p).1) (fun st=>st) st p
theorem zJk {s:ByteArray} {p:Nat} (hb:bad s p=false):(dc s p).1<55296∨(57343<(dc s p).1∧(dc s p).1≤1114111):=by
 rw[fT,eS] at hb;rw[eS];have k0:=vX s p;have k1:=vX s (p+1);have k2:=vX s (p+2);have k3:=vX s (p+3)
 rcases decodeN_shape (s.size-p) (bt s p) (bt s (p+1)) (bt s (p+2)) (bt s (p+3)) with ⟨c,e⟩ | ⟨c1,c2,c3,cv,e⟩ | ⟨c1,c2,c3,c4,cv,cs,e⟩ | ⟨c1,c2,c3,c4,c5,cv,cw,e⟩ | e
 all_goals (rw[e] at hb ⊢;dsimp only)
 all_goals (try (exact absurd rfl hb))
 all_goals omega
theorem byteZ (z:Int) (n:Nat) (h:z=(n:Int)):z.toNat.toUInt8=UInt8.ofNat n:=by
 subst h
 rfl
theorem zJl (s:ByteArray) (a b:Nat):(s.extract a b).size=min (b-a) (s.size-a):=by
 rw[size_eq,extract_data,List.length_take,List.length_drop,←size_eq]
theorem zCc (s:ByteArray) (p:Nat) (h:¬p<s.size):bt s p=0:=by
 unfold bt
 simp[ByteArray.get!,getElem!_neg,h]
 rfl
theorem zX7 (s:ByteArray) (p:Nat):bt s p=(s.data.toList.getD p 0).toNat:=by
 by_cases h:p<s.size
 ·rw[←wK s p h]
  have h':p<s.data.toList.length:=by rw[←size_eq];exact h
  rw[List.getD_eq_getElem?_getD,List.getElem?_eq_getElem h']
  rfl
 ·rw[zCc s p h,List.getD_eq_getElem?_getD,List.getElem?_eq_none (by rw[←size_eq];omega)]
  rfl
theorem zX8 (s:ByteArray) (c q:Nat):bt (s.extract c s.size) q=bt s (c+q):=by
 rw[zX7,zX7,extract_data];simp only[List.getD_eq_getElem?_getD,List.getElem?_take,List.getElem?_drop]
 by_cases h:q<s.size-c
 ·rw[if_pos h]
 ·rw[if_neg h,List.getElem?_eq_none (by rw[←size_eq];omega)]
theorem yXf (s:ByteArray) (c q:Nat):dc (s.extract c s.size) q=dc s (c+q):=by
 rw[eS,eS,zX8,zX8,zX8,zX8,zJl];rw[show min (s.size-c) (s.size-c)-q=s.size-(c+q) by omega,show c+(q+1)=c+q+1 by omega,show c+(q+2)=c+q+2 by omega,show c+(q+3)=c+q+3 by omega]
end Go.Proofs.YtbpijnalmakfaaaGreatDoor.B
namespace Go.Proofs
open Go.Shelf
def Tryz.lays156_ren:Go.Shelf.Ren:=⟨fun | 156=>37 | 165=>76 | 166=>77 | 169=>78 | 240=>138 | 241=>139 | 276=>180 | 277=>181 | n=>n,fun | 31=>80 | 9=>9 | 3=>3 | 4=>4 | 0=>0 | 20=>20 | 72=>125 | 76=>128 | 70=>122 | 37=>123 | 75=>127 | 127=>167 | 164=>190 | 5=>5 | 80=>130 | n=>n,fun | n=>n⟩
theorem Tryz.lays156:Go.Proofs.Lays.n156 Tryz.prog Tryz.lays156_ren:={
 mixed:=by kernel_rfl
 f156:=Tryz.func37.trans (congrArg some (by kernel_rfl))
 f165:=Tryz.func76.trans (congrArg some (by kernel_rfl))
 f166:=Tryz.func77.trans (congrArg some (by kernel_rfl))
 f169:=Tryz.func78.trans (congrArg some (by kernel_rfl))
 f240:=Tryz.func138.trans (congrArg some (by kernel_rfl))
 f241:=Tryz.func139.trans (congrArg some (by kernel_rfl))
 f276:=Tryz.func180.trans (congrArg some (by kernel_rfl))
 f277:=Tryz.func181.trans (congrArg some (by kernel_rfl))
 t0:=Tryz.underlying0
 a0:=Tryz.isAgg0
 z0:=Tryz.sizeOf0
 v0:=Tryz.zeroValue0
 t3:=Tryz.underlying3
 a3:=Tryz.isAgg3
 z3:=Tryz.sizeOf3
 v3:=Tryz.zeroValue3
 t4:=Tryz.underlying4
 a4:=Tryz.isAgg4
 z4:=Tryz.sizeOf4
 v4:=Tryz.zeroValue4
 t9:=Tryz.underlying9
 a9:=Tryz.isAgg9
 z9:=Tryz.sizeOf9
 v9:=Tryz.zeroValue9
 t20:=Tryz.underlying20
 a20:=Tryz.isAgg20
 z20:=Tryz.sizeOf20
 v20:=Tryz.zeroValue20
 t31:=Tryz.underlying80
 a31:=Tryz.isAgg80
 z31:=Tryz.sizeOf80
 v31:=Tryz.zeroValue80
 t37:=Tryz.underlying123
 a37:=Tryz.isAgg123
 z37:=Tryz.sizeOf123
 v37:=Tryz.zeroValue123
 t70:=Tryz.underlying122
 a70:=Tryz.isAgg122
 z70:=Tryz.sizeOf122
 v70:=Tryz.zeroValue122
 t72:=Tryz.underlying125
 a72:=Tryz.isAgg125
 z72:=Tryz.sizeOf125
 v72:=Tryz.zeroValue125
 t75:=Tryz.underlying127
 a75:=Tryz.isAgg127
 z75:=Tryz.sizeOf127
 v75:=Tryz.zeroValue127
 t76:=Tryz.underlying128
 a76:=Tryz.isAgg128
 z76:=Tryz.sizeOf128
 v76:=Tryz.zeroValue128
 t127:=Tryz.underlying167
 a127:=Tryz.isAgg167
 z127:=Tryz.sizeOf167
 v127:=Tryz.zeroValue167
 t164:=Tryz.underlying190
 a164:=Tryz.isAgg190
 z164:=Tryz.sizeOf190
 v164:=Tryz.zeroValue190}
theorem Tryz.Builder_Extra_156:Builder.Extra Tryz.prog Tryz.lays156_ren:={
 sizeBuilder:=by kernel_rfl
 liesBuilder:=by kernel_rfl
 t5:=Tryz.underlying5
 a5:=Tryz.isAgg5
 z5:=Tryz.sizeOf5
 v5:=Tryz.zeroValue5
 infoByte:=by kernel_rfl
 cellsByte:=by kernel_rfl
 sizeByte:=by kernel_rfl
 neB5:=by decide}
open Go.RowKit in
theorem Tryz.strings_Join (bk o c:Nat) (xs:List ByteArray) (sep:ByteArray) (w:World) (hcells:∀(j:Nat) x,xs[j]? = some x→w.cell? ⟨bk,o+j,none⟩=some (.string x)) (hbk:bk<w.heap.size) (hN:xs.length≤140737488355328) (hcap:xs.length≤c) (hlen:(Lib.join (xs.map (·.data.toList)) sep.data.toList).length≤140737488355328) :
  Calls Tryz.prog 37 #[.slice (some ⟨bk,o,none⟩) xs.length c,.string sep] w fun e w'=>e = .returned (.string ⟨(Lib.join (xs.map (·.data.toList)) sep.data.toList).toArray⟩)∧Below w.heap.size w w':=Any.strings_Join Tryz.lays156 Tryz.Builder_Extra_156 bk o c xs sep w hcells hbk hN hcap hlen
def Tryz.lays119_ren:Go.Shelf.Ren:=⟨fun | 119=>148 | n=>n,fun | 21=>21 | 4=>4 | n=>n,fun | n=>n⟩
theorem Tryz.lays119:Go.Proofs.Lays.n119 Tryz.prog Tryz.lays119_ren:={
 mixed:=by kernel_rfl
 f119:=Tryz.func148.trans (congrArg some (by kernel_rfl))
 t4:=Tryz.underlying4
 a4:=Tryz.isAgg4
 z4:=Tryz.sizeOf4
 v4:=Tryz.zeroValue4
 t21:=Tryz.underlying21
 a21:=Tryz.isAgg21
 z21:=Tryz.sizeOf21
 v21:=Tryz.zeroValue21}
theorem Tryz.utf8_ValidRune (r:Int) (w:World) :
  Calls Tryz.prog 148 #[.int .i32 r] w fun e w'=>e = .returned (.bool (Lib.validRune r))∧w'=w:=Any.utf8_ValidRune Tryz.lays119 r w
def Tryz.laysM171_ren:Go.Shelf.Ren:=⟨fun | 171=>135 | 243=>178 | 246=>203 | 283=>230 | 284=>231 | 285=>232 | 286=>233 | 129=>255 | 317=>254 | 318=>256 | 319=>257 | 320=>258 | 337=>266 | 338=>267 | n=>n,fun | 3=>3 | 9=>9 | 2=>2 | 4=>4 | 171=>242 | 0=>0 | 53=>233 | 37=>123 | 5=>5 | 173=>245 | 212=>265 | 51=>230 | 20=>20 | 213=>266 | 46=>195 | 232=>277 | 233=>278 | n=>n,fun | 17=>8 | 18=>9 | 19=>10 | n=>n⟩
theorem Tryz.laysM171:Go.Proofs.LaysM.n171 Tryz.prog Tryz.laysM171_ren:={
 mixed:=by kernel_rfl
 f129:=Tryz.func255.trans (congrArg some (by kernel_rfl))
 f171:=Tryz.func135.trans (congrArg some (by kernel_rfl))
 f243:=Tryz.func178.trans (congrArg some (by kernel_rfl))
 f246:=Tryz.func203.trans (congrArg some (by kernel_rfl))
 f283:=Tryz.func230.trans (congrArg some (by kernel_rfl))
 f284:=Tryz.func231.trans (congrArg some (by kernel_rfl))
 f285:=Tryz.func232.trans (congrArg some (by kernel_rfl))
 f286:=Tryz.func233.trans (congrArg some (by kernel_rfl))
 f317:=Tryz.func254.trans (congrArg some (by kernel_rfl))
 f318:=Tryz.func256.trans (congrArg some (by kernel_rfl))
 f319:=Tryz.func257.trans (congrArg some (by kernel_rfl))
 f320:=Tryz.func258.trans (congrArg some (by kernel_rfl))
 f337:=Tryz.func266.trans (congrArg some (by kernel_rfl))
 f338:=Tryz.func267.trans (congrArg some (by kernel_rfl))
 t0:=Tryz.underlying0
 a0:=Tryz.isAgg0
 z0:=Tryz.sizeOf0
 v0:=Tryz.zeroValue0
 t2:=Tryz.underlying2
 a2:=Tryz.isAgg2
 z2:=Tryz.sizeOf2
 v2:=Tryz.zeroValue2
 t3:=Tryz.underlying3
 a3:=Tryz.isAgg3
 z3:=Tryz.sizeOf3
 v3:=Tryz.zeroValue3
 t4:=Tryz.underlying4
 a4:=Tryz.isAgg4
 z4:=Tryz.sizeOf4
 v4:=Tryz.zeroValue4
 t5:=Tryz.underlying5
 a5:=Tryz.isAgg5
 z5:=Tryz.sizeOf5
 v5:=Tryz.zeroValue5
 t9:=Tryz.underlying9
 a9:=Tryz.isAgg9
 z9:=Tryz.sizeOf9
 v9:=Tryz.zeroValue9
 t20:=Tryz.underlying20
 a20:=Tryz.isAgg20
 z20:=Tryz.sizeOf20
 v20:=Tryz.zeroValue20
 t37:=Tryz.underlying123
 a37:=Tryz.isAgg123
 z37:=Tryz.sizeOf123
 v37:=Tryz.zeroValue123
 t46:=Tryz.underlying195
 a46:=Tryz.isAgg195
 z46:=Tryz.sizeOf195
 v46:=Tryz.zeroValue195
 t51:=Tryz.underlying230
 a51:=Tryz.isAgg230
 z51:=Tryz.sizeOf230
 v51:=Tryz.zeroValue230
 t53:=Tryz.underlying233
 a53:=Tryz.isAgg233
 z53:=Tryz.sizeOf233
 v53:=Tryz.zeroValue233
 t171:=Tryz.underlying242
 a171:=Tryz.isAgg242
 z171:=Tryz.sizeOf242
 v171:=Tryz.zeroValue242
 t173:=Tryz.underlying245
 a173:=Tryz.isAgg245
 z173:=Tryz.sizeOf245
 v173:=Tryz.zeroValue245
 t212:=Tryz.underlying265
 a212:=Tryz.isAgg265
 z212:=Tryz.sizeOf265
 v212:=Tryz.zeroValue265
 t213:=Tryz.underlying266
 a213:=Tryz.isAgg266
 z213:=Tryz.sizeOf266
 t232:=Tryz.underlying277
 a232:=Tryz.isAgg277
 z232:=Tryz.sizeOf277
 v232:=Tryz.zeroValue277
 t233:=Tryz.underlying278
 a233:=Tryz.isAgg278
 z233:=Tryz.sizeOf278
 v233:=Tryz.zeroValue278
 g17:=by kernel_rfl
 g18:=by kernel_rfl
 g19:=by kernel_rfl
 i0:=by kernel_rfl
 i2:=by kernel_rfl
 i3:=by kernel_rfl
 i4:=by kernel_rfl
 i5:=by kernel_rfl
 i9:=by kernel_rfl
 i20:=by kernel_rfl
 i37:=by kernel_rfl
 i46:=by kernel_rfl
 i51:=by kernel_rfl
 i53:=by kernel_rfl
 i171:=by kernel_rfl
 i173:=by kernel_rfl
 i212:=by kernel_rfl
 i232:=by kernel_rfl
 i233:=by kernel_rfl
 m17:=by kernel_rfl
 m18:=by kernel_rfl
 m19:=by kernel_rfl}
open Go.RowKit Go.Sort Go.Lib in
theorem Tryz.strconv_Itoa (n:Int) (h0 : -9223372036854775808≤n) (h1:n≤9223372036854775807) (w:World) (htab:Lib.TabIs Tryz.prog w "internal/strconv.uint64pow10" .u64 Lib.pow10Tab) :
  Calls Tryz.prog 135 #[.int .i64 n] w fun e w'=>e = .returned (.string ⟨(Lib.itoa n).toArray⟩)∧∃k os,w'=grow (w.drewN k) os:=Any.strconv_Itoa Tryz.laysM171 n h0 h1 w htab
def Tryz.laysC172_ren:Go.Shelf.Ren:=⟨fun | 172=>155 | 244=>187 | 245=>188 | 247=>209 | 279=>210 | 280=>211 | 281=>212 | 282=>213 | 287=>239 | 316=>240 | 171=>135 | 205=>241 | 321=>259 | 322=>260 | 243=>178 | 246=>203 | 283=>230 | 284=>231 | 285=>232 | 286=>233 | 129=>255 | 317=>254 | 318=>256 | 319=>257 | 320=>258 | 337=>266 | 338=>267 | n=>n,fun | 9=>9 | 3=>3 | 75=>127 | 76=>128 | 4=>4 | 5=>5 | 167=>218 | 37=>123 | 0=>0 | 85=>219 | 2=>2 | 168=>221 | 53=>233 | 175=>249 | 46=>195 | 210=>253 | 127=>167 | 145=>272 | 143=>270 | 21=>21 | 171=>242 | 173=>245 | 212=>265 | 51=>230 | 20=>20 | 213=>266 | 232=>277 | 233=>278 | 80=>130 | n=>n,fun | 15=>5 | 16=>6 | 17=>8 | 18=>9 | 19=>10 | n=>n⟩
theorem Tryz.laysC172:Go.Proofs.LaysC.n172 Tryz.prog Tryz.laysC172_ren:={
 mixed:=by kernel_rfl
 f129:=Tryz.func255.trans (congrArg some (by kernel_rfl))
 f171:=Tryz.func135.trans (congrArg some (by kernel_rfl))
 f172:=Tryz.func155.trans (congrArg some (by kernel_rfl))
 f205:=Tryz.func241.trans (congrArg some (by kernel_rfl))
 f243:=Tryz.func178.trans (congrArg some (by kernel_rfl))
 f244:=Tryz.func187.trans (congrArg some (by kernel_rfl))
 f245:=Tryz.func188.trans (congrArg some (by kernel_rfl))
 f246:=Tryz.func203.trans (congrArg some (by kernel_rfl))
 f247:=Tryz.func209.trans (congrArg some (by kernel_rfl))
 f279:=Tryz.func210.trans (congrArg some (by kernel_rfl))
 f280:=Tryz.func211.trans (congrArg some (by kernel_rfl))
 f281:=Tryz.func212.trans (congrArg some (by kernel_rfl))
 f282:=Tryz.func213.trans (congrArg some (by kernel_rfl))
 f283:=Tryz.func230.trans (congrArg some (by kernel_rfl))
 f284:=Tryz.func231.trans (congrArg some (by kernel_rfl))
 f285:=Tryz.func232.trans (congrArg some (by kernel_rfl))
 f286:=Tryz.func233.trans (congrArg some (by kernel_rfl))
 f287:=Tryz.func239.trans (congrArg some (by kernel_rfl))
 f316:=Tryz.func240.trans (congrArg some (by kernel_rfl))
 f317:=Tryz.func254.trans (congrArg some (by kernel_rfl))
 f318:=Tryz.func256.trans (congrArg some (by kernel_rfl))
 f319:=Tryz.func257.trans (congrArg some (by kernel_rfl))
 f320:=Tryz.func258.trans (congrArg some (by kernel_rfl))
 f321:=Tryz.func259.trans (congrArg some (by kernel_rfl))
 f322:=Tryz.func260.trans (congrArg some (by kernel_rfl))
 f337:=Tryz.func266.trans (congrArg some (by kernel_rfl))
 f338:=Tryz.func267.trans (congrArg some (by kernel_rfl))
 t0:=Tryz.underlying0
 a0:=Tryz.isAgg0
 z0:=Tryz.sizeOf0
 v0:=Tryz.zeroValue0
 t2:=Tryz.underlying2
 a2:=Tryz.isAgg2
 z2:=Tryz.sizeOf2
 v2:=Tryz.zeroValue2
 t3:=Tryz.underlying3
 a3:=Tryz.isAgg3
 z3:=Tryz.sizeOf3
 v3:=Tryz.zeroValue3
 t4:=Tryz.underlying4
 a4:=Tryz.isAgg4
 z4:=Tryz.sizeOf4
 v4:=Tryz.zeroValue4
 t5:=Tryz.underlying5
 a5:=Tryz.isAgg5
 z5:=Tryz.sizeOf5
 v5:=Tryz.zeroValue5
 t9:=Tryz.underlying9
 a9:=Tryz.isAgg9
 z9:=Tryz.sizeOf9
 v9:=Tryz.zeroValue9
 t20:=Tryz.underlying20
 a20:=Tryz.isAgg20
 z20:=Tryz.sizeOf20
 v20:=Tryz.zeroValue20
 t21:=Tryz.underlying21
 a21:=Tryz.isAgg21
 z21:=Tryz.sizeOf21
 v21:=Tryz.zeroValue21
 t37:=Tryz.underlying123
 a37:=Tryz.isAgg123
 z37:=Tryz.sizeOf123
 v37:=Tryz.zeroValue123
 t46:=Tryz.underlying195
 a46:=Tryz.isAgg195
 z46:=Tryz.sizeOf195
 v46:=Tryz.zeroValue195
 t51:=Tryz.underlying230
 a51:=Tryz.isAgg230
 z51:=Tryz.sizeOf230
 v51:=Tryz.zeroValue230
 t53:=Tryz.underlying233
 a53:=Tryz.isAgg233
 z53:=Tryz.sizeOf233
 v53:=Tryz.zeroValue233
 t75:=Tryz.underlying127
 a75:=Tryz.isAgg127
 z75:=Tryz.sizeOf127
 v75:=Tryz.zeroValue127
 t76:=Tryz.underlying128
 a76:=Tryz.isAgg128
 z76:=Tryz.sizeOf128
 v76:=Tryz.zeroValue128
 t85:=Tryz.underlying219
 a85:=Tryz.isAgg219
 z85:=Tryz.sizeOf219
 v85:=Tryz.zeroValue219
 t127:=Tryz.underlying167
 a127:=Tryz.isAgg167
 z127:=Tryz.sizeOf167
 v127:=Tryz.zeroValue167
 t143:=Tryz.underlying270
 a143:=Tryz.isAgg270
 z143:=Tryz.sizeOf270
 v143:=Tryz.zeroValue270
 t145:=Tryz.underlying272
 a145:=Tryz.isAgg272
 z145:=Tryz.sizeOf272
 v145:=Tryz.zeroValue272
 t167:=Tryz.underlying218
 a167:=Tryz.isAgg218
 z167:=Tryz.sizeOf218
 v167:=Tryz.zeroValue218
 t168:=Tryz.underlying221
 a168:=Tryz.isAgg221
 z168:=Tryz.sizeOf221
 v168:=Tryz.zeroValue221
 t171:=Tryz.underlying242
 a171:=Tryz.isAgg242
 z171:=Tryz.sizeOf242
 v171:=Tryz.zeroValue242
 t173:=Tryz.underlying245
 a173:=Tryz.isAgg245
 z173:=Tryz.sizeOf245
 v173:=Tryz.zeroValue245
 t175:=Tryz.underlying249
 a175:=Tryz.isAgg249
 z175:=Tryz.sizeOf249
 v175:=Tryz.zeroValue249
 t210:=Tryz.underlying253
 a210:=Tryz.isAgg253
 z210:=Tryz.sizeOf253
 v210:=Tryz.zeroValue253
 t212:=Tryz.underlying265
 a212:=Tryz.isAgg265
 z212:=Tryz.sizeOf265
 v212:=Tryz.zeroValue265
 t213:=Tryz.underlying266
 a213:=Tryz.isAgg266
 z213:=Tryz.sizeOf266
 t232:=Tryz.underlying277
 a232:=Tryz.isAgg277
 z232:=Tryz.sizeOf277
 v232:=Tryz.zeroValue277
 t233:=Tryz.underlying278
 a233:=Tryz.isAgg278
 z233:=Tryz.sizeOf278
 v233:=Tryz.zeroValue278
 g15:=by kernel_rfl
 g16:=by kernel_rfl
 g17:=by kernel_rfl
 g18:=by kernel_rfl
 g19:=by kernel_rfl
 t80:=Tryz.underlying130
 a80:=Tryz.isAgg130
 z80:=Tryz.sizeOf130
 v80:=Tryz.zeroValue130
 i0:=by kernel_rfl
 i2:=by kernel_rfl
 i3:=by kernel_rfl
 i4:=by kernel_rfl
 i5:=by kernel_rfl
 i9:=by kernel_rfl
 i20:=by kernel_rfl
 i21:=by kernel_rfl
 i37:=by kernel_rfl
 i46:=by kernel_rfl
 i51:=by kernel_rfl
 i53:=by kernel_rfl
 i75:=by kernel_rfl
 i76:=by kernel_rfl
 i80:=by kernel_rfl
 i85:=by kernel_rfl
 i127:=by kernel_rfl
 i143:=by kernel_rfl
 i145:=by kernel_rfl
 i167:=by kernel_rfl
 i168:=by kernel_rfl
 i171:=by kernel_rfl
 i173:=by kernel_rfl
 i175:=by kernel_rfl
 i210:=by kernel_rfl
 i212:=by kernel_rfl
 i232:=by kernel_rfl
 i233:=by kernel_rfl
 m15:=by kernel_rfl
 m16:=by kernel_rfl
 m17:=by kernel_rfl
 m18:=by kernel_rfl
 m19:=by kernel_rfl
 c0:=by kernel_rfl
 c2:=by kernel_rfl
 c3:=by kernel_rfl
 c4:=by kernel_rfl
 c5:=by kernel_rfl
 c9:=by kernel_rfl
 c20:=by kernel_rfl
 c21:=by kernel_rfl
 c37:=by kernel_rfl
 c46:=by kernel_rfl
 c51:=by kernel_rfl
 c53:=by kernel_rfl
 c75:=by kernel_rfl
 c76:=by kernel_rfl
 c80:=by kernel_rfl
 c85:=by kernel_rfl
 c127:=by kernel_rfl
 c143:=by kernel_rfl
 c145:=by kernel_rfl
 c167:=by kernel_rfl
 c168:=by kernel_rfl
 c171:=by kernel_rfl
 c173:=by kernel_rfl
 c175:=by kernel_rfl
 c210:=by kernel_rfl
 c212:=by kernel_rfl
 c213:=by kernel_rfl
 c232:=by kernel_rfl
 c233:=by kernel_rfl}
open Go.RowKit in
theorem Tryz.strconv_Atoi_err (s:ByteArray) (hl:s.size≤18) (h:Lib.atoi s.data.toList=none) (ev:Value) (w:World) (hv:w.cell? ⟨5,0,none⟩=some ev) (hev:ev = .nilIface∨∃te pe,ev = .iface te pe) :
  Calls Tryz.prog 155 #[.string s] w fun e w'=>∃N,e = .returned (.tuple #[.int .i64 0,.iface 221 (.pointer (some ⟨N,0,none⟩))])∧w.heap.size≤N∧w'.heap[N]? = some (.cells #[.string ⟨#[65,116,111,105]⟩,.string s,ev] 253 (0,0))∧Below w.heap.size w w':=Any.strconv_Atoi_err Tryz.laysC172 s hl h ev w hv hev
open Go.RowKit in
theorem Tryz.strconv_Atoi_ok (s:ByteArray) (hmax:s.size≤9223372036854775806) (v:Int) (h:Lib.atoiAll s.data.toList = .ok v) (w:World) :
  Calls Tryz.prog 155 #[.string s] w fun e w'=>e = .returned (.tuple #[.int .i64 v,.nilIface])∧(w'=w∨∃t,w'=Lib.bytesWorld w 5 t):=Any.strconv_Atoi_ok Tryz.laysC172 s hmax v h w
open Go.RowKit in
theorem Tryz.strconv_Atoi_range (s:ByteArray) (hlim:s.size≤281474976710656) (h:Lib.atoiAll s.data.toList = .range) (ev:Value) (w:World) (hv:w.cell? ⟨6,0,none⟩=some ev) (hev:ev = .nilIface∨∃te pe,ev = .iface te pe) :
  Calls Tryz.prog 155 #[.string s] w fun e w'=>∃N,e = .returned (.tuple #[.int .i64 (Lib.atoiSat s.data.toList),.iface 221 (.pointer (some ⟨N,0,none⟩))])∧w.heap.size≤N∧w'.heap[N]? = some (.cells #[.string ⟨#[65,116,111,105]⟩,.string s,ev] 253 (0,0))∧Below w.heap.size w w':=Any.strconv_Atoi_range Tryz.laysC172 s hlim h ev w hv hev
def Tryz.lays144_ren:Go.Shelf.Ren:=⟨fun | 144=>116 | 143=>168 | 219=>194 | 217=>219 | 225=>220 | 224=>221 | 267=>222 | 266=>243 | 314=>244 | n=>n,fun | 9=>9 | 4=>4 | 3=>3 | 5=>5 | 46=>195 | 146=>231 | 51=>230 | n=>n,fun | 1=>4 | n=>n⟩
theorem Tryz.lays144:Go.Proofs.Lays.n144 Tryz.prog Tryz.lays144_ren:={
 mixed:=by kernel_rfl
 f143:=Tryz.func168.trans (congrArg some (by kernel_rfl))
 f144:=Tryz.func116.trans (congrArg some (by kernel_rfl))
 f217:=Tryz.func219.trans (congrArg some (by kernel_rfl))
 f219:=Tryz.func194.trans (congrArg some (by kernel_rfl))
 f224:=Tryz.func221.trans (congrArg some (by kernel_rfl))
 f225:=Tryz.func220.trans (congrArg some (by kernel_rfl))
 f266:=Tryz.func243.trans (congrArg some (by kernel_rfl))
 f267:=Tryz.func222.trans (congrArg some (by kernel_rfl))
 f314:=Tryz.func244.trans (congrArg some (by kernel_rfl))
 t3:=Tryz.underlying3
 a3:=Tryz.isAgg3
 z3:=Tryz.sizeOf3
 v3:=Tryz.zeroValue3
 t4:=Tryz.underlying4
 a4:=Tryz.isAgg4
 z4:=Tryz.sizeOf4
 v4:=Tryz.zeroValue4
 t5:=Tryz.underlying5
 a5:=Tryz.isAgg5
 z5:=Tryz.sizeOf5
 v5:=Tryz.zeroValue5
 t9:=Tryz.underlying9
 a9:=Tryz.isAgg9
 z9:=Tryz.sizeOf9
 v9:=Tryz.zeroValue9
 t46:=Tryz.underlying195
 a46:=Tryz.isAgg195
 z46:=Tryz.sizeOf195
 v46:=Tryz.zeroValue195
 t51:=Tryz.underlying230
 a51:=Tryz.isAgg230
 z51:=Tryz.sizeOf230
 v51:=Tryz.zeroValue230
 t146:=Tryz.underlying231
 a146:=Tryz.isAgg231
 z146:=Tryz.sizeOf231
 v146:=Tryz.zeroValue231
 g1:=by kernel_rfl}
open Go.RowKit Go.Lib in
theorem Tryz.strings_Contains (s sub:ByteArray) (m:Int) (w:World) (hs:s.size<4294967281) (hm:w.cell? ⟨4,0,none⟩=some (.int .i64 m)) :
  Calls Tryz.prog 116 #[.string s,.string sub] w fun e w'=>e = .returned (.bool (Lib.contains s.data.toList sub.data.toList))∧w'=w:=Any.strings_Contains Tryz.lays144 s sub m w hs hm
def Tryz.lays145_ren:Go.Shelf.Ren:=⟨fun | 145=>216 | 220=>242 | 219=>194 | 217=>219 | 225=>220 | 224=>221 | 267=>222 | 266=>243 | 314=>244 | n=>n,fun | 9=>9 | 4=>4 | 59=>228 | 3=>3 | 5=>5 | 46=>195 | 146=>231 | 51=>230 | n=>n,fun | 1=>4 | n=>n⟩
theorem Tryz.lays145:Go.Proofs.Lays.n145 Tryz.prog Tryz.lays145_ren:={
 mixed:=by kernel_rfl
 f145:=Tryz.func216.trans (congrArg some (by kernel_rfl))
 f217:=Tryz.func219.trans (congrArg some (by kernel_rfl))
 f219:=Tryz.func194.trans (congrArg some (by kernel_rfl))
 f220:=Tryz.func242.trans (congrArg some (by kernel_rfl))
 f224:=Tryz.func221.trans (congrArg some (by kernel_rfl))
 f225:=Tryz.func220.trans (congrArg some (by kernel_rfl))
 f266:=Tryz.func243.trans (congrArg some (by kernel_rfl))
 f267:=Tryz.func222.trans (congrArg some (by kernel_rfl))
 f314:=Tryz.func244.trans (congrArg some (by kernel_rfl))
 t3:=Tryz.underlying3
 a3:=Tryz.isAgg3
 z3:=Tryz.sizeOf3
 v3:=Tryz.zeroValue3
 t4:=Tryz.underlying4
 a4:=Tryz.isAgg4
 z4:=Tryz.sizeOf4
 v4:=Tryz.zeroValue4
 t5:=Tryz.underlying5
 a5:=Tryz.isAgg5
 z5:=Tryz.sizeOf5
 v5:=Tryz.zeroValue5
 t9:=Tryz.underlying9
 a9:=Tryz.isAgg9
 z9:=Tryz.sizeOf9
 v9:=Tryz.zeroValue9
 t46:=Tryz.underlying195
 a46:=Tryz.isAgg195
 z46:=Tryz.sizeOf195
 v46:=Tryz.zeroValue195
 t51:=Tryz.underlying230
 a51:=Tryz.isAgg230
 z51:=Tryz.sizeOf230
 v51:=Tryz.zeroValue230
 t59:=Tryz.underlying228
 a59:=Tryz.isAgg228
 z59:=Tryz.sizeOf228
 v59:=Tryz.zeroValue228
 t146:=Tryz.underlying231
 a146:=Tryz.isAgg231
 z146:=Tryz.sizeOf231
 v146:=Tryz.zeroValue231
 g1:=by kernel_rfl}
open Go.RowKit Go.Lib in
theorem Tryz.strings_Cut (s sep:ByteArray) (m:Int) (w:World) (hs:s.size<4294967281) (hm:w.cell? ⟨4,0,none⟩=some (.int .i64 m)) :
  Calls Tryz.prog 216 #[.string s,.string sep] w fun e w'=>e = .returned (.tuple #[.string ⟨(Lib.cut s.data.toList sep.data.toList).1.toArray⟩,.string ⟨(Lib.cut s.data.toList sep.data.toList).2.1.toArray⟩,.bool (Lib.cut s.data.toList sep.data.toList).2.2])∧∃n,w'=w.drewN n:=Any.strings_Cut Tryz.lays145 s sep m w hs hm
def Tryz.laysM143_ren:Go.Shelf.Ren:=⟨fun | 143=>168 | 219=>194 | 217=>219 | 225=>220 | 224=>221 | 267=>222 | 266=>243 | 314=>244 | n=>n,fun | 9=>9 | 3=>3 | 4=>4 | 5=>5 | 46=>195 | 146=>231 | 51=>230 | n=>n,fun | 1=>4 | n=>n⟩
theorem Tryz.laysM143:Go.Proofs.LaysM.n143 Tryz.prog Tryz.laysM143_ren:={
 mixed:=by kernel_rfl
 f143:=Tryz.func168.trans (congrArg some (by kernel_rfl))
 f217:=Tryz.func219.trans (congrArg some (by kernel_rfl))
 f219:=Tryz.func194.trans (congrArg some (by kernel_rfl))
 f224:=Tryz.func221.trans (congrArg some (by kernel_rfl))
 f225:=Tryz.func220.trans (congrArg some (by kernel_rfl))
 f266:=Tryz.func243.trans (congrArg some (by kernel_rfl))
 f267:=Tryz.func222.trans (congrArg some (by kernel_rfl))
 f314:=Tryz.func244.trans (congrArg some (by kernel_rfl))
 t3:=Tryz.underlying3
 a3:=Tryz.isAgg3
 z3:=Tryz.sizeOf3
 v3:=Tryz.zeroValue3
 t4:=Tryz.underlying4
 a4:=Tryz.isAgg4
 z4:=Tryz.sizeOf4
 v4:=Tryz.zeroValue4
 t5:=Tryz.underlying5
 a5:=Tryz.isAgg5
 z5:=Tryz.sizeOf5
 v5:=Tryz.zeroValue5
 t9:=Tryz.underlying9
 a9:=Tryz.isAgg9
 z9:=Tryz.sizeOf9
 v9:=Tryz.zeroValue9
 t46:=Tryz.underlying195
 a46:=Tryz.isAgg195
 z46:=Tryz.sizeOf195
 v46:=Tryz.zeroValue195
 t51:=Tryz.underlying230
 a51:=Tryz.isAgg230
 z51:=Tryz.sizeOf230
 v51:=Tryz.zeroValue230
 t146:=Tryz.underlying231
 a146:=Tryz.isAgg231
 z146:=Tryz.sizeOf231
 v146:=Tryz.zeroValue231
 g1:=by kernel_rfl
 i3:=by kernel_rfl
 i4:=by kernel_rfl
 i5:=by kernel_rfl
 i9:=by kernel_rfl
 i46:=by kernel_rfl
 i51:=by kernel_rfl
 i146:=by kernel_rfl
 m1:=by kernel_rfl
 s1_3:=fun w h=>Go.Proofs.cell_of_shapedOpen_int (zero:=#[.int .i64 0]) (t:=3) h (of_decide_eq_true (by kernel_rfl)) (by kernel_rfl) rfl (by kernel_rfl) (by kernel_rfl) Tryz.underlying3}
def Tryz.lays99_ren:Go.Shelf.Ren:=⟨fun | 99=>96 | 206=>156 | n=>n,fun | 9=>9 | 4=>4 | 3=>3 | n=>n,fun | n=>n⟩
theorem Tryz.lays99:Go.Proofs.Lays.n99 Tryz.prog Tryz.lays99_ren:={
 mixed:=by kernel_rfl
 f99:=Tryz.func96.trans (congrArg some (by kernel_rfl))
 f206:=Tryz.func156.trans (congrArg some (by kernel_rfl))
 t3:=Tryz.underlying3
 a3:=Tryz.isAgg3
 z3:=Tryz.sizeOf3
 v3:=Tryz.zeroValue3
 t4:=Tryz.underlying4
 a4:=Tryz.isAgg4
 z4:=Tryz.sizeOf4
 v4:=Tryz.zeroValue4
 t9:=Tryz.underlying9
 a9:=Tryz.isAgg9
 z9:=Tryz.sizeOf9
 v9:=Tryz.zeroValue9}
open Go.RowKit Go.Lib in
theorem Tryz.strings_HasPrefix (s p:ByteArray) (w:World) :
  Calls Tryz.prog 96 #[.string s,.string p] w fun e w'=>e = .returned (.bool (Lib.hasPrefix s.data.toList p.data.toList))∧w'=w:=Any.strings_HasPrefix Tryz.lays99 s p w
def Tryz.lays101_ren:Go.Shelf.Ren:=⟨fun | 101=>153 | 208=>186 | 206=>156 | n=>n,fun | 9=>9 | 4=>4 | 3=>3 | n=>n,fun | n=>n⟩
theorem Tryz.lays101:Go.Proofs.Lays.n101 Tryz.prog Tryz.lays101_ren:={
 mixed:=by kernel_rfl
 f101:=Tryz.func153.trans (congrArg some (by kernel_rfl))
 f206:=Tryz.func156.trans (congrArg some (by kernel_rfl))
 f208:=Tryz.func186.trans (congrArg some (by kernel_rfl))
 t3:=Tryz.underlying3
 a3:=Tryz.isAgg3
 z3:=Tryz.sizeOf3
 v3:=Tryz.zeroValue3
 t4:=Tryz.underlying4
 a4:=Tryz.isAgg4
 z4:=Tryz.sizeOf4
 v4:=Tryz.zeroValue4
 t9:=Tryz.underlying9
 a9:=Tryz.isAgg9
 z9:=Tryz.sizeOf9
 v9:=Tryz.zeroValue9}
open Go.RowKit Go.Lib in
theorem Tryz.strings_TrimPrefix (s p:ByteArray) (w:World) :
  Calls Tryz.prog 153 #[.string s,.string p] w fun e w'=>e = .returned (.string ⟨(Lib.trimPrefix s.data.toList p.data.toList).toArray⟩)∧w'=w:=Any.strings_TrimPrefix Tryz.lays101 s p w
def Tryz.lays146_ren:Go.Shelf.Ren:=⟨fun | 146=>184 | 221=>207 | 268=>238 | 138=>177 | 143=>168 | 195=>201 | 197=>93 | 218=>202 | 219=>194 | 260=>149 | 217=>219 | 225=>220 | 224=>221 | 267=>222 | 266=>243 | 314=>244 | n=>n,fun | 9=>9 | 31=>80 | 3=>3 | 4=>4 | 0=>0 | 105=>112 | 21=>21 | 5=>5 | 46=>195 | 119=>194 | 139=>198 | 138=>197 | 146=>231 | 51=>230 | n=>n,fun | 1=>4 | 3=>2 | 4=>3 | n=>n⟩
theorem Tryz.lays146:Go.Proofs.Lays.n146 Tryz.prog Tryz.lays146_ren:={
 mixed:=by kernel_rfl
 f138:=Tryz.func177.trans (congrArg some (by kernel_rfl))
 f143:=Tryz.func168.trans (congrArg some (by kernel_rfl))
 f146:=Tryz.func184.trans (congrArg some (by kernel_rfl))
 f195:=Tryz.func201.trans (congrArg some (by kernel_rfl))
 f197:=Tryz.func93.trans (congrArg some (by kernel_rfl))
 f217:=Tryz.func219.trans (congrArg some (by kernel_rfl))
 f218:=Tryz.func202.trans (congrArg some (by kernel_rfl))
 f219:=Tryz.func194.trans (congrArg some (by kernel_rfl))
 f221:=Tryz.func207.trans (congrArg some (by kernel_rfl))
 f224:=Tryz.func221.trans (congrArg some (by kernel_rfl))
 f225:=Tryz.func220.trans (congrArg some (by kernel_rfl))
 f260:=Tryz.func149.trans (congrArg some (by kernel_rfl))
 f266:=Tryz.func243.trans (congrArg some (by kernel_rfl))
 f267:=Tryz.func222.trans (congrArg some (by kernel_rfl))
 f268:=Tryz.func238.trans (congrArg some (by kernel_rfl))
 f314:=Tryz.func244.trans (congrArg some (by kernel_rfl))
 t0:=Tryz.underlying0
 a0:=Tryz.isAgg0
 z0:=Tryz.sizeOf0
 v0:=Tryz.zeroValue0
 t3:=Tryz.underlying3
 a3:=Tryz.isAgg3
 z3:=Tryz.sizeOf3
 v3:=Tryz.zeroValue3
 t4:=Tryz.underlying4
 a4:=Tryz.isAgg4
 z4:=Tryz.sizeOf4
 v4:=Tryz.zeroValue4
 t5:=Tryz.underlying5
 a5:=Tryz.isAgg5
 z5:=Tryz.sizeOf5
 v5:=Tryz.zeroValue5
 t9:=Tryz.underlying9
 a9:=Tryz.isAgg9
 z9:=Tryz.sizeOf9
 v9:=Tryz.zeroValue9
 t21:=Tryz.underlying21
 a21:=Tryz.isAgg21
 z21:=Tryz.sizeOf21
 v21:=Tryz.zeroValue21
 t31:=Tryz.underlying80
 a31:=Tryz.isAgg80
 z31:=Tryz.sizeOf80
 v31:=Tryz.zeroValue80
 t46:=Tryz.underlying195
 a46:=Tryz.isAgg195
 z46:=Tryz.sizeOf195
 v46:=Tryz.zeroValue195
 t51:=Tryz.underlying230
 a51:=Tryz.isAgg230
 z51:=Tryz.sizeOf230
 v51:=Tryz.zeroValue230
 t105:=Tryz.underlying112
 a105:=Tryz.isAgg112
 z105:=Tryz.sizeOf112
 v105:=Tryz.zeroValue112
 t119:=Tryz.underlying194
 a119:=Tryz.isAgg194
 z119:=Tryz.sizeOf194
 t138:=Tryz.underlying197
 a138:=Tryz.isAgg197
 z138:=Tryz.sizeOf197
 v138:=Tryz.zeroValue197
 t139:=Tryz.underlying198
 a139:=Tryz.isAgg198
 z139:=Tryz.sizeOf198
 v139:=Tryz.zeroValue198
 t146:=Tryz.underlying231
 a146:=Tryz.isAgg231
 z146:=Tryz.sizeOf231
 v146:=Tryz.zeroValue231
 g1:=by kernel_rfl
 g3:=by kernel_rfl
 g4:=by kernel_rfl}
open Go.RowKit Go.Lib in
theorem Tryz.strings_Split (s sep:ByteArray) (m:Int) (w:World) (hs:s.size<4294967281) (hm:w.cell? ⟨4,0,none⟩=some (.int .i64 m)) (h1:1≤sep.size) :
  Calls Tryz.prog 184 #[.string s,.string sep] w fun e w'=>
   e = .returned (.slice (some ⟨w.heap.size,0,none⟩) (Lib.countB s sep+1) (Lib.countB s sep+1))∧w'=w.alloc (.cells ((Lib.splitB sep 0 (Lib.countB s sep) s).map Value.string).toArray 9):=Any.strings_Split Tryz.lays146 (by kernel_rfl) s sep m w hs hm h1
def Tryz.lays154_ren:Go.Shelf.Ren:=⟨fun | 154=>134 | 138=>177 | 165=>76 | 143=>168 | 166=>77 | 197=>93 | 169=>78 | 195=>201 | 218=>202 | 240=>138 | 241=>139 | 219=>194 | 260=>149 | 276=>180 | 277=>181 | 217=>219 | 225=>220 | 224=>221 | 267=>222 | 266=>243 | 314=>244 | n=>n,fun | 9=>9 | 3=>3 | 4=>4 | 72=>125 | 0=>0 | 76=>128 | 105=>112 | 21=>21 | 5=>5 | 70=>122 | 20=>20 | 37=>123 | 75=>127 | 127=>167 | 164=>190 | 46=>195 | 119=>194 | 139=>198 | 138=>197 | 146=>231 | 51=>230 | 80=>130 | n=>n,fun | 1=>4 | 3=>2 | 4=>3 | n=>n⟩
theorem Tryz.lays154:Go.Proofs.Lays.n154 Tryz.prog Tryz.lays154_ren:={
 mixed:=by kernel_rfl
 f138:=Tryz.func177.trans (congrArg some (by kernel_rfl))
 f143:=Tryz.func168.trans (congrArg some (by kernel_rfl))
 f154:=Tryz.func134.trans (congrArg some (by kernel_rfl))
 f165:=Tryz.func76.trans (congrArg some (by kernel_rfl))
 f166:=Tryz.func77.trans (congrArg some (by kernel_rfl))
 f169:=Tryz.func78.trans (congrArg some (by kernel_rfl))
 f195:=Tryz.func201.trans (congrArg some (by kernel_rfl))
 f197:=Tryz.func93.trans (congrArg some (by kernel_rfl))
 f217:=Tryz.func219.trans (congrArg some (by kernel_rfl))
 f218:=Tryz.func202.trans (congrArg some (by kernel_rfl))
 f219:=Tryz.func194.trans (congrArg some (by kernel_rfl))
 f224:=Tryz.func221.trans (congrArg some (by kernel_rfl))
 f225:=Tryz.func220.trans (congrArg some (by kernel_rfl))
 f240:=Tryz.func138.trans (congrArg some (by kernel_rfl))
 f241:=Tryz.func139.trans (congrArg some (by kernel_rfl))
 f260:=Tryz.func149.trans (congrArg some (by kernel_rfl))
 f266:=Tryz.func243.trans (congrArg some (by kernel_rfl))
 f267:=Tryz.func222.trans (congrArg some (by kernel_rfl))
 f276:=Tryz.func180.trans (congrArg some (by kernel_rfl))
 f277:=Tryz.func181.trans (congrArg some (by kernel_rfl))
 f314:=Tryz.func244.trans (congrArg some (by kernel_rfl))
 t0:=Tryz.underlying0
 a0:=Tryz.isAgg0
 z0:=Tryz.sizeOf0
 v0:=Tryz.zeroValue0
 t3:=Tryz.underlying3
 a3:=Tryz.isAgg3
 z3:=Tryz.sizeOf3
 v3:=Tryz.zeroValue3
 t4:=Tryz.underlying4
 a4:=Tryz.isAgg4
 z4:=Tryz.sizeOf4
 v4:=Tryz.zeroValue4
 t5:=Tryz.underlying5
 a5:=Tryz.isAgg5
 z5:=Tryz.sizeOf5
 v5:=Tryz.zeroValue5
 t9:=Tryz.underlying9
 a9:=Tryz.isAgg9
 z9:=Tryz.sizeOf9
 v9:=Tryz.zeroValue9
 t20:=Tryz.underlying20
 a20:=Tryz.isAgg20
 z20:=Tryz.sizeOf20
 v20:=Tryz.zeroValue20
 t21:=Tryz.underlying21
 a21:=Tryz.isAgg21
 z21:=Tryz.sizeOf21
 v21:=Tryz.zeroValue21
 t37:=Tryz.underlying123
 a37:=Tryz.isAgg123
 z37:=Tryz.sizeOf123
 v37:=Tryz.zeroValue123
 t46:=Tryz.underlying195
 a46:=Tryz.isAgg195
 z46:=Tryz.sizeOf195
 v46:=Tryz.zeroValue195
 t51:=Tryz.underlying230
 a51:=Tryz.isAgg230
 z51:=Tryz.sizeOf230
 v51:=Tryz.zeroValue230
 t70:=Tryz.underlying122
 a70:=Tryz.isAgg122
 z70:=Tryz.sizeOf122
 v70:=Tryz.zeroValue122
 t72:=Tryz.underlying125
 a72:=Tryz.isAgg125
 z72:=Tryz.sizeOf125
 v72:=Tryz.zeroValue125
 t75:=Tryz.underlying127
 a75:=Tryz.isAgg127
 z75:=Tryz.sizeOf127
 v75:=Tryz.zeroValue127
 t76:=Tryz.underlying128
 a76:=Tryz.isAgg128
 z76:=Tryz.sizeOf128
 v76:=Tryz.zeroValue128
 t105:=Tryz.underlying112
 a105:=Tryz.isAgg112
 z105:=Tryz.sizeOf112
 v105:=Tryz.zeroValue112
 t119:=Tryz.underlying194
 a119:=Tryz.isAgg194
 z119:=Tryz.sizeOf194
 t127:=Tryz.underlying167
 a127:=Tryz.isAgg167
 z127:=Tryz.sizeOf167
 v127:=Tryz.zeroValue167
 t138:=Tryz.underlying197
 a138:=Tryz.isAgg197
 z138:=Tryz.sizeOf197
 v138:=Tryz.zeroValue197
 t139:=Tryz.underlying198
 a139:=Tryz.isAgg198
 z139:=Tryz.sizeOf198
 v139:=Tryz.zeroValue198
 t146:=Tryz.underlying231
 a146:=Tryz.isAgg231
 z146:=Tryz.sizeOf231
 v146:=Tryz.zeroValue231
 t164:=Tryz.underlying190
 a164:=Tryz.isAgg190
 z164:=Tryz.sizeOf190
 v164:=Tryz.zeroValue190
 g1:=by kernel_rfl
 g3:=by kernel_rfl
 g4:=by kernel_rfl}
theorem Tryz.Builder_Extra_154:Builder.Extra Tryz.prog Tryz.lays154_ren:={
 sizeBuilder:=by kernel_rfl
 liesBuilder:=by kernel_rfl
 t5:=Tryz.underlying5
 a5:=Tryz.isAgg5
 z5:=Tryz.sizeOf5
 v5:=Tryz.zeroValue5
 infoByte:=by kernel_rfl
 cellsByte:=by kernel_rfl
 sizeByte:=by kernel_rfl
 neB5:=by decide}
open Go.RowKit Go.Lib in
theorem Tryz.strings_Replace (s old new:ByteArray) (n:Int) (m:Int) (w:World) (hs:s.size<4294967281) (hm:w.cell? ⟨4,0,none⟩=some (.int .i64 m)) (h1:1≤old.size) (hlen:s.size+Lib.countB s old*new.size≤140737488355328) :
  Calls Tryz.prog 134 #[.string s,.string old,.string new,.int .i64 n] w fun e w'=>
   e = .returned (.string ⟨(Lib.replace s.data.toList old.data.toList new.data.toList n).toArray⟩)∧Below w.heap.size w w':=Any.strings_Replace Tryz.lays154 Tryz.Builder_Extra_154 s old new n m w hs hm h1 hlen
def Tryz.lays260_ren:Go.Shelf.Ren:=⟨fun | 260=>149 | n=>n,fun | 9=>9 | 21=>21 | 3=>3 | 4=>4 | 5=>5 | 119=>194 | 0=>0 | 46=>195 | 139=>198 | 138=>197 | n=>n,fun | 3=>2 | 4=>3 | n=>n⟩
theorem Tryz.lays260:Go.Proofs.Lays.n260 Tryz.prog Tryz.lays260_ren:={
 mixed:=by kernel_rfl
 f260:=Tryz.func149.trans (congrArg some (by kernel_rfl))
 t0:=Tryz.underlying0
 a0:=Tryz.isAgg0
 z0:=Tryz.sizeOf0
 v0:=Tryz.zeroValue0
 t3:=Tryz.underlying3
 a3:=Tryz.isAgg3
 z3:=Tryz.sizeOf3
 v3:=Tryz.zeroValue3
 t4:=Tryz.underlying4
 a4:=Tryz.isAgg4
 z4:=Tryz.sizeOf4
 v4:=Tryz.zeroValue4
 t5:=Tryz.underlying5
 a5:=Tryz.isAgg5
 z5:=Tryz.sizeOf5
 v5:=Tryz.zeroValue5
 t9:=Tryz.underlying9
 a9:=Tryz.isAgg9
 z9:=Tryz.sizeOf9
 v9:=Tryz.zeroValue9
 t21:=Tryz.underlying21
 a21:=Tryz.isAgg21
 z21:=Tryz.sizeOf21
 v21:=Tryz.zeroValue21
 t46:=Tryz.underlying195
 a46:=Tryz.isAgg195
 z46:=Tryz.sizeOf195
 v46:=Tryz.zeroValue195
 t119:=Tryz.underlying194
 a119:=Tryz.isAgg194
 z119:=Tryz.sizeOf194
 t138:=Tryz.underlying197
 a138:=Tryz.isAgg197
 z138:=Tryz.sizeOf197
 v138:=Tryz.zeroValue197
 t139:=Tryz.underlying198
 a139:=Tryz.isAgg198
 z139:=Tryz.sizeOf198
 v139:=Tryz.zeroValue198
 g3:=by kernel_rfl
 g4:=by kernel_rfl}
def Tryz.lays197_ren:Go.Shelf.Ren:=⟨fun | 197=>93 | 260=>149 | n=>n,fun | 9=>9 | 21=>21 | 3=>3 | 4=>4 | 5=>5 | 105=>112 | 119=>194 | 0=>0 | 46=>195 | 139=>198 | 138=>197 | n=>n,fun | 3=>2 | 4=>3 | n=>n⟩
theorem Tryz.lays197:Go.Proofs.Lays.n197 Tryz.prog Tryz.lays197_ren:={
 mixed:=by kernel_rfl
 f197:=Tryz.func93.trans (congrArg some (by kernel_rfl))
 f260:=Tryz.func149.trans (congrArg some (by kernel_rfl))
 t0:=Tryz.underlying0
 a0:=Tryz.isAgg0
 z0:=Tryz.sizeOf0
 v0:=Tryz.zeroValue0
 t3:=Tryz.underlying3
 a3:=Tryz.isAgg3
 z3:=Tryz.sizeOf3
 v3:=Tryz.zeroValue3
 t4:=Tryz.underlying4
 a4:=Tryz.isAgg4
 z4:=Tryz.sizeOf4
 v4:=Tryz.zeroValue4
 t5:=Tryz.underlying5
 a5:=Tryz.isAgg5
 z5:=Tryz.sizeOf5
 v5:=Tryz.zeroValue5
 t9:=Tryz.underlying9
 a9:=Tryz.isAgg9
 z9:=Tryz.sizeOf9
 v9:=Tryz.zeroValue9
 t21:=Tryz.underlying21
 a21:=Tryz.isAgg21
 z21:=Tryz.sizeOf21
 v21:=Tryz.zeroValue21
 t46:=Tryz.underlying195
 a46:=Tryz.isAgg195
 z46:=Tryz.sizeOf195
 v46:=Tryz.zeroValue195
 t105:=Tryz.underlying112
 a105:=Tryz.isAgg112
 z105:=Tryz.sizeOf112
 v105:=Tryz.zeroValue112
 t119:=Tryz.underlying194
 a119:=Tryz.isAgg194
 z119:=Tryz.sizeOf194
 t138:=Tryz.underlying197
 a138:=Tryz.isAgg197
 z138:=Tryz.sizeOf197
 v138:=Tryz.zeroValue197
 t139:=Tryz.underlying198
 a139:=Tryz.isAgg198
 z139:=Tryz.sizeOf198
 v139:=Tryz.zeroValue198
 g3:=by kernel_rfl
 g4:=by kernel_rfl}
open Go.RowKit Go.Lib in
theorem Tryz.utf8_DecodeRuneInString (s:ByteArray) (w:World) (hT:Lib.Utf8Tabs 2 3 w) :
  Calls Tryz.prog 93 #[.string s] w fun e w'=>e = .returned (.tuple #[.int .i32 (Lib.decodeGo s).1,.int .i64 (Lib.decodeGo s).2])∧Below w.heap.size w w':=Any.utf8_DecodeRuneInString Tryz.lays197 s w hT
end Go.Proofs
