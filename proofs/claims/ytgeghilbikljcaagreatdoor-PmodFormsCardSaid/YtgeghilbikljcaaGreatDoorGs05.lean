/-
  The lexer's Lex: what it tells of any text.
-/
import Derived.Test.YtgeghilbikljcaaGreatDoorGs04
import Derived.IntWalk
import Derived.Laws.Cover4
import Derived.Lib.CutLaws
import Derived.Lib.Join
set_option maxHeartbeats 40000000
set_option maxRecDepth 100000
namespace Go.Proofs.YtgeghilbikljcaaGreatDoor.B
open Go.RowKit
theorem xC {w w':World} {base:Nat} {e:TypeId} {size:Nat} {v:Value} {n:Nat} {xs:List Value} (h:w.ownsRow base e size v n xs) (hb:Below w.heap.size w w'):w'.ownsRow base e size v n xs:=by
 refine⟨h.1,?_⟩
 rcases h.2 with h2 | ⟨g,cap,cur,hv,hbg,hh,d⟩
 ·exact .inl h2
 ·exact .inr ⟨g,cap,cur,hv,hbg,zH hh hb,d⟩
def tcl (t:Tok×Nat):List Value:=[.int .i64 t.1.k,.string (T t.1.x),.int .i64 t.1.n,.int .i64 ((t.2:Nat):Int)]
def tcel:List (Tok×Nat)->List Value
 | []=>[]
 | t::r=>tcl t++tcel r
theorem zOo (l:List (Tok×Nat)):(tcel l).length=l.length*4:=by
 induction l with
 | nil=>rfl
 | cons t r ih=>show(tcl t++tcel r).length=_;rw[List.length_append,ih,List.length_cons];show 4+_=_;omega
theorem zOp (a b:List (Tok×Nat)):tcel (a++b)=tcel a++tcel b:=by
 induction a with
 | nil=>rfl
 | cons t r ih=>show tcl t++tcel (r++b)=_;rw[ih,<- List.append_assoc];rfl
theorem zIj {l:List (Tok×Nat)} {j:Nat} {t:Tok×Nat} (h:l[j]? = some t) {i:Nat} {u:Value} (hu:(tcl t)[i]? = some u):(tcel l)[j*4+i]? = some u:=by
 have hi:i<4:=(List.getElem?_eq_some_iff.1 hu).1
 induction l generalizing j with
 | nil=>simp at h
 | cons x r ih=>
  show(tcl x++tcel r)[j*4+i]? = _
  cases j with
  | zero=>
   simp at h;subst h
   rw[Nat.zero_mul,Nat.zero_add,List.getElem?_append_left (by exact hi)];exact hu
  | succ j=>
   rw[List.getElem?_append_right (by show 4<=_;omega)];have:(j+1)*4+i-(tcl x).length=j*4+i:=by show _-4=_;omega
   rw[this];exact ih (by simpa using h)
def Tks (w:World) (B:Nat) (v:Value) (l:List (Tok×Nat)):Prop:=
 ∃A c,v = .slice A l.length c/\∀(j:Nat) t,l[j]? = some t->∃ad,A=some ad/\ad.block<B/\∀i u,(tcl t)[i]? = some u->w.cell? (ad.add (j*4+i))=some u
theorem Tks.nil (w:World) (B:Nat):Tks w B (.slice none 0 0) []:=⟨none,0,rfl,fun j u hu=>by simp at hu⟩
theorem Tks.own {w:World} {base:Nat} {e:TypeId} {v:Value} {n:Nat} {l:List (Tok×Nat)} (h:w.ownsRow base e 4 v n (tcel l)):Tks w w.heap.size v l:=by
 have hn:l.length=n:=by have:=h.1;rw[zOo] at this;omega
 subst hn
 by_cases h0:0<l.length
 ·obtain⟨g,cap,hv,_,hlt⟩:=h.form h0
  refine⟨some ⟨g,0,none⟩,cap,hv,fun j t ht=>⟨_,rfl,hlt,fun i u hu=>?_⟩⟩;exact h.cells (g:=g) (by rw[hv];rfl) _ _ (zIj ht hu)
 ·have hl:l=[]:=List.eq_nil_of_length_eq_zero (by omega)
  subst hl
  rcases h.2 with ⟨hv,_⟩ | ⟨g,cap,cur,hv,_⟩
  ·exact⟨none,0,hv,fun j u hu=>by simp at hu⟩
  ·exact⟨_,cap,hv,fun j u hu=>by simp at hu⟩
def iY (r:List (Tok×Nat)×Int×Int) (W:World) (e:Ending) (w':World):Prop:=
 ∃v,e = .returned (.tuple #[v,.int .i64 r.2.1,.int .i64 r.2.2])/\Tks w' w'.heap.size v r.1/\Below W.heap.size W w'
theorem zUd {r:List (Tok×Nat)×Int×Int} {W w':World} {a b:Int} (h:r=([],a,b)) (hb:Below W.heap.size W w'):iY r W (.returned (.tuple #[.slice none 0 0,.int .i64 a,.int .i64 b])) w':=by
 subst h;exact⟨_,rfl,Tks.nil _ _,hb⟩
theorem zIk {r:List (Tok×Nat)×Int×Int} {W w':World} {base:Nat} {e:TypeId} {v:Value} {n:Nat} {l:List (Tok×Nat)} (h:r=(l,0,0)) (ho:w'.ownsRow base e 4 v n (tcel l)) (hb:Below W.heap.size W w') :
  iY r W (.returned (.tuple #[v,.int .i64 0,.int .i64 0])) w':=by
 subst h;exact⟨_,rfl,Tks.own ho,hb⟩
theorem aH (w:World) (o:Obj) (a b c d:Value) (t:TypeId):∀(j:Nat) u,[a,b,c,d][j]? = some u->((w.alloc o).alloc (.cells #[a,b,c,d] t)).cell? ((⟨w.heap.size+1,0,none⟩:Addr).add j)=some u:=by
 intro j u hj;have hb:((w.alloc o).alloc (.cells #[a,b,c,d] t)).heap[w.heap.size+1]? = some (.cells #[a,b,c,d] t (0,0)):=heap_alloc2_new w _ _;have e:(⟨w.heap.size+1,0,none⟩:Addr).add j=⟨w.heap.size+1,j,none⟩:=by unfold Addr.add;split<;>simp_all
 rw[e,cell_of_row _ _ j _ _ _ hb,<- hj]
 simp
theorem zOq {a b c d:Value} (ha:a.oneCell'=true) (hb:b.oneCell'=true) (hc:c.oneCell'=true) (hd:d.oneCell'=true):∀u∈[a,b,c,d],u.oneCell'=true:=by
 intro u hu;simp only[List.mem_cons,List.not_mem_nil,or_false] at hu
 rcases hu with rfl | rfl | rfl | rfl<;>assumption
theorem iZ:(Tryz.prog.info? 47).map (fun i=>(i.zero,i.size,i.bytes))=some (some (.agg #[.int .i64 0,.string ⟨#[]⟩,.int .i64 0,.int .i64 0]),4,40):=by kernel_rfl
def Rel (L:List Nat) (out:List (Tok×Nat)) (b:List Nat) (a:Nat):Prop:=
 match lexL b a with | .inl r=>lexL L 0 = .inl (out++r) | .inr e=>lexL L 0 = .inr e
theorem zSl (L:List Nat):Rel L [] L 0:=by
 unfold Rel
 cases h:lexL L 0 with
 | inl r=>rfl
 | inr e=>rfl
theorem zIl {L b:List Nat} {out:List (Tok×Nat)} {a:Nat} (h:Rel L out b a) (e:b.drop (btw b)=[]):lexL L 0 = .inl out:=by
 unfold Rel at h;rw[nB e] at h
 simpa using h
theorem zIm {L b:List Nat} {out:List (Tok×Nat)} {a:Nat} (h:Rel L out b a) (e:b.drop (btw b)≠[]) (e2:tokT (b.drop (btw b))=none):lexL L 0 = .inr (a+sz (b.take (btw b))):=by
 unfold Rel at h;rw[nC e e2] at h;exact h
theorem zOr {L b:List Nat} {out:List (Tok×Nat)} {a:Nat} {t:Tok} {n:Nat} (h:Rel L out b a) (e:b.drop (btw b)≠[]) (e2:tokT (b.drop (btw b))=some (t,n)) :
  Rel L (out++[(t,a+sz (b.take (btw b)))]) ((b.drop (btw b)).drop n) (a+sz (b.take (btw b))+sz ((b.drop (btw b)).take n)):=by
 unfold Rel at h ⊢;rw[fK e e2] at h
 cases hx:lexL ((b.drop (btw b)).drop n) (a+sz (b.take (btw b))+sz ((b.drop (btw b)).take n)) with
 | inl r=>rw[hx] at h;simpa using h
 | inr e=>rw[hx] at h;exact h
theorem zIn {s:ByteArray} {a b:Int} (h:ckr s=(a,b)) (hb:b≠0):lexR s=([],a,b):=by
 unfold lexR;rw[h,if_neg hb]
theorem zIo {s:ByteArray} {l:List (Tok×Nat)} (h:(ckr s).2=0) (e:lexL (rns s 0) 0 = .inl l):lexR s=(l,0,0):=by
 unfold lexR;rw[if_pos h,e]
theorem zOs {s:ByteArray} {a:Nat} (h:(ckr s).2=0) (e:lexL (rns s 0) 0 = .inr a):lexR s=([],(a:Int),5):=by
 unfold lexR;rw[if_pos h,e]
theorem zEq {s:ByteArray} (h:(ckr s).2=0):ckr s=(0,0)/\vls s 0=true/\(∀r∈rns s 0,rdb (r:Int)=true)/\s.size<=16384:=by
 unfold ckr at h ⊢
 by_cases hs:16384<s.size
 ·rw[if_pos hs] at h;exact absurd h (by decide)
 ·rw[if_neg hs] at h ⊢
  rcases zE4 s 0 with ⟨h1,h2,h3,h4⟩ | h1
  ·exact⟨Prod.ext h2 h1,h3,h4,by omega⟩
  ·rw[h] at h1;exact absurd h1 (by decide)
theorem zIp (s:ByteArray) (hs:s.size<=1000000000) (w:World) (hL:Lx w) :
  Calls Tryz.prog 31 #[.string s] w (iY (lexR s) w):=by
 have cK:=zSd s w hs;have hck:pW s w=fun e w'=>e = .returned (.tuple #[.int .i64 (ckr s).1,.int .i64 (ckr s).2])/\Below w.heap.size w w':=rfl
 rw[hck] at cK;clear hck
 by_cases hok:(ckr s).2=0
 ·obtain⟨hc,hv,hrd,hsz⟩:=zEq hok
  rw[hc] at cK;obtain⟨L,hLd⟩:∃L,rns s 0=L:=⟨_,rfl⟩;have hT:T L=s:=by rw[<- hLd];exact zO1 hv
  have hoL:okl L:=by rw[<- hLd];exact iM hv
  have HOK:=Lib.hid hok;have HLD:=Lib.hid hLd;have HS:=Lib.hid hT;obtain⟨i0,hi,hz0,hz1,hz2⟩:=info_parts iZ;clear hok hc hv hrd hLd hT
  go_enter Tryz.func31,Tryz.ntmps31
  go_wp2_with fail;refine cK.mono ?_;rintro e w1 ⟨rfl,hb1⟩
  go_wp2
  go_loopw [2,3] (fun v x wr=>∃(a b:List Nat) (out:List (Tok×Nat)),L=a++b/\x = .int .i64 (sz a:Nat)/\sz a<=s.size/\out.length<=sz a/\wr.ownsRow w.heap.size 47 4 v out.length (tcel out)/\Below w.heap.size w wr/\Rel L out b (sz a)) (fun _ x _=>s.size-(intOf x).toNat)
  case atStart=>exact⟨[],L,[],rfl,rfl,Nat.zero_le _,Nat.zero_le _,⟨rfl,.inl ⟨rfl,rfl⟩⟩,hb1,zSl L⟩
  case round=>
   obtain⟨a,b,out,hl,rfl,hle,hol,hown,hbw,hrel⟩:=hrel;have hob:=(wL.1 (hl▸hoL)).2;have hbl:=zO4 b;obtain⟨c,hc⟩:∃c,b.take (btw b)=c:=⟨_,rfl⟩;obtain⟨d,hd⟩:∃d,b.drop (btw b)=d:=⟨_,rfl⟩;have hbcd:b=c++d:=by rw[<- hc,<- hd];exact(List.take_append_drop _ _).symm
   have hod:=(wL.1 (hbcd▸hob)).2;have hszs:s.size=sz a+(sz c+sz d):=by rw[<- HS.out,zI,hl,hbcd,sz_app,sz_app]
   have E1:Hid (s.extract (sz a) s.size=T b):=Lib.hid (by rw[<- HS.out,zI,hl];exact mZ a b);have E2:Hid (s.extract (sz a+sz c) s.size=T d):=Lib.hid (by rw[<- HS.out,zI,hl,hbcd,<- List.append_assoc,<- sz_app];exact mZ (a++c) d);have hzb:sz b<=1000000000:=by rw[hbcd,sz_app];omega
   have c1:=fun W=>yB b hob W hzb
   rw[hc] at c1;have hac:sz a+sz c<=s.size:=by omega
   by_cases hde:d=[]
   ·have HEND:=Lib.hid (zIl hrel (by rw[hd];exact hde))
    have hat:((sz a:Int)+(sz c:Int)==(s.size:Int))=true:=by
     rw[hde,jL] at hszs;rw[beq_iff_eq];omega
    have hat2:(sz a:Int)+(sz c:Int)=(s.size:Int):=by simpa using hat
    have HOWN:=Lib.hid hown;have HLD2:=HLD;clear hl hc hd hbcd hde hszs hrel hown;clear hat;go_wp2_with fail;rw[E1.out];refine(c1 _).mono ?_;rintro e w2 ⟨rfl,hb2⟩;have hfin:=hbw.trans (hb2.mono hbw.size);have HOWN2:=Lib.hid (xC HOWN.out hb2);clear HOWN
    go_wp2
    go_ret3
    exact zIk (zIo HOK.out (by rw[HLD2.out];exact HEND.out)) HOWN2.out hfin
   ·obtain⟨r,u,hru⟩:∃r u,d=r::u:=by
     cases d with
     | nil=>exact absurd rfl hde
     | cons r u=>exact⟨r,u,rfl⟩
    have hwr:=zXj r;have hzd:sz d=wd r+sz u:=by rw[hru,yI]
    have hat:((sz a:Int)+(sz c:Int)==(s.size:Int))=false:=by
     rw[beq_eq_false_iff_ne];omega
    have cT:=fun W hL=>zSk r u (hru▸hod) (by rw[<- hru];omega) W hL
    rw[<- hru] at cT
    cases htok:tokT d with
    | none=>
     have HBAD:=Lib.hid (zIm hrel (by rw[hd];exact hde) (by rw[hd];exact htok));have HC:=Lib.hid hc;rw[htok] at cT;have CT:=Lib.hid cT;have HOWN:=Lib.hid hown;clear hl hc hd hbcd hde hszs hrel hown hru hzd htok cT;go_wp2_with fail;rw[E1.out];refine(c1 _).mono ?_;rintro e w2 ⟨rfl,hb2⟩;have hbw2:=hbw.trans (hb2.mono hbw.size);go_wp2_with fail;rw[E2.out];refine(CT.out w2 (hL.below hbw2)).mono ?_;rintro e w3 ⟨rfl,hb3⟩;have hfin:=hbw2.trans (hb3.mono hbw2.size);have hsz3:=hfin.size;unfold tv0
     go_wp2
     go_ret3
     refine zUd ?_ (hfin.alloc hsz3 _);have hh:=HBAD.out;rw[HC.out] at hh;rw[zOs HOK.out (by rw[HLD.out];exact hh)]
     go_num
    | some tn=>
     obtain⟨t,n⟩:=tn;have hn:=xB htok;have HNEXT:=Lib.hid (zOr hrel (by rw[hd];exact hde) (by rw[hd];exact htok));obtain⟨f,hf⟩:∃f,d.take n=f:=⟨_,rfl⟩;obtain⟨g,hg⟩:∃g,d.drop n=g:=⟨_,rfl⟩;have hdfg:d=f++g:=by rw[<- hf,<- hg];exact(List.take_append_drop _ _).symm
     have hzf:1<=sz f:=by
      have h1:=pV f;have h2:f.length=n:=by rw[<- hf,List.length_take];omega
      omega
     have hzfg:sz d=sz f+sz g:=by rw[hdfg,sz_app]
     have HREL:Hid (Rel L (out++[(t,sz a+sz c)]) g (sz (a++(c++f)))):=Lib.hid (by
      have:=HNEXT.out;rw[hd,hc,hf,hg] at this;rw[sz_app,sz_app,<- Nat.add_assoc];exact this)
     have HL2:Hid (L=(a++(c++f))++g/\sz (a++(c++f))=sz a+sz c+sz f):=Lib.hid ⟨by rw[hl,hbcd,hdfg];simp,by rw[sz_app,sz_app];omega⟩;have hnew:sz a+sz c+sz f<=s.size:=by omega
     have hz0':((sz f:Int)==0)=false:=by rw[beq_eq_false_iff_ne];omega
     rw[htok] at cT;have CT:Hid (∀W,Lx W->Calls Tryz.prog 57 #[.string (T d)] W fun e w'=>e = .returned (.tuple #[.agg #[.int .i64 t.k,.string (T t.x),.int .i64 t.n,.int .i64 0],.int .i64 (sz f:Nat)])/\Below W.heap.size W w'):=Lib.hid (fun W hL=>(cT W hL).mono fun _ _ k=>by rw[<- hf];exact k);obtain⟨K,hK⟩:∃K,t.k=K:=⟨_,rfl⟩;obtain⟨X,hX⟩:∃X,T t.x=X:=⟨_,rfl⟩;obtain⟨M,hM⟩:∃M,t.n=M:=⟨_,rfl⟩;rw[hK,hX,hM] at CT;have HTC:Hid (tcl (t,sz a+sz c)=[.int .i64 K,.string X,.int .i64 M,.int .i64 ((sz a+sz c:Nat):Int)]):=Lib.hid (by unfold tcl;rw[hK,hX,hM]);have HOWN:=Lib.hid hown;clear hl hc hd hbcd hde hszs hrel hown hru hzd htok cT hf hg hdfg hzfg hK hX hM HNEXT;go_wp2_with fail;rw[E1.out];refine(c1 _).mono ?_;rintro e w2 ⟨rfl,hb2⟩;have hbw2:=hbw.trans (hb2.mono hbw.size);go_wp2_with fail;rw[E2.out];refine(CT.out w2 (hL.below hbw2)).mono ?_;rintro e w3 ⟨rfl,hb3⟩;have hfin:=hbw2.trans (hb3.mono hbw2.size);have hsz3:=hfin.size;have hown3:=xC (xC HOWN.out hb2) hb3;have HOWN3:=Lib.hid hown3;clear hown3 HOWN
     go_wp2_with (at_builtin;(refine wpList_append_own _ rfl _ _ 22 rfl w.heap.size 47 i0 (.agg #[.int .i64 0,.string ⟨#[]⟩,.int .i64 0,.int .i64 0]) 4 40 Tryz.underlying22 hi hz0 hz1 hz2 rfl (by decide) _ _ _ rfl ((HOWN3.out.alloc _).alloc _) ⟨w3.heap.size+1,0,none⟩ 1 1 [.int .i64 K,.string X,.int .i64 M,.int .i64 ((sz a:Int)+(sz c:Int))] rfl rfl (aH _ _ _ _ _ _ _) (zOq rfl rfl rfl rfl) (by unfold maxLen;omega) (by omega) (by simp;omega) ?_);intro v' w4 hown4 hgrow4 _)
     have hbel:=((hfin.alloc hsz3 _).alloc (by simp;omega) _).grown hgrow4 (by simp;omega) (fun g hg=>(HOWN3.out.lt g hg).1);have HBEL:=Lib.hid hbel;have HOWN4:=Lib.hid hown4;clear hbel hown4 hgrow4
     go_roundw
     case rel=>
      refine⟨a++(c++f),g,out++[(t,sz a+sz c)],HL2.out.1,by rw[HL2.out.2];go_num,by rw[HL2.out.2];exact hnew,by rw[HL2.out.2,List.length_append,List.length_singleton];omega,?_,HBEL.out,HREL.out⟩;have e:tcel (out++[(t,sz a+sz c)])=tcel out++[.int .i64 K,.string X,.int .i64 M,.int .i64 ((sz a:Int)+(sz c:Int))]:=by
       rw[zOp]
       show tcel out++(tcl _++[])=_
       rw[List.append_nil,HTC.out,Int.natCast_add]
      rw[e,List.length_append,List.length_singleton];exact HOWN4.out
     case measure=>simp[intOf];omega
 ·obtain⟨x,y,hxy⟩:∃x y,ckr s=(x,y):=⟨_,_,rfl⟩
  rw[hxy] at cK hok;have hy:(y==0)=false:=by rw[beq_eq_false_iff_ne];exact hok
  have hy2:(y != 0)=true:=by rw[bne,hy];rfl
  have HXY:=Lib.hid hxy;have HOK:=Lib.hid hok;clear hxy hok
  go_enter Tryz.func31,Tryz.ntmps31
  go_wp2_with fail;refine cK.mono ?_;rintro e w1 ⟨rfl,hb1⟩
  go_wp2
  go_ret3
  exact zUd (zIn HXY.out HOK.out) hb1
end Go.Proofs.YtgeghilbikljcaaGreatDoor.B
namespace Go.Proofs.YtgeghilbikljcaaGreatDoor.B
open Go.Lib
def pcl:List UInt8->List (List UInt8)
 | []=>[[]]
 | b::l=>if b=46 then []::pcl l else match pcl l with
  | []=>[[b]]
  | x::r=>(b::x)::r
theorem zEr (l:List UInt8):pcl l≠[]:=by
 cases l with
 | nil=>simp[pcl]
 | cons b t=>
  unfold pcl
  split
  ·simp
  ·cases pcl t<;>simp
theorem fL {l:List UInt8} (h:(46:UInt8)∉l):pcl l=[l]:=by
 induction l with
 | nil=>rfl
 | cons r t ih=>
  simp only[List.mem_cons,not_or] at h;unfold pcl;rw[if_neg (fun e=>h.1 e.symm),ih h.2]
theorem oA {a r:List UInt8} (h:(46:UInt8)∉a):pcl (a++46::r)=a::pcl r:=by
 induction a with
 | nil=>show pcl (46::r)=_;simp[pcl]
 | cons x t ih=>
  simp only[List.mem_cons,not_or] at h
  show pcl (x::(t++46::r))=_
  rw[pcl,if_neg (fun e=>h.1 e.symm),ih h.2]
theorem zOt (l:List UInt8):(46:UInt8)∉l\/∃a r,l=a++46::r/\(46:UInt8)∉a:=by
 induction l with
 | nil=>left;simp
 | cons x t ih=>
  by_cases hx:x=46
  ·right;exact⟨[],t,by rw[hx];rfl,by simp⟩
  ·rcases ih with h | ⟨a,r,rfl,h⟩
   ·left;simp;exact⟨fun e=>hx e.symm,h⟩
   ·right;exact⟨x::a,r,rfl,by simp;exact⟨fun e=>hx e.symm,h⟩⟩
theorem zOu {x:List UInt8} {c:UInt8} (h:c∉x):indexByte x c = -1:=by
 induction x with
 | nil=>rfl
 | cons b t ih=>
  simp only[List.mem_cons,not_or] at h;unfold indexByte;rw[if_neg (by simp;exact fun e=>h.1 e.symm),ih h.2]
  rfl
theorem zEs {x y:List UInt8} {c:UInt8} (h:c∉x):indexByte (x++c::y) c=(x.length:Int):=by
 induction x with
 | nil=>simp[indexByte]
 | cons b t ih=>
  simp only[List.mem_cons,not_or] at h
  show indexByte (b::(t++c::y)) c=_
  unfold indexByte;rw[if_neg (by simp;exact fun e=>h.1 e.symm),ih h.2,if_neg (by simp)]
  simp
theorem zZg {l:List UInt8} (h:(46:UInt8)∉l):Lib.cut l [46]=(l,[],false):=by
 unfold Lib.cut;rw[index_one,zOu h]
 rfl
theorem zEt {a r:List UInt8} (h:(46:UInt8)∉a):Lib.cut (a++46::r) [46]=(a,r,true):=by
 unfold Lib.cut;rw[index_one,zEs h,if_pos (by omega)];have e:((a.length:Int)).toNat=a.length:=by omega
 rw[e];have e2:(a++46::r).drop (a.length+1)=r:=by
  rw[<- List.drop_drop,List.drop_left];rfl
 simp only[List.take_left',List.length_singleton,e2]
def sh (p:Nat) (r:List (Tok×Nat)):List (Tok×Nat):=r.map fun x=>(x.1,x.2+p)
theorem zZh {b:Bool} {d:List Nat} {t:Tok} {n:Nat} (h:digT b d=some (t,n)):t.k=2/\t.x=numb t.n/\-1073741824<=t.n/\t.n<=1073741824:=by
 unfold digT at h
 split at h
 ·cases h
 split at h
 ·cases h
 split at h
 ·cases h
 ·rename_i h1 h2 h3
  cases b
  ·simp at h
   obtain⟨rfl,_⟩:=h;exact⟨rfl,rfl,by dsimp only;omega,by dsimp only;omega⟩
  ·simp at h
   obtain⟨rfl,_⟩:=h;exact⟨rfl,rfl,by dsimp only;omega,by dsimp only;omega⟩
def tx (l:List UInt8):ByteArray:=⟨l.toArray⟩
theorem zE5 (s:ByteArray):tx s.data.toList=s:=vP rfl
theorem oB (l:List UInt8):(tx l).size=l.length:=by rw[size_eq];rfl
def nck (s:ByteArray):Bool:=nm s && !wrd s
theorem zOv {s:ByteArray} (h:nck s=true):nm s=true/\wrd s=false:=by
 unfold nck at h;simpa using h
theorem aY {s:ByteArray} (h:nm s=true):(1<=s.size/\s.size<=32)/\okl (rns s 0)/\T (rns s 0)=s/\nmL (rns s 0)=true:=by
 unfold nm at h;rw[Bool.and_eq_true,decide_eq_true_iff] at h;obtain⟨h1,h2⟩:=h;have hv:vls s 0=true:=by
  cases hv:vls s 0
  ·rw[zPv s 0 hv] at h2;cases h2
  ·rfl
 exact⟨h1,iM hv,zO1 hv,by rw[<- iJ];exact h2⟩
theorem zZi {s:ByteArray} (h:nck s=true):1<=s.size/\s.size<=32:=(aY (zOv h).1).1
theorem zEu (b:Bool):mst 46 b=false:=by cases b<;>decide
theorem zIq {l:List Nat} (h:nmL l=true):∀r∈l,∃b,mst (r:Int) b=true:=by
 cases l with
 | nil=>intro r hr;cases hr
 | cons x t=>
  unfold nmL at h;rw[Bool.and_eq_true,List.all_eq_true] at h;intro r hr
  rcases List.mem_cons.1 hr with rfl | hr
  ·exact⟨true,h.1⟩
  ·exact⟨false,h.2 r hr⟩
theorem zIr {s:ByteArray} (h:nck s=true):(46:UInt8)∉s.data.toList:=by
 obtain⟨_,h2,h3,h4⟩:=aY (zOv h).1;intro hm;rw[<- h3,jK] at hm;obtain⟨b,hb⟩:=zIq h4 46 (iX (c:=46) h2 (by omega) hm);rw[show((46:Nat):Int)=46 from rfl,zEu] at hb
 cases hb
def pc (s:ByteArray):List ByteArray:=(pcl s.data.toList).map tx
def long (s:ByteArray):Bool:=decide (s.size<=128)&&(pc s).all nck
def splt (s:ByteArray):List ByteArray:=if long s then pc s else []
theorem pc_ne (s:ByteArray):pc s≠[]:=by
 unfold pc;intro h;exact zEr _ (List.map_eq_nil_iff.1 h)
theorem lF {s:ByteArray}:long s=true↔s.size<=128/\(pc s).all nck=true:=by
 unfold long;rw[Bool.and_eq_true,decide_eq_true_iff]
theorem aZ {s:ByteArray} (h:long s=true):splt s=pc s:=by unfold splt;rw[if_pos h]
theorem rQ {s:ByteArray} (h:long s=false):splt s=[]:=by unfold splt;rw[h];rfl
theorem zOw (s:ByteArray):long s=decide (0<(splt s).length):=by
 cases h:long s
 ·rw[rQ h];rfl
 ·rw[aZ h]
  have:=pc_ne s
  cases hp:pc s with
  | nil=>exact absurd hp this
  | cons a b=>simp
def hd (s:ByteArray):ByteArray:=(splt s).headD ⟨#[]⟩
end Go.Proofs.YtgeghilbikljcaaGreatDoor.B
namespace Go.Proofs.YtgeghilbikljcaaGreatDoor.B
open Go.RowKit
def sv (l:List ByteArray):List Value:=l.map Value.string
theorem zEv (l:List ByteArray):(sv l).length=l.length:=by simp[sv]
def Ss (w:World) (B:Nat) (v:Value) (l:List ByteArray):Prop:=
 ∃A c,v = .slice A l.length c/\l.length<=c/\∀(j:Nat) (u:ByteArray),l[j]? = some u->∃b o,A=some ⟨b,o,none⟩/\b<B/\w.cell? ⟨b,o+j,none⟩=some (.string u)
theorem Ss.nil (w:World) (B:Nat):Ss w B (.slice none 0 0) []:=⟨none,0,rfl,Nat.le_refl _,fun j u hu=>by simp at hu⟩
theorem Ss.own {w:World} {base:Nat} {e:TypeId} {v:Value} {n:Nat} {l:List ByteArray} (h:w.ownsRow base e 1 v n (sv l)):Ss w w.heap.size v l:=by
 have hn:l.length=n:=by have:=h.1;rw[zEv] at this;omega
 subst hn
 rcases h.2 with ⟨hv,h0⟩ | ⟨g,cap,cur,hv,_,hh,hc,_⟩
 ·have hl:l=[]:=List.eq_nil_of_length_eq_zero h0
  subst hl;exact⟨none,0,hv,Nat.le_refl _,fun j u hu=>by simp at hu⟩
 ·refine⟨some ⟨g,0,none⟩,cap,hv,hc,fun j u hu=>⟨g,0,rfl,qC hh,?_⟩⟩
  have:=h.cells (g:=g) (by rw[hv];rfl) j (.string u) (by simp[sv,hu]);have e:(⟨g,0,none⟩:Addr).add j=⟨g,0+j,none⟩:=by unfold Addr.add;split<;>simp_all
  rw[<- e]
  simpa using this
theorem zUe:(Tryz.prog.info? 9).map (fun i=>(i.zero,i.size,i.bytes))=some (some (.string ⟨#[]⟩),1,16):=by kernel_rfl
def oC (l:List ByteArray) (W:World) (e:Ending) (w':World):Prop:=∃v,e = .returned v/\Ss w' w'.heap.size v l/\Below W.heap.size W w'
theorem wP {b c:Bool} {W w':World} (h:c=b) (hb:Below W.heap.size W w'):vR c W (.returned (.bool b)) w':=⟨by rw[h],hb⟩
theorem zOx {l:List ByteArray} {W w':World} (h:l=[]) (hb:Below W.heap.size W w'):oC l W (.returned (.slice none 0 0)) w':=by subst h;exact⟨_,rfl,Ss.nil _ _,hb⟩
theorem zOy {l l':List ByteArray} {W w':World} {base:Nat} {e:TypeId} {v:Value} {n:Nat} (h:l=l') (ho:w'.ownsRow base e 1 v n (sv l')) (hb:Below W.heap.size W w'):oC l W (.returned v) w':=by subst h;exact⟨_,rfl,Ss.own ho,hb⟩
theorem zOz {s:ByteArray} {a b:Bool} (ha:nm s=a) (hb:wrd s=b):nck s=(a && !b):=by unfold nck;rw[ha,hb]
theorem gJ (s:ByteArray) (w:World) (hs:s.size<=1000000000):Calls Tryz.prog 112 #[.string s] w (vR (nck s) w):=by
 have cN:=fun W=>zZ1 s W hs
 have cW:=fun W=>rL s W
 obtain⟨a,ha⟩:∃a,nm s=a:=⟨_,rfl⟩;obtain⟨b,hb⟩:∃b,wrd s=b:=⟨_,rfl⟩;have HA:=Lib.hid (zOz ha hb);rw[ha] at cN;rw[hb] at cW;clear ha hb
 cases a
 ·go_enter Tryz.func112,Tryz.ntmps112
  go_wp2_with fail;refine(cN _).mono ?_;rintro e w1 ⟨rfl,hb1⟩
  go_wp2
  go_ret
  exact wP HA.out hb1
 ·go_enter Tryz.func112,Tryz.ntmps112
  go_wp2_with fail;refine(cN _).mono ?_;rintro e w1 ⟨rfl,hb1⟩;go_wp2_with fail;refine(cW _).mono ?_;rintro e w2 ⟨rfl,rfl⟩
  go_wp2
  go_ret
  exact wP (by rw[HA.out];rfl) hb1
theorem cut_no {s:ByteArray} (h:(46:UInt8)∉s.data.toList) (hs:s.size<=1000000000) (w:World) (hL:Nx w) :
  Calls Tryz.prog 156 #[.string s,.string ⟨#[46]⟩] w fun e w'=>e = .returned (.tuple #[.string s,.string ⟨#[]⟩,.bool false])/\Below w.heap.size w w':=by
 obtain⟨m,hm⟩:=hL.2;refine(Tryz.strings_Cut s ⟨#[46]⟩ m w (by omega) hm).mono fun e w' ⟨he,n,hw⟩=>⟨?_,?_⟩
 ·rw[he]
  have e1:Lib.cut s.data.toList (ByteArray.mk #[46]).data.toList=(s.data.toList,[],false):=zZg h;rw[e1]
 ·rw[hw];exact qE (Below.refl _ _) n
def ctx (s:ByteArray):ByteArray×ByteArray×Bool:=(tx (Lib.cut s.data.toList [46]).1,tx (Lib.cut s.data.toList [46]).2.1,(Lib.cut s.data.toList [46]).2.2)
theorem zIs (s:ByteArray) (hs:s.size<=1000000000) (w:World) (hL:Nx w) :
  Calls Tryz.prog 156 #[.string s,.string ⟨#[46]⟩] w fun e w'=>e = .returned (.tuple #[.string (ctx s).1,.string (ctx s).2.1,.bool (ctx s).2.2])/\Below w.heap.size w w':=by
 obtain⟨m,hm⟩:=hL.2;exact(Tryz.strings_Cut s ⟨#[46]⟩ m w (by omega) hm).mono fun e w' ⟨he,n,hw⟩=>⟨he,by rw[hw];exact qE (Below.refl _ _) n⟩
theorem zN0 (s:ByteArray):pc s=(ctx s).1::(if (ctx s).2.2 then pc (ctx s).2.1 else [])/\(ctx s).1.size<=s.size/\((ctx s).2.2=true->(ctx s).2.1.size<s.size)/\((ctx s).2.2=false->(ctx s).2.1=⟨#[]⟩):=by
 unfold ctx
 rcases zOt s.data.toList with h | ⟨a,r,hs,h⟩
 ·rw[zZg h]
  refine⟨?_,by rw[zE5];exact Nat.le_refl _,fun h=>by simp at h,fun _=>rfl⟩;unfold pc;rw[fL h]
  rfl
 ·rw[hs,zEt h]
  have hz:s.size=a.length+(r.length+1):=by rw[Lib.size_eq,hs];simp
  refine⟨?_,by rw[oB];dsimp only;omega,fun _=>by rw[oB];dsimp only;omega,fun h=>by simp at h⟩;unfold pc;rw[hs,oA h]
  rfl
def more (m:Bool) (x:ByteArray):List ByteArray:=if m then pc x else []
theorem zXt (x:ByteArray):more false x=[]:=rfl
theorem zSm (x:ByteArray):more true x=pc x:=rfl
theorem eA {s x p y:ByteArray} {m:Bool} {done:List ByteArray} (h:pc s=done++more true x) (hc:ctx x=(p,y,m)):pc s=(done++[p])++more m y:=by
 rw[h,zSm,(zN0 x).1,hc]
 simp[more]
theorem zSn {s x p y:ByteArray} {m:Bool} {done:List ByteArray} (h:pc s=done++more true x) (hc:ctx x=(p,y,m)) (hp:nck p=false):splt s=[]:=by
 apply rQ
 unfold long;rw[eA h hc,List.all_append,List.all_append]
 simp[hp]
theorem zSo {s x:ByteArray} {done:List ByteArray} (h:pc s=done++more false x) (hn:done.all nck=true) (hs:s.size<=128):splt s=done:=by
 rw[zXt,List.append_nil] at h;rw[aZ (lF.2 ⟨hs,by rw[h];exact hn⟩),h]
theorem zN1 {l:List ByteArray} {x:ByteArray} {f:ByteArray->Bool} (h:l.all f=true) (hx:f x=true):(l++[x]).all f=true:=by rw[List.all_append,h];simp[hx]
def mea (m:Bool) (x:ByteArray):Nat:=if m then x.size+1 else 0
def zEw (s:ByteArray) (W:World) (x v m:Value) (wr:World):Prop:=
 ∃(X:ByteArray) (b:Bool) (done:List ByteArray),x = .string X/\m = .bool b/\X.size<=128/\done.length+mea b X<=130/\pc s=done++more b X/\done.all nck=true/\wr.ownsRow W.heap.size 9 1 v done.length (sv done)/\Below W.heap.size W wr/\Nx wr
theorem zSp (s:ByteArray) (w:World) (hs:s.size<=1000000000) (hL:Nx w):Calls Tryz.prog 122 #[.string s] w (oC (splt s) w):=by
 by_cases hbig:s.size<=128
 ·have hz:¬(128:Int)<(s.size:Int):=by omega
  obtain⟨i0,hi,hz0,hz1,hz2⟩:=info_parts zUe;have HBIG:=Lib.hid hbig;have HNX:=Lib.hid hL;clear hL
  go_enter Tryz.func122,Tryz.ntmps122
  go_wp2
  go_loopw [0,3,4,5] (fun x v m p wr=>zEw s w x v m wr) (fun x _ m _ _=>match x,m with | .string X,.bool b=>mea b X | _,_=>0)
  case atStart=>exact⟨s,true,[],rfl,rfl,hbig,by simp[mea];omega,by simp[more],rfl,World.ownsRow_nil _ _ _ _,Below.refl _ _,HNX.out⟩
  case round=>
   obtain⟨X,b,done,rfl,rfl,hx,hmz,hpc,hall,hown,hbel,hnx⟩:=hrel;have hbs:=hbel.size;have HOWN:=Lib.hid hown;have HBEL:=Lib.hid hbel;have HALL:=Lib.hid hall;have HN:=Lib.hid hnx
   cases b
   ·have HEND:=Lib.hid (zSo hpc hall HBIG.out)
    clear hown hbel hall hnx hpc
    go_wp2
    go_ret
    exact zOy HEND.out HOWN.out HBEL.out
   ·obtain⟨p,y,m,hc⟩:∃p y m,ctx X=(p,y,m):=⟨_,_,_,rfl⟩
    have cC:=zIs X (by omega) wr hnx;have hcx:=zN0 X;rw[hc] at cC hcx
    dsimp only at cC hcx
    obtain⟨_,hcx1,hcx2,hcx3⟩:=hcx;have hpz:p.size<=128:=by omega
    have hyz:y.size<=128:=by
     cases m
     ·rw[hcx3 rfl];exact Nat.zero_le _
     ·have:=hcx2 rfl;omega
    have hme:mea m y+1<=mea true X:=by
     unfold mea
     cases m
     ·simp
     ·have:=hcx2 rfl;simp;omega
    have cK:=fun W=>gJ p W (by omega)
    obtain⟨b,hb⟩:∃b,nck p=b:=⟨_,rfl⟩;rw[hb] at cK;have HB:=Lib.hid hb;have HC:=Lib.hid hc;have HPC:=Lib.hid hpc;have HME:=Lib.hid hme;have hdl:done.length<=130:=by omega
    have HMZ:=Lib.hid hmz;clear hown hbel hall hnx hpc hb hc hcx1 hcx2 hcx3 hme hmz;go_wp2_with fail;refine cC.mono ?_;rintro e w1 ⟨rfl,hb1⟩;have HB1:=Lib.hid hb1;clear hb1;go_wp2_with fail;refine(cK _).mono ?_;rintro e w2 ⟨rfl,hb2⟩;have hbw2:=HBEL.out.trans ((chn HB1.out hb2).mono hbs);have hown2:=xC HOWN.out (chn HB1.out hb2);have HOWN2:=Lib.hid hown2;have HBW2:=Lib.hid hbw2;have HN2:=Lib.hid (HN.out.below (chn HB1.out hb2));have hs2:=hbw2.size;clear hown2 hb2 hbw2
    cases b
    ·go_wp2
     go_ret
     exact zOx (zSn HPC.out HC.out HB.out) HBW2.out
    ·go_wp2_with (at_builtin;(refine wpList_append_own _ rfl _ _ 80 rfl w.heap.size 9 i0 (.string ⟨#[]⟩) 1 16 Tryz.underlying80 hi hz0 hz1 hz2 rfl (by decide) _ _ _ rfl (HOWN2.out.alloc _) ⟨w2.heap.size,0,none⟩ 1 1 [.string p] rfl rfl (cell_one_new _ _ _) (fun x hx=>by simp at hx;subst hx;rfl) (by unfold maxLen;omega) (by omega) (by simp;omega) ?_);intro v' w4 hown4 hgrow4 _)
     have hbel:=(HBW2.out.alloc hs2 _).grown hgrow4 (by simp;omega) (fun g hg=>(HOWN2.out.lt g hg).1);have hlt4:=hgrow4.size;have HBEL4:=Lib.hid hbel;have HOWN4:=Lib.hid hown4;clear hown4 hgrow4
     go_roundw
     case rel=>exact⟨y,m,done++[p],rfl,rfl,hyz,by have:=HME.out;have:=HMZ.out;simp;omega,eA HPC.out HC.out,zN1 HALL.out HB.out,by simpa [sv] using HOWN4.out,HBEL4.out,HNX.out.below HBEL4.out⟩
     case measure=>exact HME.out
 ·have hz:(128:Int)<(s.size:Int):=by omega
  go_enter Tryz.func122,Tryz.ntmps122
  go_wp2
  go_ret
  exact zOx (rQ (by unfold long;rw[decide_eq_false hbig];rfl)) (Below.refl _ _)
theorem nE (s:ByteArray) (w:World) (hs:s.size<=1000000000) (hL:Nx w):Calls Tryz.prog 77 #[.string s] w (vR (long s) w):=by
 have cS:=zSp s w hs hL;have hln:=zOw s;obtain⟨l,hl⟩:∃l,splt s=l:=⟨_,rfl⟩;obtain⟨b,hb⟩:∃b,long s=b:=⟨_,rfl⟩;rw[hl] at cS hln;rw[hb] at hln ⊢;have HLN:=Lib.hid hln;clear hl hb hln hL
 by_cases h0:0<l.length
 ·have hz:(0:Int)<(l.length:Int):=by omega
  go_enter Tryz.func77,Tryz.ntmps77
  go_wp2_with fail;refine cS.mono ?_;rintro e w1 ⟨v,rfl,⟨A,c,rfl,hlc,hcl⟩,hb⟩;have HCL:=Lib.hid hcl;clear hcl
  go_wp2
  go_ret
  exact wP (by rw[HLN.out,decide_eq_true h0]) hb
 ·have hz:¬(0:Int)<(l.length:Int):=by omega
  go_enter Tryz.func77,Tryz.ntmps77
  go_wp2_with fail;refine cS.mono ?_;rintro e w1 ⟨v,rfl,⟨A,c,rfl,hlc,hcl⟩,hb⟩;have HCL:=Lib.hid hcl;clear hcl
  go_wp2
  go_ret
  exact wP (by rw[HLN.out,decide_eq_false h0]) hb
def cel (l:List Nat):List Value:=l.map fun(r:Nat)=>Value.int .i32 (r:Int)
def rl (s:ByteArray):List Nat:=if vls s 0 then rns s 0 else []
def er (s:ByteArray):Int:=if vls s 0 then 0 else 4
end Go.Proofs.YtgeghilbikljcaaGreatDoor.B
namespace Go.Proofs.YtgeghilbikljcaaGreatDoor.B
open Go.Lib
structure Txt (s:ByteArray) (L:List Nat):Prop where
 ok:okl L
 rd:∀r∈L,rdb (r:Int)=true
 txt:T L=s
 size:s.size<=16384
theorem zUf {s:ByteArray} (h:(ckr s).2=0):∃L,Txt s L/\rns s 0=L:=by
 unfold ckr at h
 by_cases hs:16384<s.size
 ·rw[if_pos hs] at h;exact absurd h (by decide)
 ·rw[if_neg hs] at h
  rcases zE4 s 0 with ⟨h1,h2,h3,h4⟩ | h1
  ·exact⟨_,⟨iM h3,h4,zO1 h3,by omega⟩,rfl⟩
  ·rw[h] at h1;exact absurd h1 (by decide)
theorem nG {s:ByteArray} {l:List (Tok×Nat)} {a b:Int} (h:lexR s=(l,a,b)):(b=0/\a=0/\∃L,Txt s L/\lexL L 0 = .inl l)\/(b≠0/\l=[]):=by
 unfold lexR at h
 by_cases hc:(ckr s).2=0
 ·rw[if_pos hc] at h
  obtain⟨L,hL,hr⟩:=zUf hc;rw[hr] at h
  cases e:lexL L 0 with
  | inl r=>
   rw[e] at h;injection h with h1 h2;injection h2 with h2 h3;subst h1;exact .inl ⟨h3.symm,h2.symm,L,hL,e⟩
  | inr q=>
   rw[e] at h;injection h with h1 h2;injection h2 with h2 h3;exact .inr ⟨by rw[<- h3];decide,h1.symm⟩
 ·rw[if_neg hc] at h
  injection h with h1 h2;injection h2 with h2 h3;exact .inr ⟨by rw[<- h3];exact hc,h1.symm⟩
theorem zUg:∀(n:Nat) (l:List Nat) (a e:Nat),l.length<=n->lexL l a = .inr e->e<=a+sz l
 | n,l,a,e,hn,h=>by
  by_cases he:l.drop (btw l)=[]
  ·rw[nB he] at h;cases h
  ·have hs:sz l=sz (l.take (btw l))+sz (l.drop (btw l)):=by rw[<- sz_app,List.take_append_drop]
   cases ht:tokT (l.drop (btw l)) with
   | none=>
    rw[nC he ht] at h;injection h with h;omega
   | some tn=>
    obtain⟨t,j⟩:=tn;have hj:=xB ht;have hj2:=hj.2;simp only[List.length_drop] at hj2;rw[fK he ht] at h
    cases hx:lexL ((l.drop (btw l)).drop j) (a+sz (l.take (btw l))+sz ((l.drop (btw l)).take j)) with
    | inl r=>rw[hx] at h;cases h
    | inr q=>
     rw[hx] at h;injection h with h;subst h
     cases n with
     | zero=>omega
     | succ n=>
      have:=zUg n _ _ _ (by simp only[List.length_drop];omega) hx;have hs2:sz (l.drop (btw l))=sz ((l.drop (btw l)).take j)+sz ((l.drop (btw l)).drop j):=by rw[<- sz_app,List.take_append_drop]
      omega
theorem zUh:∀(n:Nat) (l:List Nat) (a:Nat) (toks:List (Tok×Nat)),l.length<=n->lexL l a = .inl toks->toks.length<=l.length
 | n,l,a,toks,hn,h=>by
  by_cases he:l.drop (btw l)=[]
  ·rw[nB he] at h
   injection h with h;subst h;exact Nat.zero_le _
  ·cases ht:tokT (l.drop (btw l)) with
   | none=>rw[nC he ht] at h;cases h
   | some tn=>
    obtain⟨t,j⟩:=tn;have hj:=xB ht;have hj2:=hj.2;simp only[List.length_drop] at hj2;rw[fK he ht] at h
    cases hx:lexL ((l.drop (btw l)).drop j) (a+sz (l.take (btw l))+sz ((l.drop (btw l)).take j)) with
    | inr r=>rw[hx] at h;cases h
    | inl q=>
     rw[hx] at h;simp only[Sum.inl.injEq] at h;subst h
     cases n with
     | zero=>omega
     | succ n=>
      have:=zUh n _ _ _ (by simp only[List.length_drop];omega) hx;simp only[List.length_drop] at this;simp only[List.length_cons];omega
theorem zN2 {s:ByteArray} {L:List Nat} (hL:Txt s L) {toks:List (Tok×Nat)} (h:lexL L 0 = .inl toks):toks.length<=s.size:=by
 have h1:=zUh _ L 0 toks (Nat.le_refl _) h;have h2:=pV L;have h3:s.size=sz L:=by rw[<- hL.txt,zI]
 omega
theorem zXu (v:Int):∀r∈numb v,33<=r/\r<=126:=by
 intro r hr;unfold numb at hr
 split at hr
 ·rcases List.mem_cons.1 hr with rfl | hr
  ·omega
  ·have:=vY _ r hr;omega
 ·have:=vY _ r hr;omega
theorem zN3 (v:Int) (h : -1073741824<=v/\v<=1073741824):sz (numb v)<=21:=by
 have h1:=itoa_length_le v (by omega) (by omega);rw[rJ (rM v)];unfold numb dgs;unfold itoa at h1
 split
 ·rename_i hn
  rw[if_pos hn] at h1
  simpa using h1
 ·rename_i hn
  rw[if_neg hn] at h1
  simpa using h1
theorem zSq {d:List Nat} {t:Tok} {n:Nat} (h:tokT d=some (t,n)) :
  t.x=d.take n\/(t.x=numb t.n/\-1073741824<=t.n/\t.n<=1073741824):=by
 cases d with
 | nil=>cases h
 | cons r u=>
  have e2:tokT (r::u)=if cls r=1 then nameT (r::u) else if cls r=2\/r=126 then numT (r::u) else if opens (r::u) then none else signT (r::u):=rfl
  rw[e2] at h
  split at h
  ·left
   unfold nameT at h
   split at h
   ·injection h with h
    injection h with h1 h2;rw[<- h1,<- h2]
   ·split at h
    ·injection h with h
     injection h with h1 h2;rw[<- h1,<- h2]
    ·cases h
  ·split at h
   ·right
    unfold numT at h
    split at h
    ·exact(zZh h).2
    ·exact(zZh h).2
   ·split at h
    ·cases h
    ·left
     unfold signT at h;obtain⟨x,hx,he⟩:=Option.map_eq_some_iff.1 h;have hp:=(zZ0 hx).2;injection he with h1 h2;rw[<- h1,<- h2];exact(List.prefix_iff_eq_take.1 hp)
theorem zSr {r:Nat} (h:33<=r/\r<=126):rdb (r:Int)=true:=by
 unfold rdb;rw[Bool.not_eq_true',decide_eq_false_iff_not];omega
theorem zN4 {d:List Nat} {t:Tok} {n:Nat} (h:tokT d=some (t,n)) (ho:okl d) (hr:∀r∈d,rdb (r:Int)=true) :
  okl t.x/\(∀r∈t.x,rdb (r:Int)=true)/\sz t.x<=sz (d.take n)+21:=by
 rcases zSq h with e | ⟨e,hv⟩
 ·rw[e]
  exact⟨zPy ho n,fun r hr'=>hr r (List.mem_of_mem_take hr'),by omega⟩
 ·rw[e]
  refine⟨zO2 (rM _),fun r hr'=>zSr (zXu _ r hr'),?_⟩;have:=zN3 t.n hv;omega
def Made (t:Tok):Prop:=∃d n,tokT d=some (t,n)
def tot:List (List Nat)->Nat
 | []=>0
 | x::r=>sz x+1+tot r
theorem zUi:∀(n:Nat) (l:List Nat) (a:Nat) (toks:List (Tok×Nat)),l.length<=n->okl l->(∀r∈l,rdb (r:Int)=true)->lexL l a = .inl toks->
  tot (toks.map (·.1.x))<=sz l+22*toks.length/\∀x∈toks,Made x.1/\okl x.1.x/\∀r∈x.1.x,rdb (r:Int)=true
 | n,l,a,toks,hn,ho,hr,h=>by
  by_cases he:l.drop (btw l)=[]
  ·rw[nB he] at h
   injection h with h;subst h;exact⟨Nat.zero_le _,fun x hx=>by cases hx⟩
  ·cases ht:tokT (l.drop (btw l)) with
   | none=>rw[nC he ht] at h;cases h
   | some tn=>
    obtain⟨t,j⟩:=tn;have hj:=xB ht;have hj2:=hj.2;simp only[List.length_drop] at hj2;rw[fK he ht] at h;have hod:=rH ho (btw l);have hrd:∀r∈l.drop (btw l),rdb (r:Int)=true:=fun r h=>hr r (List.mem_of_mem_drop h)
    obtain⟨k1,k2,k3⟩:=zN4 ht hod hrd
    cases hx:lexL ((l.drop (btw l)).drop j) (a+sz (l.take (btw l))+sz ((l.drop (btw l)).take j)) with
    | inr r=>rw[hx] at h;cases h
    | inl q=>
     rw[hx] at h;simp only[Sum.inl.injEq] at h;subst h
     cases n with
     | zero=>omega
     | succ n=>
      obtain⟨i1,i2⟩:=zUi n _ _ _ (by simp only[List.length_drop];omega) (rH hod j) (fun r h=>hrd r (List.mem_of_mem_drop h)) hx;have hs1:sz l=sz (l.take (btw l))+sz (l.drop (btw l)):=by rw[<- sz_app,List.take_append_drop]
      have hs2:sz (l.drop (btw l))=sz ((l.drop (btw l)).take j)+sz ((l.drop (btw l)).drop j):=by rw[<- sz_app,List.take_append_drop]
      refine⟨?_,?_⟩
      ·show sz t.x+1+tot (q.map (·.1.x))<=_
       rw[List.length_cons];omega
      ·intro x hx'
       rcases List.mem_cons.1 hx' with rfl | hx'
       ·exact⟨⟨_,_,ht⟩,k1,k2⟩
       ·exact i2 x hx'
end Go.Proofs.YtgeghilbikljcaaGreatDoor.B
namespace Go.Proofs.YtgeghilbikljcaaGreatDoor.B
open Go.RowKit
def RS:List (List Nat):=[[40],[41],[123],[125],[44],[58],[58,62],[61],[61,62],[45,62],[42],[43],[45],[60],[124],[35,49],[35,50]]
def rs (k:Nat):List Nat:=RS.getD k []
end Go.Proofs.YtgeghilbikljcaaGreatDoor.B
