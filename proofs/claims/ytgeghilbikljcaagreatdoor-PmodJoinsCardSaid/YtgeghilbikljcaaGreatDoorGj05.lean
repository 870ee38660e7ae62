/-
  The lexer's Lex: what it tells of any text.
-/
import Derived.Test.YtgeghilbikljcaaGreatDoorGj04
import Derived.Lib.CutLaws
import Derived.Lib.Join
set_option maxHeartbeats 40000000
set_option maxRecDepth 100000
namespace Go.Proofs.YtgeghilbikljcaaGreatDoor.B
open Go.RowKit
theorem xP {w w':World} {base:Nat} {e:TypeId} {size:Nat} {v:Value} {n:Nat} {xs:List Value} (h:w.ownsRow base e size v n xs) (hb:Below w.heap.size w w'):w'.ownsRow base e size v n xs:=by
 refine⟨h.1,?_⟩
 rcases h.2 with h2 | ⟨g,cap,cur,hv,hbg,hh,d⟩
 ·exact .inl h2
 ·exact .inr ⟨g,cap,cur,hv,hbg,zC hh hb,d⟩
def tcl (t:Tok×Nat):List Value:=[.int .i64 t.1.k,.string (T t.1.x),.int .i64 t.1.n,.int .i64 ((t.2:Nat):Int)]
def tcel:List (Tok×Nat)->List Value
 | []=>[]
 | t::r=>tcl t++tcel r
theorem zTo (l:List (Tok×Nat)):(tcel l).length=l.length*4:=by
 induction l with
 | nil=>rfl
 | cons t r ih=>show(tcl t++tcel r).length=_;rw[List.length_append,ih,List.length_cons];show 4+_=_;omega
theorem zTp (a b:List (Tok×Nat)):tcel (a++b)=tcel a++tcel b:=by
 induction a with
 | nil=>rfl
 | cons t r ih=>show tcl t++tcel (r++b)=_;rw[ih,<- List.append_assoc];rfl
theorem zPt {l:List (Tok×Nat)} {j:Nat} {t:Tok×Nat} (h:l[j]? = some t) {i:Nat} {u:Value} (hu:(tcl t)[i]? = some u):(tcel l)[j*4+i]? = some u:=by
 have hi:i<4:=(List.getElem?_eq_some_iff.1 hu).1
 induction l generalizing j with
 | nil=>simp at h
 | cons x r ih=>
  show(tcl x++tcel r)[j*4+i]? = _
  cases j with
  | zero=>
   simp at h;subst h
   rw[Nat.zero_mul,Nat.zero_add,List.getElem?_append_left (by exact hi)];exact hu
  | succ j=>
   rw[List.getElem?_append_right (by show 4<=_;omega)];have:(j+1)*4+i-(tcl x).length=j*4+i:=by show _-4=_;omega
   rw[this];exact ih (by simpa using h)
def Tks (w:World) (B:Nat) (v:Value) (l:List (Tok×Nat)):Prop:=
 ∃A c,v = .slice A l.length c/\∀(j:Nat) t,l[j]? = some t->∃ad,A=some ad/\ad.block<B/\∀i u,(tcl t)[i]? = some u->w.cell? (ad.add (j*4+i))=some u
theorem Tks.nil (w:World) (B:Nat):Tks w B (.slice none 0 0) []:=⟨none,0,rfl,fun j u hu=>by simp at hu⟩
theorem Tks.own {w:World} {base:Nat} {e:TypeId} {v:Value} {n:Nat} {l:List (Tok×Nat)} (h:w.ownsRow base e 4 v n (tcel l)):Tks w w.heap.size v l:=by
 have hn:l.length=n:=by have:=h.1;rw[zTo] at this;omega
 subst hn
 by_cases h0:0<l.length
 ·obtain⟨g,cap,hv,_,hlt⟩:=h.form h0
  refine⟨some ⟨g,0,none⟩,cap,hv,fun j t ht=>⟨_,rfl,hlt,fun i u hu=>?_⟩⟩;exact h.cells (g:=g) (by rw[hv];rfl) _ _ (zPt ht hu)
 ·have hl:l=[]:=List.eq_nil_of_length_eq_zero (by omega)
  subst hl
  rcases h.2 with ⟨hv,_⟩ | ⟨g,cap,cur,hv,_⟩
  ·exact⟨none,0,hv,fun j u hu=>by simp at hu⟩
  ·exact⟨_,cap,hv,fun j u hu=>by simp at hu⟩
def eB (r:List (Tok×Nat)×Int×Int) (W:World) (e:Ending) (w':World):Prop:=
 ∃v,e = .returned (.tuple #[v,.int .i64 r.2.1,.int .i64 r.2.2])/\Tks w' w'.heap.size v r.1/\Below W.heap.size W w'
theorem zXp {r:List (Tok×Nat)×Int×Int} {W w':World} {a b:Int} (h:r=([],a,b)) (hb:Below W.heap.size W w'):eB r W (.returned (.tuple #[.slice none 0 0,.int .i64 a,.int .i64 b])) w':=by
 subst h;exact⟨_,rfl,Tks.nil _ _,hb⟩
theorem zPu {r:List (Tok×Nat)×Int×Int} {W w':World} {base:Nat} {e:TypeId} {v:Value} {n:Nat} {l:List (Tok×Nat)} (h:r=(l,0,0)) (ho:w'.ownsRow base e 4 v n (tcel l)) (hb:Below W.heap.size W w') :
  eB r W (.returned (.tuple #[v,.int .i64 0,.int .i64 0])) w':=by
 subst h;exact⟨_,rfl,Tks.own ho,hb⟩
theorem rZ (w:World) (o:Obj) (a b c d:Value) (t:TypeId):∀(j:Nat) u,[a,b,c,d][j]? = some u->((w.alloc o).alloc (.cells #[a,b,c,d] t)).cell? ((⟨w.heap.size+1,0,none⟩:Addr).add j)=some u:=by
 intro j u hj;have hb:((w.alloc o).alloc (.cells #[a,b,c,d] t)).heap[w.heap.size+1]? = some (.cells #[a,b,c,d] t (0,0)):=heap_alloc2_new w _ _;have e:(⟨w.heap.size+1,0,none⟩:Addr).add j=⟨w.heap.size+1,j,none⟩:=by unfold Addr.add;split<;>simp_all
 rw[e,cell_of_row _ _ j _ _ _ hb,<- hj]
 simp
theorem zTq {a b c d:Value} (ha:a.oneCell'=true) (hb:b.oneCell'=true) (hc:c.oneCell'=true) (hd:d.oneCell'=true):∀u∈[a,b,c,d],u.oneCell'=true:=by
 intro u hu;simp only[List.mem_cons,List.not_mem_nil,or_false] at hu
 rcases hu with rfl | rfl | rfl | rfl<;>assumption
theorem zXq:(Tryz.prog.info? 47).map (fun i=>(i.zero,i.size,i.bytes))=some (some (.agg #[.int .i64 0,.string ⟨#[]⟩,.int .i64 0,.int .i64 0]),4,40):=by kernel_rfl
def Rel (L:List Nat) (out:List (Tok×Nat)) (b:List Nat) (a:Nat):Prop:=
 match lexL b a with | .inl r=>lexL L 0 = .inl (out++r) | .inr e=>lexL L 0 = .inr e
theorem zV8 (L:List Nat):Rel L [] L 0:=by
 unfold Rel
 cases h:lexL L 0 with
 | inl r=>rfl
 | inr e=>rfl
theorem zPv {L b:List Nat} {out:List (Tok×Nat)} {a:Nat} (h:Rel L out b a) (e:b.drop (btw b)=[]):lexL L 0 = .inl out:=by
 unfold Rel at h;rw[jI e] at h
 simpa using h
theorem zPw {L b:List Nat} {out:List (Tok×Nat)} {a:Nat} (h:Rel L out b a) (e:b.drop (btw b)≠[]) (e2:tokT (b.drop (btw b))=none):lexL L 0 = .inr (a+sz (b.take (btw b))):=by
 unfold Rel at h;rw[jJ e e2] at h;exact h
theorem zTr {L b:List Nat} {out:List (Tok×Nat)} {a:Nat} {t:Tok} {n:Nat} (h:Rel L out b a) (e:b.drop (btw b)≠[]) (e2:tokT (b.drop (btw b))=some (t,n)) :
  Rel L (out++[(t,a+sz (b.take (btw b)))]) ((b.drop (btw b)).drop n) (a+sz (b.take (btw b))+sz ((b.drop (btw b)).take n)):=by
 unfold Rel at h ⊢;rw[kD e e2] at h
 cases hx:lexL ((b.drop (btw b)).drop n) (a+sz (b.take (btw b))+sz ((b.drop (btw b)).take n)) with
 | inl r=>rw[hx] at h;simpa using h
 | inr e=>rw[hx] at h;exact h
theorem zPx {s:ByteArray} {a b:Int} (h:ckr s=(a,b)) (hb:b≠0):lexR s=([],a,b):=by
 unfold lexR;rw[h,if_neg hb]
theorem zPy {s:ByteArray} {l:List (Tok×Nat)} (h:(ckr s).2=0) (e:lexL (rns s 0) 0 = .inl l):lexR s=(l,0,0):=by
 unfold lexR;rw[if_pos h,e]
theorem zTs {s:ByteArray} {a:Nat} (h:(ckr s).2=0) (e:lexL (rns s 0) 0 = .inr a):lexR s=([],(a:Int),5):=by
 unfold lexR;rw[if_pos h,e]
theorem zMy {s:ByteArray} (h:(ckr s).2=0):ckr s=(0,0)/\vls s 0=true/\(∀r∈rns s 0,rdb (r:Int)=true)/\s.size<=16384:=by
 unfold ckr at h ⊢
 by_cases hs:16384<s.size
 ·rw[if_pos hs] at h;exact absurd h (by decide)
 ·rw[if_neg hs] at h ⊢
  rcases zMa s 0 with ⟨h1,h2,h3,h4⟩ | h1
  ·exact⟨Prod.ext h2 h1,h3,h4,by omega⟩
  ·rw[h] at h1;exact absurd h1 (by decide)
theorem zPz (s:ByteArray) (hs:s.size<=1000000000) (w:World) (hL:Lx w) :
  Calls Tryz.prog 31 #[.string s] w (eB (lexR s) w):=by
 have cK:=zV0 s w hs;have hck:mP s w=fun e w'=>e = .returned (.tuple #[.int .i64 (ckr s).1,.int .i64 (ckr s).2])/\Below w.heap.size w w':=rfl
 rw[hck] at cK;clear hck
 by_cases hok:(ckr s).2=0
 ·obtain⟨hc,hv,hrd,hsz⟩:=zMy hok
  rw[hc] at cK;obtain⟨L,hLd⟩:∃L,rns s 0=L:=⟨_,rfl⟩;have hT:T L=s:=by rw[<- hLd];exact zT4 hv
  have hoL:okl L:=by rw[<- hLd];exact aL hv
  have HOK:=Lib.hid hok;have HLD:=Lib.hid hLd;have HS:=Lib.hid hT;obtain⟨i0,hi,hz0,hz1,hz2⟩:=info_parts zXq;clear hok hc hv hrd hLd hT
  go_enter Tryz.func31,Tryz.ntmps31
  go_wp2_with fail;refine cK.mono ?_;rintro e w1 ⟨rfl,hb1⟩
  go_wp2
  go_loopw [2,3] (fun v x wr=>∃(a b:List Nat) (out:List (Tok×Nat)),L=a++b/\x = .int .i64 (sz a:Nat)/\sz a<=s.size/\out.length<=sz a/\wr.ownsRow w.heap.size 47 4 v out.length (tcel out)/\Below w.heap.size w wr/\Rel L out b (sz a)) (fun _ x _=>s.size-(intOf x).toNat)
  case atStart=>exact⟨[],L,[],rfl,rfl,Nat.zero_le _,Nat.zero_le _,⟨rfl,.inl ⟨rfl,rfl⟩⟩,hb1,zV8 L⟩
  case round=>
   obtain⟨a,b,out,hl,rfl,hle,hol,hown,hbw,hrel⟩:=hrel;have hob:=(xB.1 (hl▸hoL)).2;have hbl:=aN b;obtain⟨c,hc⟩:∃c,b.take (btw b)=c:=⟨_,rfl⟩;obtain⟨d,hd⟩:∃d,b.drop (btw b)=d:=⟨_,rfl⟩;have hbcd:b=c++d:=by rw[<- hc,<- hd];exact(List.take_append_drop _ _).symm
   have hod:=(xB.1 (hbcd▸hob)).2;have hszs:s.size=sz a+(sz c+sz d):=by rw[<- HS.out,qO,hl,hbcd,sz_app,sz_app]
   have E1:Hid (s.extract (sz a) s.size=T b):=Lib.hid (by rw[<- HS.out,qO,hl];exact fX a b);have E2:Hid (s.extract (sz a+sz c) s.size=T d):=Lib.hid (by rw[<- HS.out,qO,hl,hbcd,<- List.append_assoc,<- sz_app];exact fX (a++c) d);have hzb:sz b<=1000000000:=by rw[hbcd,sz_app];omega
   have c1:=fun W=>zJ b hob W hzb
   rw[hc] at c1;have hac:sz a+sz c<=s.size:=by omega
   by_cases hde:d=[]
   ·have HEND:=Lib.hid (zPv hrel (by rw[hd];exact hde))
    have hat:((sz a:Int)+(sz c:Int)==(s.size:Int))=true:=by
     rw[hde,yT] at hszs;rw[beq_iff_eq];omega
    have hat2:(sz a:Int)+(sz c:Int)=(s.size:Int):=by simpa using hat
    have HOWN:=Lib.hid hown;have HLD2:=HLD;clear hl hc hd hbcd hde hszs hrel hown;clear hat;go_wp2_with fail;rw[E1.out];refine(c1 _).mono ?_;rintro e w2 ⟨rfl,hb2⟩;have hfin:=hbw.trans (hb2.mono hbw.size);have HOWN2:=Lib.hid (xP HOWN.out hb2);clear HOWN
    go_wp2
    go_ret3
    exact zPu (zPy HOK.out (by rw[HLD2.out];exact HEND.out)) HOWN2.out hfin
   ·obtain⟨r,u,hru⟩:∃r u,d=r::u:=by
     cases d with
     | nil=>exact absurd rfl hde
     | cons r u=>exact⟨r,u,rfl⟩
    have hwr:=sV r;have hzd:sz d=wd r+sz u:=by rw[hru,zG]
    have hat:((sz a:Int)+(sz c:Int)==(s.size:Int))=false:=by
     rw[beq_eq_false_iff_ne];omega
    have cT:=fun W hL=>zV7 r u (hru▸hod) (by rw[<- hru];omega) W hL
    rw[<- hru] at cT
    cases htok:tokT d with
    | none=>
     have HBAD:=Lib.hid (zPw hrel (by rw[hd];exact hde) (by rw[hd];exact htok));have HC:=Lib.hid hc;rw[htok] at cT;have CT:=Lib.hid cT;have HOWN:=Lib.hid hown;clear hl hc hd hbcd hde hszs hrel hown hru hzd htok cT;go_wp2_with fail;rw[E1.out];refine(c1 _).mono ?_;rintro e w2 ⟨rfl,hb2⟩;have hbw2:=hbw.trans (hb2.mono hbw.size);go_wp2_with fail;rw[E2.out];refine(CT.out w2 (hL.below hbw2)).mono ?_;rintro e w3 ⟨rfl,hb3⟩;have hfin:=hbw2.trans (hb3.mono hbw2.size);have hsz3:=hfin.size;unfold tv0
     go_wp2
     go_ret3
     refine zXp ?_ (hfin.alloc hsz3 _);have hh:=HBAD.out;rw[HC.out] at hh;rw[zTs HOK.out (by rw[HLD.out];exact hh)]
     go_num
    | some tn=>
     obtain⟨t,n⟩:=tn;have hn:=kP htok;have HNEXT:=Lib.hid (zTr hrel (by rw[hd];exact hde) (by rw[hd];exact htok));obtain⟨f,hf⟩:∃f,d.take n=f:=⟨_,rfl⟩;obtain⟨g,hg⟩:∃g,d.drop n=g:=⟨_,rfl⟩;have hdfg:d=f++g:=by rw[<- hf,<- hg];exact(List.take_append_drop _ _).symm
     have hzf:1<=sz f:=by
      have h1:=mN f;have h2:f.length=n:=by rw[<- hf,List.length_take];omega
      omega
     have hzfg:sz d=sz f+sz g:=by rw[hdfg,sz_app]
     have HREL:Hid (Rel L (out++[(t,sz a+sz c)]) g (sz (a++(c++f)))):=Lib.hid (by
      have:=HNEXT.out;rw[hd,hc,hf,hg] at this;rw[sz_app,sz_app,<- Nat.add_assoc];exact this)
     have HL2:Hid (L=(a++(c++f))++g/\sz (a++(c++f))=sz a+sz c+sz f):=Lib.hid ⟨by rw[hl,hbcd,hdfg];simp,by rw[sz_app,sz_app];omega⟩;have hnew:sz a+sz c+sz f<=s.size:=by omega
     have hz0':((sz f:Int)==0)=false:=by rw[beq_eq_false_iff_ne];omega
     rw[htok] at cT;have CT:Hid (∀W,Lx W->Calls Tryz.prog 57 #[.string (T d)] W fun e w'=>e = .returned (.tuple #[.agg #[.int .i64 t.k,.string (T t.x),.int .i64 t.n,.int .i64 0],.int .i64 (sz f:Nat)])/\Below W.heap.size W w'):=Lib.hid (fun W hL=>(cT W hL).mono fun _ _ k=>by rw[<- hf];exact k);obtain⟨K,hK⟩:∃K,t.k=K:=⟨_,rfl⟩;obtain⟨X,hX⟩:∃X,T t.x=X:=⟨_,rfl⟩;obtain⟨M,hM⟩:∃M,t.n=M:=⟨_,rfl⟩;rw[hK,hX,hM] at CT;have HTC:Hid (tcl (t,sz a+sz c)=[.int .i64 K,.string X,.int .i64 M,.int .i64 ((sz a+sz c:Nat):Int)]):=Lib.hid (by unfold tcl;rw[hK,hX,hM]);have HOWN:=Lib.hid hown;clear hl hc hd hbcd hde hszs hrel hown hru hzd htok cT hf hg hdfg hzfg hK hX hM HNEXT;go_wp2_with fail;rw[E1.out];refine(c1 _).mono ?_;rintro e w2 ⟨rfl,hb2⟩;have hbw2:=hbw.trans (hb2.mono hbw.size);go_wp2_with fail;rw[E2.out];refine(CT.out w2 (hL.below hbw2)).mono ?_;rintro e w3 ⟨rfl,hb3⟩;have hfin:=hbw2.trans (hb3.mono hbw2.size);have hsz3:=hfin.size;have hown3:=xP (xP HOWN.out hb2) hb3;have HOWN3:=Lib.hid hown3;clear hown3 HOWN
     go_wp2_with (at_builtin;(refine wpList_append_own _ rfl _ _ 22 rfl w.heap.size 47 i0 (.agg #[.int .i64 0,.string ⟨#[]⟩,.int .i64 0,.int .i64 0]) 4 40 Tryz.underlying22 hi hz0 hz1 hz2 rfl (by decide) _ _ _ rfl ((HOWN3.out.alloc _).alloc _) ⟨w3.heap.size+1,0,none⟩ 1 1 [.int .i64 K,.string X,.int .i64 M,.int .i64 ((sz a:Int)+(sz c:Int))] rfl rfl (rZ _ _ _ _ _ _ _) (zTq rfl rfl rfl rfl) (by unfold maxLen;omega) (by omega) (by simp;omega) ?_);intro v' w4 hown4 hgrow4 _)
     have hbel:=((hfin.alloc hsz3 _).alloc (by simp;omega) _).grown hgrow4 (by simp;omega) (fun g hg=>(HOWN3.out.lt g hg).1);have HBEL:=Lib.hid hbel;have HOWN4:=Lib.hid hown4;clear hbel hown4 hgrow4
     go_roundw
     case rel=>
      refine⟨a++(c++f),g,out++[(t,sz a+sz c)],HL2.out.1,by rw[HL2.out.2];go_num,by rw[HL2.out.2];exact hnew,by rw[HL2.out.2,List.length_append,List.length_singleton];omega,?_,HBEL.out,HREL.out⟩;have e:tcel (out++[(t,sz a+sz c)])=tcel out++[.int .i64 K,.string X,.int .i64 M,.int .i64 ((sz a:Int)+(sz c:Int))]:=by
       rw[zTp]
       show tcel out++(tcl _++[])=_
       rw[List.append_nil,HTC.out,Int.natCast_add]
      rw[e,List.length_append,List.length_singleton];exact HOWN4.out
     case measure=>simp[intOf];omega
 ·obtain⟨x,y,hxy⟩:∃x y,ckr s=(x,y):=⟨_,_,rfl⟩
  rw[hxy] at cK hok;have hy:(y==0)=false:=by rw[beq_eq_false_iff_ne];exact hok
  have hy2:(y != 0)=true:=by rw[bne,hy];rfl
  have HXY:=Lib.hid hxy;have HOK:=Lib.hid hok;clear hxy hok
  go_enter Tryz.func31,Tryz.ntmps31
  go_wp2_with fail;refine cK.mono ?_;rintro e w1 ⟨rfl,hb1⟩
  go_wp2
  go_ret3
  exact zXp (zPx HXY.out HOK.out) hb1
end Go.Proofs.YtgeghilbikljcaaGreatDoor.B
namespace Go.Proofs.YtgeghilbikljcaaGreatDoor.B
open Go.Lib
def pcl:List UInt8->List (List UInt8)
 | []=>[[]]
 | b::l=>if b=46 then []::pcl l else match pcl l with
  | []=>[[b]]
  | x::r=>(b::x)::r
theorem zMz (l:List UInt8):pcl l≠[]:=by
 cases l with
 | nil=>simp[pcl]
 | cons b t=>
  unfold pcl
  split
  ·simp
  ·cases pcl t<;>simp
theorem oJ {l:List UInt8} (h:(46:UInt8)∉l):pcl l=[l]:=by
 induction l with
 | nil=>rfl
 | cons r t ih=>
  simp only[List.mem_cons,not_or] at h;unfold pcl;rw[if_neg (fun e=>h.1 e.symm),ih h.2]
theorem zL0 {a r:List UInt8} (h:(46:UInt8)∉a):pcl (a++46::r)=a::pcl r:=by
 induction a with
 | nil=>show pcl (46::r)=_;simp[pcl]
 | cons x t ih=>
  simp only[List.mem_cons,not_or] at h
  show pcl (x::(t++46::r))=_
  rw[pcl,if_neg (fun e=>h.1 e.symm),ih h.2]
theorem zL1 (l:List UInt8):(46:UInt8)∉l\/∃a r,l=a++46::r/\(46:UInt8)∉a:=by
 induction l with
 | nil=>left;simp
 | cons x t ih=>
  by_cases hx:x=46
  ·right;exact⟨[],t,by rw[hx];rfl,by simp⟩
  ·rcases ih with h | ⟨a,r,rfl,h⟩
   ·left;simp;exact⟨fun e=>hx e.symm,h⟩
   ·right;exact⟨x::a,r,rfl,by simp;exact⟨fun e=>hx e.symm,h⟩⟩
theorem zTt {x:List UInt8} {c:UInt8} (h:c∉x):indexByte x c = -1:=by
 induction x with
 | nil=>rfl
 | cons b t ih=>
  simp only[List.mem_cons,not_or] at h;unfold indexByte;rw[if_neg (by simp;exact fun e=>h.1 e.symm),ih h.2]
  rfl
theorem zL2 {x y:List UInt8} {c:UInt8} (h:c∉x):indexByte (x++c::y) c=(x.length:Int):=by
 induction x with
 | nil=>simp[indexByte]
 | cons b t ih=>
  simp only[List.mem_cons,not_or] at h
  show indexByte (b::(t++c::y)) c=_
  unfold indexByte;rw[if_neg (by simp;exact fun e=>h.1 e.symm),ih h.2,if_neg (by simp)]
  simp
theorem oK {l:List UInt8} (h:(46:UInt8)∉l):Lib.cut l [46]=(l,[],false):=by
 unfold Lib.cut;rw[index_one,zTt h]
 rfl
theorem zL3 {a r:List UInt8} (h:(46:UInt8)∉a):Lib.cut (a++46::r) [46]=(a,r,true):=by
 unfold Lib.cut;rw[index_one,zL2 h,if_pos (by omega)];have e:((a.length:Int)).toNat=a.length:=by omega
 rw[e];have e2:(a++46::r).drop (a.length+1)=r:=by
  rw[<- List.drop_drop,List.drop_left];rfl
 simp only[List.take_left',List.length_singleton,e2]
theorem pQ {f:Nat->Bool} {l:List Nat} (h:cnt f l<l.length) (y:List Nat):cnt f (l++y)=cnt f l:=by
 induction l with
 | nil=>simp at h
 | cons r t ih=>
  cases hr:f r
  ·simp[cnt,hr]
  ·simp[cnt,hr] at h ⊢
   exact ih h
theorem zXr {f:Nat->Bool} {l:List Nat} (h:∀r∈l,f r=true) (y:List Nat):cnt f (l++y)=l.length+cnt f y:=by
 induction l with
 | nil=>simp
 | cons r t ih=>
  have hr:=h r (by simp);have:=ih (fun x hx=>h x (by simp[hx]))
  simp[cnt,hr,this]
  omega
theorem oL {f:Nat->Bool} {l:List Nat} (h:cnt f l=l.length):∀r∈l,f r=true:=by
 have:=oD (f:=f) l;rw[h,List.take_length] at this;exact this
theorem zO0 {x l y:List Nat} (h:x.isPrefixOf l=true):x.isPrefixOf (l++y)=true:=by
 rw[List.isPrefixOf_iff_prefix] at h ⊢;exact h.trans (List.prefix_append _ _)
theorem zL4 {d:Int} {last:Nat} {l:List Nat} {k:Nat} (h:cm d last l=some k) (y:List Nat):cm d last (l++y)=some k:=by
 induction l generalizing d last k with
 | nil=>cases h
 | cons r t ih=>
  have key:∀{d':Int} {last':Nat},(cm d' last' t).map (· + 1)=some k->(cm d' last' (t++y)).map (· + 1)=some k:=by
   intro d' last' h;obtain⟨j,hj,rfl⟩:=Option.map_eq_some_iff.1 h;rw[ih hj]
   rfl
  rw[List.cons_append];unfold cm at h ⊢
  by_cases c1:last=40/\r=42
  ·rw[if_pos c1] at h ⊢
   by_cases c2:d+1=0
   ·rw[if_pos c2] at h ⊢;exact h
   ·rw[if_neg c2] at h ⊢;exact key h
  ·rw[if_neg c1] at h ⊢
   by_cases c3:last=42/\r=41
   ·rw[if_pos c3] at h ⊢
    by_cases c2:d-1=0
    ·rw[if_pos c2] at h ⊢;exact h
    ·rw[if_neg c2] at h ⊢;exact key h
   ·rw[if_neg c3] at h ⊢;exact key h
theorem zTu {l:List Nat} (h:cmt l≠0):opens l=true/\cm 0 32 l=some (cmt l):=by
 unfold cmt at h ⊢
 cases ho:opens l
 ·rw[ho] at h;exact absurd rfl h
 ·refine⟨rfl,?_⟩
  rw[if_pos rfl];rw[ho,if_pos rfl] at h
  cases hc:cm 0 32 l with
  | none=>rw[hc] at h;exact absurd rfl h
  | some k=>rfl
theorem zXs {l:List Nat} (h:cmt l≠0) (y:List Nat):cmt (l++y)=cmt l:=by
 obtain⟨h1,h2⟩:=zTu h;have h3:opens (l++y)=true:=zO0 h1;have h4:=zL4 h2 y
 conv=>lhs;unfold cmt
 rw[h3,if_pos rfl,h4]
 rfl
theorem zO1:cmt []=0:=rfl
theorem tH:∀(n:Nat) (z y:List Nat),z.length<=n->btw z=z.length->btw (z++y)=z.length+btw y
 | n,z,y,hn,hz=>by
  by_cases hc:cnt blk z=z.length
  ·have hall:=oL hc
   have h1:cnt blk (z++y)=z.length+cnt blk y:=zXr hall y;have h2:(z++y).drop (cnt blk (z++y))=y.drop (cnt blk y):=by
    rw[h1,<- List.drop_drop,List.drop_left]
   by_cases h:cmt (y.drop (cnt blk y))=0
   ·rw[wP h,wP (by rw[h2];exact h),h1]
   ·rw[jQ h,jQ (by rw[h2];exact h),h2,h1]
    have h3:(z++y).drop (z.length+cnt blk y+cmt (y.drop (cnt blk y)))=y.drop (cnt blk y+cmt (y.drop (cnt blk y))):=by
     rw[Nat.add_assoc,<- List.drop_drop,List.drop_left]
    rw[h3];omega
  ·have hl:=kC blk z
   have hlt:cnt blk z<z.length:=by omega
   have h1:=pQ hlt y;have h2:(z++y).drop (cnt blk z)=z.drop (cnt blk z)++y:=List.drop_append_of_le_length hl
   by_cases h:cmt (z.drop (cnt blk z))=0
   ·rw[wP h] at hz
    omega
   ·have h3:=mO (z.drop (cnt blk z))
    simp only[List.length_drop] at h3;have h4:=jQ h;have h5:=zXs h y;have h6:(z++y).drop (cnt blk z+cmt (z.drop (cnt blk z)))=z.drop (cnt blk z+cmt (z.drop (cnt blk z)))++y:=List.drop_append_of_le_length (by omega);have h7:btw (z++y)=cnt blk z+cmt (z.drop (cnt blk z))+btw (z.drop (cnt blk z+cmt (z.drop (cnt blk z)))++y):=by
     rw[jQ (by rw[h1,h2,h5];exact h),h1,h2,h5,h6]
    have h8:btw (z.drop (cnt blk z+cmt (z.drop (cnt blk z))))=(z.drop (cnt blk z+cmt (z.drop (cnt blk z)))).length:=by
     rw[List.length_drop];omega
    cases n with
    | zero=>omega
    | succ n=>
     have ih:=tH n (z.drop (cnt blk z+cmt (z.drop (cnt blk z)))) y (by rw[List.length_drop];omega) h8;rw[h7,ih,List.length_drop];omega
theorem oM:∀(n:Nat) (a y:List Nat),a.length<=n->a.drop (btw a)≠[]->cmt (a.drop (btw a)++y)=0->btw (a++y)=btw a
 | n,a,y,hn,hne,hc=>by
  have hl:=kC blk a
  by_cases h:cmt (a.drop (cnt blk a))=0
  ·have hb:=wP h
   rw[hb] at hne hc;have hlt:cnt blk a<a.length:=by
    rcases Nat.lt_or_ge (cnt blk a) a.length with h1 | h1
    ·exact h1
    ·exact absurd (List.drop_eq_nil_of_le h1) hne
   have h1:=pQ hlt y;have h2:(a++y).drop (cnt blk a)=a.drop (cnt blk a)++y:=List.drop_append_of_le_length hl;rw[hb,wP (by rw[h1,h2];exact hc),h1]
  ·have h3:=mO (a.drop (cnt blk a))
   simp only[List.length_drop] at h3;have hlt:cnt blk a<a.length:=by
    rcases Nat.lt_or_ge (cnt blk a) a.length with h1 | h1
    ·exact h1
    ·rw[List.drop_eq_nil_of_le h1] at h;exact absurd zO1 h
   have h1:=pQ hlt y;have h2:(a++y).drop (cnt blk a)=a.drop (cnt blk a)++y:=List.drop_append_of_le_length hl;have h4:=jQ h;have h5:=zXs h y;have h6:(a++y).drop (cnt blk a+cmt (a.drop (cnt blk a)))=a.drop (cnt blk a+cmt (a.drop (cnt blk a)))++y:=List.drop_append_of_le_length (by omega);have h7:btw (a++y)=cnt blk a+cmt (a.drop (cnt blk a))+btw (a.drop (cnt blk a+cmt (a.drop (cnt blk a)))++y):=by
    rw[jQ (by rw[h1,h2,h5];exact h),h1,h2,h5,h6]
   have h8:a.drop (btw a)=(a.drop (cnt blk a+cmt (a.drop (cnt blk a)))).drop (btw (a.drop (cnt blk a+cmt (a.drop (cnt blk a))))):=by
    rw[List.drop_drop,<- h4]
   cases n with
   | zero=>omega
   | succ n=>
    have ih:=oM n (a.drop (cnt blk a+cmt (a.drop (cnt blk a)))) y (by rw[List.length_drop];omega) (by rw[<- h8];exact hne) (by rw[<- h8];exact hc);rw[h7,ih,h4]
def sh (p:Nat) (r:List (Tok×Nat)):List (Tok×Nat):=r.map fun x=>(x.1,x.2+p)
theorem dR (p:Nat):∀(n:Nat) (l:List Nat) (a:Nat),l.length<=n->lexL l (a+p)=(match lexL l a with | .inl r=>.inl (sh p r) | .inr e=>.inr (e+p))
 | n,l,a,hn=>by
  by_cases h:l.drop (btw l)=[]
  ·rw[jI h,jI h];rfl
  ·cases e:tokT (l.drop (btw l)) with
   | none=>
    rw[jJ h e,jJ h e];simp only
    congr 1
    omega
   | some tn=>
    obtain⟨t,k⟩:=tn;have hk:=kP e;simp only[List.length_drop] at hk
    cases n with
    | zero=>omega
    | succ n=>
     have ih:=dR p n ((l.drop (btw l)).drop k) (a+sz (l.take (btw l))+sz ((l.drop (btw l)).take k)) (by simp only[List.length_drop];omega);rw[kD h e,kD h e,show a+p+sz (l.take (btw l))+sz ((l.drop (btw l)).take k)=a+sz (l.take (btw l))+sz ((l.drop (btw l)).take k)+p by omega,ih]
     cases lexL ((l.drop (btw l)).drop k) (a+sz (l.take (btw l))+sz ((l.drop (btw l)).take k)) with
     | inl r=>
      simp only[sh,List.map_cons]
      congr 3
      omega
     | inr e=>rfl
theorem zL5 {l:List Nat} {r:List (Tok×Nat)} (h:lexL l 0 = .inl r) (p:Nat):lexL l p = .inl (sh p r):=by
 have:=dR p l.length l 0 (Nat.le_refl _);rw[Nat.zero_add,h] at this;exact this
theorem tI {z:List Nat} (h:btw z=z.length) (y:List Nat) (p:Nat):lexL (z++y) p=lexL y (p+sz z):=by
 have hb:=tH z.length z y (Nat.le_refl _) h;have hd:(z++y).drop (btw (z++y))=y.drop (btw y):=by rw[hb,<- List.drop_drop,List.drop_left]
 have ht:sz ((z++y).take (btw (z++y)))=sz z+sz (y.take (btw y)):=by
  rw[hb,List.take_append,List.take_of_length_le (by omega),show z.length+btw y-z.length=btw y by omega,sz_app]
 by_cases he:y.drop (btw y)=[]
 ·rw[jI he,jI (by rw[hd];exact he)]
 ·cases e:tokT (y.drop (btw y)) with
  | none=>rw[jJ he e,jJ (by rw[hd];exact he) (by rw[hd];exact e),ht,Nat.add_assoc]
  | some tn=>
   obtain⟨t,k⟩:=tn;rw[kD he e,kD (by rw[hd];exact he) (by rw[hd];exact e),ht,hd,<- Nat.add_assoc p (sz z) (sz (y.take (btw y)))]
theorem zZo {α:Type} {f g:α->Bool} {l:List α} (h:∀x∈l,f x=g x):l.find? f=l.find? g:=by
 induction l with
 | nil=>rfl
 | cons a t ih=>
  have ha:=h a (by simp);have:=ih fun x hx=>h x (by simp[hx])
  simp only[List.find?_cons,ha,this]
theorem fZ {d y:List Nat} {n:Nat} (h:n<=d.length):(d++y).take n=d.take n:=List.take_append_of_le_length h
theorem tJ {d y:List Nat} {n:Nat} (h:n<=d.length):(d++y).drop n=d.drop n++y:=List.drop_append_of_le_length h
theorem zV9 {d:List Nat} {t:Tok} {n:Nat} (h:tokT d=some (t,n)):opens d=false:=by
 cases d with
 | nil=>cases h
 | cons r u=>
  cases ho:opens (r::u)
  ·rfl
  ·exfalso
   have hr:r=40:=by
    obtain⟨t,ht⟩:=List.isPrefixOf_iff_prefix.1 ho;injection ht with h1 h2;exact h1.symm
   subst hr;have e2:tokT (40::u)=if cls ((40:Nat):Int)=1 then nameT (40::u) else if cls ((40:Nat):Int)=2\/(40:Nat)=126 then numT (40::u) else if opens (40::u) then none else signT (40::u):=rfl
   rw[e2,if_neg (by decide),if_neg (by decide),ho,if_pos rfl] at h
   cases h
theorem zZp {d:List Nat} (h:opens d=false):cmt d=0:=by unfold cmt;rw[h];rfl
theorem oN {b:Bool} {d:List Nat} {t:Tok} {n:Nat} (h:digT b d=some (t,n)):t.k=2/\t.x=numb t.n/\-1073741824<=t.n/\t.n<=1073741824:=by
 unfold digT at h
 split at h
 ·cases h
 split at h
 ·cases h
 split at h
 ·cases h
 ·rename_i h1 h2 h3
  cases b
  ·simp at h
   obtain⟨rfl,_⟩:=h;exact⟨rfl,rfl,by dsimp only;omega,by dsimp only;omega⟩
  ·simp at h
   obtain⟨rfl,_⟩:=h;exact⟨rfl,rfl,by dsimp only;omega,by dsimp only;omega⟩
def tx (l:List UInt8):ByteArray:=⟨l.toArray⟩
theorem zMb (s:ByteArray):tx s.data.toList=s:=fB rfl
theorem zXt (l:List UInt8):(tx l).size=l.length:=by rw[size_eq];rfl
def nck (s:ByteArray):Bool:=nm s && !wrd s
theorem zTv {s:ByteArray} (h:nck s=true):nm s=true/\wrd s=false:=by
 unfold nck at h;simpa using h
theorem dT {s:ByteArray} (h:nm s=true):(1<=s.size/\s.size<=32)/\okl (rns s 0)/\T (rns s 0)=s/\nmL (rns s 0)=true:=by
 unfold nm at h;rw[Bool.and_eq_true,decide_eq_true_iff] at h;obtain⟨h1,h2⟩:=h;have hv:vls s 0=true:=by
  cases hv:vls s 0
  ·rw[zMm s 0 hv] at h2;cases h2
  ·rfl
 exact⟨h1,aL hv,zT4 hv,by rw[<- zPb];exact h2⟩
theorem oO {s:ByteArray} (h:nck s=true):1<=s.size/\s.size<=32:=(dT (zTv h).1).1
theorem zL6 (b:Bool):mst 46 b=false:=by cases b<;>decide
theorem zO2 {l:List Nat} (h:nmL l=true):∀r∈l,∃b,mst (r:Int) b=true:=by
 cases l with
 | nil=>intro r hr;cases hr
 | cons x t=>
  unfold nmL at h;rw[Bool.and_eq_true,List.all_eq_true] at h;intro r hr
  rcases List.mem_cons.1 hr with rfl | hr
  ·exact⟨true,h.1⟩
  ·exact⟨false,h.2 r hr⟩
theorem zO3 {s:ByteArray} (h:nck s=true):(46:UInt8)∉s.data.toList:=by
 obtain⟨_,h2,h3,h4⟩:=dT (zTv h).1;intro hm;rw[<- h3,yL] at hm;obtain⟨b,hb⟩:=zO2 h4 46 (eA (c:=46) h2 (by omega) hm);rw[show((46:Nat):Int)=46 from rfl,zL6] at hb
 cases hb
def pc (s:ByteArray):List ByteArray:=(pcl s.data.toList).map tx
def long (s:ByteArray):Bool:=decide (s.size<=128)&&(pc s).all nck
def splt (s:ByteArray):List ByteArray:=if long s then pc s else []
theorem pc_ne (s:ByteArray):pc s≠[]:=by
 unfold pc;intro h;exact zMz _ (List.map_eq_nil_iff.1 h)
theorem pR {s:ByteArray}:long s=true↔s.size<=128/\(pc s).all nck=true:=by
 unfold long;rw[Bool.and_eq_true,decide_eq_true_iff]
theorem dU {s:ByteArray} (h:long s=true):splt s=pc s:=by unfold splt;rw[if_pos h]
theorem tK {s:ByteArray} (h:long s=false):splt s=[]:=by unfold splt;rw[h];rfl
theorem zTw (s:ByteArray):long s=decide (0<(splt s).length):=by
 cases h:long s
 ·rw[tK h];rfl
 ·rw[dU h]
  have:=pc_ne s
  cases hp:pc s with
  | nil=>exact absurd hp this
  | cons a b=>simp
def hd (s:ByteArray):ByteArray:=(splt s).headD ⟨#[]⟩
end Go.Proofs.YtgeghilbikljcaaGreatDoor.B
namespace Go.Proofs.YtgeghilbikljcaaGreatDoor.B
open Go.RowKit
def sv (l:List ByteArray):List Value:=l.map Value.string
theorem zL7 (l:List ByteArray):(sv l).length=l.length:=by simp[sv]
def Ss (w:World) (B:Nat) (v:Value) (l:List ByteArray):Prop:=
 ∃A c,v = .slice A l.length c/\l.length<=c/\∀(j:Nat) (u:ByteArray),l[j]? = some u->∃b o,A=some ⟨b,o,none⟩/\b<B/\w.cell? ⟨b,o+j,none⟩=some (.string u)
theorem Ss.nil (w:World) (B:Nat):Ss w B (.slice none 0 0) []:=⟨none,0,rfl,Nat.le_refl _,fun j u hu=>by simp at hu⟩
theorem Ss.own {w:World} {base:Nat} {e:TypeId} {v:Value} {n:Nat} {l:List ByteArray} (h:w.ownsRow base e 1 v n (sv l)):Ss w w.heap.size v l:=by
 have hn:l.length=n:=by have:=h.1;rw[zL7] at this;omega
 subst hn
 rcases h.2 with ⟨hv,h0⟩ | ⟨g,cap,cur,hv,_,hh,hc,_⟩
 ·have hl:l=[]:=List.eq_nil_of_length_eq_zero h0
  subst hl;exact⟨none,0,hv,Nat.le_refl _,fun j u hu=>by simp at hu⟩
 ·refine⟨some ⟨g,0,none⟩,cap,hv,hc,fun j u hu=>⟨g,0,rfl,qC hh,?_⟩⟩
  have:=h.cells (g:=g) (by rw[hv];rfl) j (.string u) (by simp[sv,hu]);have e:(⟨g,0,none⟩:Addr).add j=⟨g,0+j,none⟩:=by unfold Addr.add;split<;>simp_all
  rw[<- e]
  simpa using this
theorem zO4:(Tryz.prog.info? 9).map (fun i=>(i.zero,i.size,i.bytes))=some (some (.string ⟨#[]⟩),1,16):=by kernel_rfl
def zZq (l:List ByteArray) (W:World) (e:Ending) (w':World):Prop:=∃v,e = .returned v/\Ss w' w'.heap.size v l/\Below W.heap.size W w'
theorem eC {b c:Bool} {W w':World} (h:c=b) (hb:Below W.heap.size W w'):sY c W (.returned (.bool b)) w':=⟨by rw[h],hb⟩
theorem zTx {l:List ByteArray} {W w':World} (h:l=[]) (hb:Below W.heap.size W w'):zZq l W (.returned (.slice none 0 0)) w':=by subst h;exact⟨_,rfl,Ss.nil _ _,hb⟩
theorem zL8 {l l':List ByteArray} {W w':World} {base:Nat} {e:TypeId} {v:Value} {n:Nat} (h:l=l') (ho:w'.ownsRow base e 1 v n (sv l')) (hb:Below W.heap.size W w'):zZq l W (.returned v) w':=by subst h;exact⟨_,rfl,Ss.own ho,hb⟩
theorem zL9 {s:ByteArray} {a b:Bool} (ha:nm s=a) (hb:wrd s=b):nck s=(a && !b):=by unfold nck;rw[ha,hb]
theorem zVa (s:ByteArray) (w:World) (hs:s.size<=1000000000):Calls Tryz.prog 112 #[.string s] w (sY (nck s) w):=by
 have cN:=fun W=>iS s W hs
 have cW:=fun W=>sZ s W
 obtain⟨a,ha⟩:∃a,nm s=a:=⟨_,rfl⟩;obtain⟨b,hb⟩:∃b,wrd s=b:=⟨_,rfl⟩;have HA:=Lib.hid (zL9 ha hb);rw[ha] at cN;rw[hb] at cW;clear ha hb
 cases a
 ·go_enter Tryz.func112,Tryz.ntmps112
  go_wp2_with fail;refine(cN _).mono ?_;rintro e w1 ⟨rfl,hb1⟩
  go_wp2
  go_ret
  exact eC HA.out hb1
 ·go_enter Tryz.func112,Tryz.ntmps112
  go_wp2_with fail;refine(cN _).mono ?_;rintro e w1 ⟨rfl,hb1⟩;go_wp2_with fail;refine(cW _).mono ?_;rintro e w2 ⟨rfl,rfl⟩
  go_wp2
  go_ret
  exact eC (by rw[HA.out];rfl) hb1
theorem cut_no {s:ByteArray} (h:(46:UInt8)∉s.data.toList) (hs:s.size<=1000000000) (w:World) (hL:Nx w) :
  Calls Tryz.prog 156 #[.string s,.string ⟨#[46]⟩] w fun e w'=>e = .returned (.tuple #[.string s,.string ⟨#[]⟩,.bool false])/\Below w.heap.size w w':=by
 obtain⟨m,hm⟩:=hL.2;refine(Tryz.strings_Cut s ⟨#[46]⟩ m w (by omega) hm).mono fun e w' ⟨he,n,hw⟩=>⟨?_,?_⟩
 ·rw[he]
  have e1:Lib.cut s.data.toList (ByteArray.mk #[46]).data.toList=(s.data.toList,[],false):=oK h;rw[e1]
 ·rw[hw];exact qE (Below.refl _ _) n
def ctx (s:ByteArray):ByteArray×ByteArray×Bool:=(tx (Lib.cut s.data.toList [46]).1,tx (Lib.cut s.data.toList [46]).2.1,(Lib.cut s.data.toList [46]).2.2)
theorem zO5 (s:ByteArray) (hs:s.size<=1000000000) (w:World) (hL:Nx w) :
  Calls Tryz.prog 156 #[.string s,.string ⟨#[46]⟩] w fun e w'=>e = .returned (.tuple #[.string (ctx s).1,.string (ctx s).2.1,.bool (ctx s).2.2])/\Below w.heap.size w w':=by
 obtain⟨m,hm⟩:=hL.2;exact(Tryz.strings_Cut s ⟨#[46]⟩ m w (by omega) hm).mono fun e w' ⟨he,n,hw⟩=>⟨he,by rw[hw];exact qE (Below.refl _ _) n⟩
theorem zTy (s:ByteArray):pc s=(ctx s).1::(if (ctx s).2.2 then pc (ctx s).2.1 else [])/\(ctx s).1.size<=s.size/\((ctx s).2.2=true->(ctx s).2.1.size<s.size)/\((ctx s).2.2=false->(ctx s).2.1=⟨#[]⟩):=by
 unfold ctx
 rcases zL1 s.data.toList with h | ⟨a,r,hs,h⟩
 ·rw[oK h]
  refine⟨?_,by rw[zMb];exact Nat.le_refl _,fun h=>by simp at h,fun _=>rfl⟩;unfold pc;rw[oJ h]
  rfl
 ·rw[hs,zL3 h]
  have hz:s.size=a.length+(r.length+1):=by rw[Lib.size_eq,hs];simp
  refine⟨?_,by rw[zXt];dsimp only;omega,fun _=>by rw[zXt];dsimp only;omega,fun h=>by simp at h⟩;unfold pc;rw[hs,zL0 h]
  rfl
def more (m:Bool) (x:ByteArray):List ByteArray:=if m then pc x else []
theorem zZr (x:ByteArray):more false x=[]:=rfl
theorem zVb (x:ByteArray):more true x=pc x:=rfl
theorem dV {s x p y:ByteArray} {m:Bool} {done:List ByteArray} (h:pc s=done++more true x) (hc:ctx x=(p,y,m)):pc s=(done++[p])++more m y:=by
 rw[h,zVb,(zTy x).1,hc]
 simp[more]
theorem zVc {s x p y:ByteArray} {m:Bool} {done:List ByteArray} (h:pc s=done++more true x) (hc:ctx x=(p,y,m)) (hp:nck p=false):splt s=[]:=by
 apply tK
 unfold long;rw[dV h hc,List.all_append,List.all_append]
 simp[hp]
theorem zVd {s x:ByteArray} {done:List ByteArray} (h:pc s=done++more false x) (hn:done.all nck=true) (hs:s.size<=128):splt s=done:=by
 rw[zZr,List.append_nil] at h;rw[dU (pR.2 ⟨hs,by rw[h];exact hn⟩),h]
theorem zTz {l:List ByteArray} {x:ByteArray} {f:ByteArray->Bool} (h:l.all f=true) (hx:f x=true):(l++[x]).all f=true:=by rw[List.all_append,h];simp[hx]
def mea (m:Bool) (x:ByteArray):Nat:=if m then x.size+1 else 0
def zLa (s:ByteArray) (W:World) (x v m:Value) (wr:World):Prop:=
 ∃(X:ByteArray) (b:Bool) (done:List ByteArray),x = .string X/\m = .bool b/\X.size<=128/\done.length+mea b X<=130/\pc s=done++more b X/\done.all nck=true/\wr.ownsRow W.heap.size 9 1 v done.length (sv done)/\Below W.heap.size W wr/\Nx wr
theorem zVe (s:ByteArray) (w:World) (hs:s.size<=1000000000) (hL:Nx w):Calls Tryz.prog 122 #[.string s] w (zZq (splt s) w):=by
 by_cases hbig:s.size<=128
 ·have hz:¬(128:Int)<(s.size:Int):=by omega
  obtain⟨i0,hi,hz0,hz1,hz2⟩:=info_parts zO4;have HBIG:=Lib.hid hbig;have HNX:=Lib.hid hL;clear hL
  go_enter Tryz.func122,Tryz.ntmps122
  go_wp2
  go_loopw [0,3,4,5] (fun x v m p wr=>zLa s w x v m wr) (fun x _ m _ _=>match x,m with | .string X,.bool b=>mea b X | _,_=>0)
  case atStart=>exact⟨s,true,[],rfl,rfl,hbig,by simp[mea];omega,by simp[more],rfl,World.ownsRow_nil _ _ _ _,Below.refl _ _,HNX.out⟩
  case round=>
   obtain⟨X,b,done,rfl,rfl,hx,hmz,hpc,hall,hown,hbel,hnx⟩:=hrel;have hbs:=hbel.size;have HOWN:=Lib.hid hown;have HBEL:=Lib.hid hbel;have HALL:=Lib.hid hall;have HN:=Lib.hid hnx
   cases b
   ·have HEND:=Lib.hid (zVd hpc hall HBIG.out)
    clear hown hbel hall hnx hpc
    go_wp2
    go_ret
    exact zL8 HEND.out HOWN.out HBEL.out
   ·obtain⟨p,y,m,hc⟩:∃p y m,ctx X=(p,y,m):=⟨_,_,_,rfl⟩
    have cC:=zO5 X (by omega) wr hnx;have hcx:=zTy X;rw[hc] at cC hcx
    dsimp only at cC hcx
    obtain⟨_,hcx1,hcx2,hcx3⟩:=hcx;have hpz:p.size<=128:=by omega
    have hyz:y.size<=128:=by
     cases m
     ·rw[hcx3 rfl];exact Nat.zero_le _
     ·have:=hcx2 rfl;omega
    have hme:mea m y+1<=mea true X:=by
     unfold mea
     cases m
     ·simp
     ·have:=hcx2 rfl;simp;omega
    have cK:=fun W=>zVa p W (by omega)
    obtain⟨b,hb⟩:∃b,nck p=b:=⟨_,rfl⟩;rw[hb] at cK;have HB:=Lib.hid hb;have HC:=Lib.hid hc;have HPC:=Lib.hid hpc;have HME:=Lib.hid hme;have hdl:done.length<=130:=by omega
    have HMZ:=Lib.hid hmz;clear hown hbel hall hnx hpc hb hc hcx1 hcx2 hcx3 hme hmz;go_wp2_with fail;refine cC.mono ?_;rintro e w1 ⟨rfl,hb1⟩;have HB1:=Lib.hid hb1;clear hb1;go_wp2_with fail;refine(cK _).mono ?_;rintro e w2 ⟨rfl,hb2⟩;have hbw2:=HBEL.out.trans ((chn HB1.out hb2).mono hbs);have hown2:=xP HOWN.out (chn HB1.out hb2);have HOWN2:=Lib.hid hown2;have HBW2:=Lib.hid hbw2;have HN2:=Lib.hid (HN.out.below (chn HB1.out hb2));have hs2:=hbw2.size;clear hown2 hb2 hbw2
    cases b
    ·go_wp2
     go_ret
     exact zTx (zVc HPC.out HC.out HB.out) HBW2.out
    ·go_wp2_with (at_builtin;(refine wpList_append_own _ rfl _ _ 80 rfl w.heap.size 9 i0 (.string ⟨#[]⟩) 1 16 Tryz.underlying80 hi hz0 hz1 hz2 rfl (by decide) _ _ _ rfl (HOWN2.out.alloc _) ⟨w2.heap.size,0,none⟩ 1 1 [.string p] rfl rfl (cell_one_new _ _ _) (fun x hx=>by simp at hx;subst hx;rfl) (by unfold maxLen;omega) (by omega) (by simp;omega) ?_);intro v' w4 hown4 hgrow4 _)
     have hbel:=(HBW2.out.alloc hs2 _).grown hgrow4 (by simp;omega) (fun g hg=>(HOWN2.out.lt g hg).1);have hlt4:=hgrow4.size;have HBEL4:=Lib.hid hbel;have HOWN4:=Lib.hid hown4;clear hown4 hgrow4
     go_roundw
     case rel=>exact⟨y,m,done++[p],rfl,rfl,hyz,by have:=HME.out;have:=HMZ.out;simp;omega,dV HPC.out HC.out,zTz HALL.out HB.out,by simpa [sv] using HOWN4.out,HBEL4.out,HNX.out.below HBEL4.out⟩
     case measure=>exact HME.out
 ·have hz:(128:Int)<(s.size:Int):=by omega
  go_enter Tryz.func122,Tryz.ntmps122
  go_wp2
  go_ret
  exact zTx (tK (by unfold long;rw[decide_eq_false hbig];rfl)) (Below.refl _ _)
theorem zS0 (s:ByteArray) (w:World) (hs:s.size<=1000000000) (hL:Nx w):Calls Tryz.prog 77 #[.string s] w (sY (long s) w):=by
 have cS:=zVe s w hs hL;have hln:=zTw s;obtain⟨l,hl⟩:∃l,splt s=l:=⟨_,rfl⟩;obtain⟨b,hb⟩:∃b,long s=b:=⟨_,rfl⟩;rw[hl] at cS hln;rw[hb] at hln ⊢;have HLN:=Lib.hid hln;clear hl hb hln hL
 by_cases h0:0<l.length
 ·have hz:(0:Int)<(l.length:Int):=by omega
  go_enter Tryz.func77,Tryz.ntmps77
  go_wp2_with fail;refine cS.mono ?_;rintro e w1 ⟨v,rfl,⟨A,c,rfl,hlc,hcl⟩,hb⟩;have HCL:=Lib.hid hcl;clear hcl
  go_wp2
  go_ret
  exact eC (by rw[HLN.out,decide_eq_true h0]) hb
 ·have hz:¬(0:Int)<(l.length:Int):=by omega
  go_enter Tryz.func77,Tryz.ntmps77
  go_wp2_with fail;refine cS.mono ?_;rintro e w1 ⟨v,rfl,⟨A,c,rfl,hlc,hcl⟩,hb⟩;have HCL:=Lib.hid hcl;clear hcl
  go_wp2
  go_ret
  exact eC (by rw[HLN.out,decide_eq_false h0]) hb
def cel (l:List Nat):List Value:=l.map fun(r:Nat)=>Value.int .i32 (r:Int)
def rl (s:ByteArray):List Nat:=if vls s 0 then rns s 0 else []
def er (s:ByteArray):Int:=if vls s 0 then 0 else 4
end Go.Proofs.YtgeghilbikljcaaGreatDoor.B
namespace Go.Proofs.YtgeghilbikljcaaGreatDoor.B
open Go.Lib
def dB (y:List Nat):Prop:=y=[]\/∃u,y=10::u
theorem zS1 {f:Nat->Bool} (hf:f 10=false) {y:List Nat} (h:dB y):cnt f y=0:=by
 rcases h with rfl | ⟨u,rfl⟩
 ·rfl
 ·simp[cnt,hf]
theorem lng10:lng 10=false:=by decide
theorem inr10:inr 10=false:=by decide
theorem dig10:dig 10=false:=by decide
theorem mQ {f:Nat->Bool} (hf:f 10=false) (d:List Nat) {y:List Nat} (h:dB y):cnt f (d++y)=cnt f d:=by
 by_cases hc:cnt f d=d.length
 ·rw[zXr (oL hc) y,zS1 hf h,hc,Nat.add_zero]
 ·have:=kC f d
  exact pQ (by omega) y
theorem dW {x:List Nat} (hx:10∉x) (d:List Nat) {y:List Nat} (h:dB y):x.isPrefixOf (d++y)=x.isPrefixOf d:=by
 rcases h with rfl | ⟨u,rfl⟩
 ·rw[List.append_nil]
 ·rw[Bool.eq_iff_iff,List.isPrefixOf_iff_prefix,List.isPrefixOf_iff_prefix]
  constructor
  ·intro hp
   by_cases hl:x.length<=d.length
   ·exact List.prefix_of_prefix_length_le hp (List.prefix_append _ _) hl
   ·exfalso
    apply hx
    obtain⟨t,ht⟩:=hp;have h1:(d++10::u)[d.length]? = some 10:=by simp
    rw[<- ht,List.getElem?_append_left (by omega)] at h1;exact List.mem_of_getElem? h1
  ·intro hp
   exact hp.trans (List.prefix_append _ _)
theorem zLb:∀x∈SIGNS,10∉x:=by decide
theorem nY (d:List Nat) {y:List Nat} (h:dB y):opens (d++y)=opens d:=dW (x:=[40,42]) (by decide) d h
theorem zZs (d:List Nat) {y:List Nat} (h:dB y):signT (d++y)=signT d:=by
 unfold signT;rw[zZo fun x hx=>dW (zLb x hx) d h]
theorem zZt (d:List Nat) {y:List Nat} (h:dB y):nameT (d++y)=nameT d:=by
 unfold nameT;rw[mQ lng10 d h,fZ (kC lng d)]
theorem tM (b:Bool) (d:List Nat) {y:List Nat} (h:dB y):digT b (d++y)=digT b d:=by
 unfold digT;rw[mQ dig10 d h,fZ (kC dig d),tJ (kC dig d),mQ inr10 _ h]
theorem zZu {d:List Nat} (hd:d≠[]) {y:List Nat} (h:dB y):numT (d++y)=numT d:=by
 cases d with
 | nil=>exact absurd rfl hd
 | cons r u=>
  by_cases hr:r=126
  ·subst hr
   exact tM true u h
  ·have e1:numT ((r::u)++y)=digT false ((r::u)++y):=by
    unfold numT
    split
    ·rename_i e;injection e with e1 e2;exact absurd e1 hr
    ·rfl
   have e2:numT (r::u)=digT false (r::u):=by
    unfold numT
    split
    ·rename_i e;injection e with e1 e2;exact absurd e1 hr
    ·rfl
   rw[e1,e2,tM false _ h]
theorem zVf {d:List Nat} (hd:d≠[]) {y:List Nat} (h:dB y):tokT (d++y)=tokT d:=by
 cases d with
 | nil=>exact absurd rfl hd
 | cons r u=>
  have e1:tokT ((r::u)++y)=if cls r=1 then nameT ((r::u)++y) else if cls r=2\/r=126 then numT ((r::u)++y) else if opens ((r::u)++y) then none else signT ((r::u)++y):=rfl
  have e2:tokT (r::u)=if cls r=1 then nameT (r::u) else if cls r=2\/r=126 then numT (r::u) else if opens (r::u) then none else signT (r::u):=rfl
  rw[e1,e2,zZt _ h,zZu hd h,nY _ h,zZs _ h]
theorem gB:∀(n:Nat) (a:List Nat) (p:Nat) (x:List (Tok×Nat)) (u:List Nat),a.length<=n->lexL a p = .inl x->
  lexL (a++10::u) p=(match lexL (10::u) (p+sz a) with | .inl r=>.inl (x++r) | .inr e=>.inr e)
 | n,a,p,x,u,hn,h=>by
  have hB:dB (10::u):=.inr ⟨u,rfl⟩
  by_cases he:a.drop (btw a)=[]
  ·rw[jI he] at h
   injection h with h;subst h;have hb:btw a=a.length:=by
    have h1:=aN a;have h2:=congrArg List.length he;rw[List.length_drop,List.length_nil] at h2;omega
   rw[tI hb]
   cases lexL (10::u) (p+sz a)<;>rfl
  ·cases e:tokT (a.drop (btw a)) with
   | none=>rw[jJ he e] at h;cases h
   | some tn=>
    obtain⟨t,j⟩:=tn;have hj:=kP e;have hj2:=hj.2;simp only[List.length_drop] at hj2;rw[kD he e] at h;have hcm:cmt (a.drop (btw a)++10::u)=0:=zZp (by rw[nY _ hB];exact zV9 e);have hbk:=oM a.length a (10::u) (Nat.le_refl _) he hcm;have hbl:=aN a;have hd:(a++10::u).drop (btw (a++10::u))=a.drop (btw a)++10::u:=by rw[hbk];exact tJ hbl
    have ht:(a++10::u).take (btw (a++10::u))=a.take (btw a):=by rw[hbk];exact fZ hbl
    have e':tokT ((a++10::u).drop (btw (a++10::u)))=some (t,j):=by rw[hd,zVf he hB];exact e
    rw[kD (by rw[hd];simp) e',hd,ht,tJ hj.2,fZ hj.2]
    cases hx:lexL ((a.drop (btw a)).drop j) (p+sz (a.take (btw a))+sz ((a.drop (btw a)).take j)) with
    | inr e=>rw[hx] at h;cases h
    | inl r=>
     rw[hx] at h;simp only[Sum.inl.injEq] at h;subst h
     cases n with
     | zero=>omega
     | succ n=>
      have ih:=gB n ((a.drop (btw a)).drop j) _ r u (by simp only[List.length_drop];omega) hx;have hs:p+sz (a.take (btw a))+sz ((a.drop (btw a)).take j)+sz ((a.drop (btw a)).drop j)=p+sz a:=by
       have h1:sz (a.drop (btw a))=sz ((a.drop (btw a)).take j)+sz ((a.drop (btw a)).drop j):=by rw[<- sz_app,List.take_append_drop]
       have h2:sz a=sz (a.take (btw a))+sz (a.drop (btw a)):=by rw[<- sz_app,List.take_append_drop]
       omega
      rw[ih,hs]
      cases lexL (10::u) (p+sz a)<;>rfl
structure Txt (s:ByteArray) (L:List Nat):Prop where
 ok:okl L
 rd:∀r∈L,rdb (r:Int)=true
 txt:T L=s
 size:s.size<=16384
theorem zO6 {s:ByteArray} (h:(ckr s).2=0):∃L,Txt s L/\rns s 0=L:=by
 unfold ckr at h
 by_cases hs:16384<s.size
 ·rw[if_pos hs] at h;exact absurd h (by decide)
 ·rw[if_neg hs] at h
  rcases zMa s 0 with ⟨h1,h2,h3,h4⟩ | h1
  ·exact⟨_,⟨aL h3,h4,zT4 h3,by omega⟩,rfl⟩
  ·rw[h] at h1;exact absurd h1 (by decide)
theorem ckr_T {L:List Nat} (h:okl L) (hr:∀r∈L,rdb (r:Int)=true) (hs:sz L<=16384):ckr (T L)=(0,0):=by
 have k:=ck_T (l:=L) [] h hr;unfold ckr;rw[if_neg (by rw[qO];omega)];exact k
theorem zLc {L:List Nat} (h:okl L) (hr:∀r∈L,rdb (r:Int)=true) (hs:sz L<=16384) :
  lexR (T L)=(match lexL L 0 with | .inl l=>(l,0,0) | .inr a=>([],(a:Int),5)):=by
 unfold lexR;rw[ckr_T h hr hs,if_pos rfl,rns_T h]
 cases lexL L 0<;>rfl
theorem jU {s:ByteArray} {l:List (Tok×Nat)} {a b:Int} (h:lexR s=(l,a,b)):(b=0/\a=0/\∃L,Txt s L/\lexL L 0 = .inl l)\/(b≠0/\l=[]):=by
 unfold lexR at h
 by_cases hc:(ckr s).2=0
 ·rw[if_pos hc] at h
  obtain⟨L,hL,hr⟩:=zO6 hc;rw[hr] at h
  cases e:lexL L 0 with
  | inl r=>
   rw[e] at h;injection h with h1 h2;injection h2 with h2 h3;subst h1;exact .inl ⟨h3.symm,h2.symm,L,hL,e⟩
  | inr q=>
   rw[e] at h;injection h with h1 h2;injection h2 with h2 h3;exact .inr ⟨by rw[<- h3];decide,h1.symm⟩
 ·rw[if_neg hc] at h
  injection h with h1 h2;injection h2 with h2 h3;exact .inr ⟨by rw[<- h3];exact hc,h1.symm⟩
theorem zO7:∀(n:Nat) (l:List Nat) (a e:Nat),l.length<=n->lexL l a = .inr e->e<=a+sz l
 | n,l,a,e,hn,h=>by
  by_cases he:l.drop (btw l)=[]
  ·rw[jI he] at h;cases h
  ·have hs:sz l=sz (l.take (btw l))+sz (l.drop (btw l)):=by rw[<- sz_app,List.take_append_drop]
   cases ht:tokT (l.drop (btw l)) with
   | none=>
    rw[jJ he ht] at h;injection h with h;omega
   | some tn=>
    obtain⟨t,j⟩:=tn;have hj:=kP ht;have hj2:=hj.2;simp only[List.length_drop] at hj2;rw[kD he ht] at h
    cases hx:lexL ((l.drop (btw l)).drop j) (a+sz (l.take (btw l))+sz ((l.drop (btw l)).take j)) with
    | inl r=>rw[hx] at h;cases h
    | inr q=>
     rw[hx] at h;injection h with h;subst h
     cases n with
     | zero=>omega
     | succ n=>
      have:=zO7 n _ _ _ (by simp only[List.length_drop];omega) hx;have hs2:sz (l.drop (btw l))=sz ((l.drop (btw l)).take j)+sz ((l.drop (btw l)).drop j):=by rw[<- sz_app,List.take_append_drop]
      omega
theorem zXu:∀(n:Nat) (l:List Nat) (a:Nat) (toks:List (Tok×Nat)),l.length<=n->lexL l a = .inl toks->toks.length<=l.length
 | n,l,a,toks,hn,h=>by
  by_cases he:l.drop (btw l)=[]
  ·rw[jI he] at h
   injection h with h;subst h;exact Nat.zero_le _
  ·cases ht:tokT (l.drop (btw l)) with
   | none=>rw[jJ he ht] at h;cases h
   | some tn=>
    obtain⟨t,j⟩:=tn;have hj:=kP ht;have hj2:=hj.2;simp only[List.length_drop] at hj2;rw[kD he ht] at h
    cases hx:lexL ((l.drop (btw l)).drop j) (a+sz (l.take (btw l))+sz ((l.drop (btw l)).take j)) with
    | inr r=>rw[hx] at h;cases h
    | inl q=>
     rw[hx] at h;simp only[Sum.inl.injEq] at h;subst h
     cases n with
     | zero=>omega
     | succ n=>
      have:=zXu n _ _ _ (by simp only[List.length_drop];omega) hx;simp only[List.length_drop] at this;simp only[List.length_cons];omega
theorem tN {s:ByteArray} {L:List Nat} (hL:Txt s L) {toks:List (Tok×Nat)} (h:lexL L 0 = .inl toks):toks.length<=s.size:=by
 have h1:=zXu _ L 0 toks (Nat.le_refl _) h;have h2:=mN L;have h3:s.size=sz L:=by rw[<- hL.txt,qO]
 omega
end Go.Proofs.YtgeghilbikljcaaGreatDoor.B
