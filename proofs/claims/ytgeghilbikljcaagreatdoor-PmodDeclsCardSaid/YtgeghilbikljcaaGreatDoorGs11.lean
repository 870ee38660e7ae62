/-
  Layer 6, the program's nested: of a row of parts, each ahead of the tree of those behind it.
-/
import Derived.Test.YtgeghilbikljcaaGreatDoorGs10
set_option maxHeartbeats 40000000
set_option maxRecDepth 100000
namespace Go.Proofs.YtgeghilbikljcaaGreatDoor
open Go.RowKit Go.Shelf
attribute [local go_sem] Oper.semAt_some
def isC (w:World) (q:Nat):Prop:=∃o:Obj,w.heap[q]? = some o/\o.isCells=true
theorem zZt {w:World} {a:Addr} {v:Value} (h:w.cell? a=some v):isC w a.block:=by
 cases hb:w.heap[a.block]? with
 | none=>simp[World.cell?,hb] at h
 | some o=>
  refine⟨o,hb,?_⟩
  cases o with
  | cells c t f=>rfl
  | _=>simp[World.cell?,hb] at h
theorem InF.cells {w:World} {S:Nat->Prop}:∀{f:Fr} {b o:Nat},InF w S f b o->InF w (fun q=>S q/\isC w q) f b o
 | .nil,_,_,_=>trivial
 | .cons x ks rs,b,o,⟨⟨v,hv,q,p,A,c,e,hq,⟨xs,te,hx⟩,h0,h1,h2,h3,h4,hc,hkids⟩,hr⟩=>
  ⟨⟨v,hv,q,p,A,c,e,⟨hq,_,hx,rfl⟩,⟨xs,te,hx⟩,h0,h1,h2,h3,h4,hc,fun hn=>by
   obtain⟨kb,ko,hA,h5,h7⟩:=hkids hn;refine⟨kb,ko,hA,⟨h5,?_⟩,InF.cells h7⟩
   cases ks with
   | nil=>exact absurd hn (Nat.lt_irrefl _)
   | cons y k2 r2=>
    obtain⟨⟨u,hu,_⟩,_⟩:=h7;exact zZt (a:=⟨kb,ko,none⟩) hu⟩,InF.cells hr⟩
theorem InT.cells {w:World} {S:Nat->Prop} {v:Value} {t:Tr} (h:InT w S v t):InT w (fun q=>S q/\isC w q) v t:=by
 obtain⟨q,p,A,c,e,hq,⟨xs,te,hx⟩,h0,h1,h2,h3,h4,hc,hkids⟩:=h;refine⟨q,p,A,c,e,⟨hq,_,hx,rfl⟩,⟨xs,te,hx⟩,h0,h1,h2,h3,h4,hc,fun hn=>?_⟩;obtain⟨kb,ko,hA,h5,h7⟩:=hkids hn;refine⟨kb,ko,hA,⟨h5,?_⟩,InF.cells h7⟩;obtain⟨x,k,r,hf⟩:=Fr.cut hn;rw[hf] at h7;obtain⟨⟨u,hu,_⟩,_⟩:=h7;exact zZt (a:=⟨kb,ko,none⟩) hu
theorem Ptrs.list:∀{ps:List Value},Ptrs ps->∃qs:List (Option Addr),ps=qs.map Value.pointer
 | [],_=>⟨[],rfl⟩
 | p::ps,h=>by
  obtain⟨A,rfl⟩:=h p (List.mem_cons_self ..);obtain⟨qs,rfl⟩:=Ptrs.list (ps:=ps) fun u hu=>h u (List.mem_cons_of_mem _ hu)
  exact⟨A::qs,rfl⟩
def Sc (w:World) (Bn:Nat) (W:World) (q:Nat):Prop:=NewS w W q/\q≠Bn/\isC W q
theorem isC.keep {W W':World} {q:Nat} (h:isC W q) (hb:W'.heap[q]? = W.heap[q]?):isC W' q:=by
 obtain⟨o,ho,hc⟩:=h;exact⟨o,hb.trans ho,hc⟩
theorem zHe {w W0 W:World} {Bn:Nat} {v:Value} {t:Tr} (g:Gs (On Bn) W0 W) (h:InT W0 (Sc w Bn W0) v t):InT W (Sc w Bn W) v t:=
 InT.keep h (fun q hq=>⟨⟨hq.1.1,Nat.lt_of_lt_of_le hq.1.2 g.size⟩,hq.2.1,hq.2.2.keep (g.block q hq.1.2 hq.2.1)⟩) fun q hq=>g.block q hq.1.2 hq.2.1
def dropF:Fr->Nat->Fr
 | f,0=>f
 | .nil,_+1=>.nil
 | .cons _ _ r,n+1=>dropF r n
theorem sI:∀(f:Fr) (n:Nat),(dropF f n).len=f.len-n
 | .nil,0=>rfl
 | .cons _ _ _,0=>rfl
 | .nil,n+1=>by show 0=0-(n+1);omega
 | .cons _ _ r,n+1=>by show(dropF r n).len=r.len+1-(n+1);rw[sI r n];omega
theorem sJ:∀{f:Fr} {i:Nat} {t:Tr},f.get i=some t->dropF f i=(fr1 t).app (dropF f (i+1))
 | .nil,_,_,h=>by cases h
 | .cons x k r,0,t,h=>by
  have h:some (x,k)=some t:=h;have h:=Option.some.inj h;subst h
  show Fr.cons x k r=Fr.cons x k (Fr.app .nil (dropF r 0))
  cases r<;>rfl
 | .cons x k r,i+1,t,h=>sJ (f:=r) (i:=i) h
theorem zWe {k:Int} {f:Fr} {i:Nat} {t:Tr} (h:f.get i=some t) (hl:i+1<f.len):foldK k (dropF f i)=nd k nob (fr2 t (foldK k (dropF f (i+1)))):=by
 rw[sJ h,eH k t (by rw[sI];omega)]
theorem zWf {k:Int} {f:Fr} {i:Nat} {t:Tr} (h:f.get i=some t) (hl:i+1=f.len):foldK k (dropF f i)=t:=by
 have h0:(dropF f (i+1)).len=0:=by rw[sI];omega
 have e:dropF f (i+1) = .nil:=by
  cases hd:dropF f (i+1) with
  | nil=>rfl
  | cons _ _ _=>rw[hd] at h0;cases h0
 rw[sJ h,e,Fr.app_nil]
 rfl
theorem PtF.get {w:World} {S:Nat->Prop}:∀{vs:List Value} {f:Fr} {i:Nat} {v:Value},PtF w S vs f->vs[i]? = some v->∃t,f.get i=some t/\InT w S v t
 | [],_,_,_,_,h=>by cases h
 | _::_,.nil,_,_,h,_=>h.elim
 | v::vs,.cons x ks rs,0,u,h,hv=>⟨(x,ks),rfl,by rw[<- Option.some.inj hv];exact h.1⟩
 | _::vs,.cons _ _ rs,i+1,u,h,hv=>PtF.get (vs:=vs) (f:=rs) (i:=i) h.2 hv
def NI (w W0:World) (Bn:Nat) (kind:Int) (R:Rs Fr) (qs:List (Option Addr)) (pre:List (Nat×Option Addr)) (W:World):Prop:=
 ∃A,Boxed W Bn 24 (.pointer A)/\Gs (On Bn) W0 W/\(pre=bwd qs pre.length->pre.length<=qs.length->∀f j,R = .inl (f,j)->InT W (Sc w Bn W) (.pointer A) (foldK kind (dropF f (qs.length-pre.length))))
theorem zNr {w W0:World} {Bn:Nat} {kind:Int} {R:Rs Fr} {qs:List (Option Addr)} (hB:Bn<W0.heap.size):OwnFrom W0.heap.size (NI w W0 Bn kind R qs):=fun s X Y row ⟨A,hb,hg,ht⟩ hgr hr=>
 ⟨A,hb.kept hgr (fun e=>by have:=(hr Bn e.symm).1;omega),hg.grown hgr (fun g e=>.inr (hr g e).1),fun h1 h2 f j hf=>by
  have hk:∀q,Sc w Bn X q->Y.heap[q]? = X.heap[q]?:=fun q hq=>hgr.block q hq.1.2 fun e=>by
   obtain⟨-,o,ho,hc⟩:=hr q e.symm;obtain⟨o',ho',hc'⟩:=hq.2.2;rw[ho] at ho';have e:=Option.some.inj ho';rw[e,hc'] at hc
   cases hc
  exact InT.keep (ht h1 h2 f j hf) (fun q hq=>⟨⟨hq.1.1,Nat.lt_of_lt_of_le hq.1.2 hgr.size⟩,hq.2.1,hq.2.2.keep (hk q hq)⟩) hk⟩
theorem zDe {w:World} {S:Nat->Prop} {va vb:Value} {a b:Tr} {k:Int} (ha:InT w S va a) (hb:InT w S vb b) (hS:∀q,S q->q<w.heap.size) :
  InT ((w.alloc (.cells #[va,vb] 24)).alloc (.cells #[.int .i64 k,.int .i64 0,.string nob,.string ⟨#[]⟩,.slice (some ⟨w.heap.size,0,none⟩) 2 2] 44)) (fun q=>S q\/q=w.heap.size\/q=w.heap.size+1) (.pointer (some ⟨w.heap.size+1,0,none⟩)) (nd k nob (fr2 a b)):=by
 have e1:(w.alloc (.cells #[va,vb] 24)).heap.size=w.heap.size+1:=by simp
 obtain⟨W1,hW1⟩:∃W1,w.alloc (.cells #[va,vb] 24)=W1:=⟨_,rfl⟩;have s1:W1.heap[w.heap.size]? = some (.cells #[va,vb] 24 (0,0)):=by rw[<- hW1];exact heap_alloc_new w _
 have u1:Up w W1:=by rw[<- hW1];exact(Up.refl w).alloc _
 rw[hW1] at e1 ⊢;rw[<- e1];obtain⟨W2,hW2⟩:∃W2,W1.alloc (.cells #[.int .i64 k,.int .i64 0,.string nob,.string ⟨#[]⟩,.slice (some ⟨w.heap.size,0,none⟩) 2 2] 44)=W2:=⟨_,rfl⟩;have s2:W2.heap[W1.heap.size]? = some (.cells #[.int .i64 k,.int .i64 0,.string nob,.string ⟨#[]⟩,.slice (some ⟨w.heap.size,0,none⟩) 2 2] 44 (0,0)):=by rw[<- hW2];exact heap_alloc_new W1 _
 have u2:Up W1 W2:=by rw[<- hW2];exact(Up.refl W1).alloc _
 have s3:W2.heap[w.heap.size]? = some (.cells #[va,vb] 24 (0,0)):=u2.row s1;have kp:∀q,S q->W2.heap[q]? = w.heap[q]?:=fun q hq=>(u1.trans u2).block q (hS q hq)
 rw[hW2];exact zR (x:=⟨k,0,nob,nob⟩) (f:=fr2 a b) s2 rfl (Nat.le_refl _) (.inr (.inr rfl)) (.inr (.inl rfl)) ⟨⟨_,cell_of_row W2 w.heap.size 0 _ _ _ s3,InT.keep ha (fun _ h=>.inl h) kp⟩,⟨_,cell_of_row W2 w.heap.size 1 _ _ _ s3,InT.keep hb (fun _ h=>.inl h) kp⟩,trivial⟩
theorem zHf {w W0 W:World} {Bn:Nat} {kind:Int} {R:Rs Fr} {qs:List (Option Addr)} {pre:List (Nat×Option Addr)} {x:Nat×Option Addr} {A:Option Addr} (hz:w.heap.size<=W0.heap.size) (_hB:w.heap.size<=Bn) (bX:Boxed W Bn 24 (.pointer A)) (g:Gs (On Bn) W0 W)
  (ht:pre=bwd qs pre.length->pre.length<=qs.length->∀f j,R = .inl (f,j)->InT W (Sc w Bn W) (.pointer A) (foldK kind (dropF f (qs.length-pre.length))))
  (hget:∀f j,R = .inl (f,j)->f.len=qs.length+1/\∀(i:Nat) B,qs[i]? = some B->∃t,f.get i=some t/\InT W0 (Sc w Bn W0) (.pointer B) t) :
  NI w W0 Bn kind R qs (pre++[x]) (((W.setCell ⟨Bn,0,none⟩ (.pointer (some ⟨W.heap.size+1,0,none⟩))).alloc (.cells #[.pointer x.2,.pointer A] 24)).alloc (.cells #[.int .i64 kind,.int .i64 0,.string nob,.string ⟨#[]⟩,.slice (some ⟨W.heap.size,0,none⟩) 2 2] 44)):=by
 obtain⟨Ws,hWs⟩:∃Ws,W.setCell ⟨Bn,0,none⟩ (.pointer (some ⟨W.heap.size+1,0,none⟩))=Ws:=⟨_,rfl⟩;have zs:Ws.heap.size=W.heap.size:=by rw[<- hWs];simp[World.setCell]
 have bs:Boxed Ws Bn 24 (.pointer (some ⟨W.heap.size+1,0,none⟩)):=by rw[<- hWs];exact bX.set _
 have gs:Gs (On Bn) W0 Ws:=by rw[<- hWs];exact g.set _ _ (.inl rfl)
 have hcn:∀q,q≠Bn->Ws.heap[q]? = W.heap[q]?:=fun q hq=>by rw[<- hWs];exact Below.heap_setCell _ _ _ _ hq
 rw[hWs,<- zs];rw[<- zs] at bs;refine⟨_,(bs.alloc _).alloc _,(gs.alloc _).alloc _,fun h1 h2 f j hf=>?_⟩;obtain⟨hlen,hget⟩:=hget f j hf;have hl1:(pre++[x]).length=pre.length+1:=by simp
 rw[hl1] at h1 h2 ⊢;rw[zZs] at h1;obtain⟨h3,h4⟩:=List.append_inj' h1 rfl;have h5:x=(qs.length-1-pre.length,(qs[qs.length-1-pre.length]?).getD none):=by simpa using h4
 obtain⟨B,hBq⟩:∃B,qs[qs.length-1-pre.length]? = some B:=⟨_,List.getElem?_eq_getElem (by omega)⟩;obtain⟨t,hft,htt⟩:=hget _ B hBq;have hx:x.2=B:=by rw[h5];show(qs[qs.length-1-pre.length]?).getD none=B;rw[hBq];rfl
 have hta:=ht h3 (by omega) f j hf;have hi:qs.length-(pre.length+1)=qs.length-1-pre.length:=by omega
 have hi2:qs.length-pre.length=qs.length-1-pre.length+1:=by omega
 rw[hi,zWe hft (by omega)];rw[hi2] at hta;have kp:∀q,Sc w Bn W q->Ws.heap[q]? = W.heap[q]?:=fun q hq=>hcn q hq.2.1
 have h6:=zDe (k:=kind) (InT.keep (zHe g htt) (fun _ h=>h) kp) (InT.keep hta (fun _ h=>h) kp) (fun q hq=>by rw[zs];exact hq.1.2);rw[<- hx] at h6;have hbW:Bn<W.heap.size:=bX.lt;have hgz:=g.size;have z2:((Ws.alloc (.cells #[.pointer x.2,.pointer A] 24)).alloc (.cells #[.int .i64 kind,.int .i64 0,.string nob,.string ⟨#[]⟩,.slice (some ⟨Ws.heap.size,0,none⟩) 2 2] 44)).heap.size=Ws.heap.size+2:=by simp
 refine InT.keep h6 (fun q hq=>?_) fun q hq=>rfl
 rcases hq with hq | rfl | rfl
 ·exact⟨⟨hq.1.1,by rw[z2];have:=hq.1.2;omega⟩,hq.2.1,hq.2.2.keep ((((Up.refl Ws).alloc _).alloc _).block q (by rw[zs];exact hq.1.2) |>.trans (hcn q hq.2.1))⟩
 ·exact⟨⟨by omega,by rw[z2];omega⟩,by omega,⟨_,yZ _ (heap_alloc_new Ws _),rfl⟩⟩
 ·exact⟨⟨by omega,by rw[z2];omega⟩,by omega,⟨_,kR _ _ (by simp),rfl⟩⟩
theorem wC {b Bn:Nat} {a w w':World} (h:Gs (On b) a w) (g:Gs (On Bn) w w') (hB:a.heap.size<=Bn):Gs (On b) a w':=
 ⟨g.os.trans h.os,g.tape.trans h.tape,g.output.trans h.output,Nat.le_trans h.size g.size,fun k hk hn=>(g.block k (Nat.lt_of_lt_of_le hk h.size) (by unfold On;omega)).trans (h.block k hk hn)⟩
theorem zHg (f:Fr):dropF f 0=f:=by cases f<;>rfl
theorem zZu {w:World} {B:Nat} {e:TypeId} {g n cp k:Nat} {ps:List Value} (h:w.ownsRow B e 1 (.slice (some ⟨g,0,none⟩) n cp) k ps):k<=cp:=by
 rcases h.2 with ⟨h,-⟩ | ⟨g',cap,cur,h,-,-,hc,-⟩
 ·cases h
 ·cases h
  exact hc
theorem zZv {α:Type} (a:Array α) (x:α) (f:α->α) (i:Nat) (h:i<a.size):(a.push x).modify i f=(a.modify i f).push x:=by
 apply Array.ext
 ·simp
 ·intro j h1 h2
  simp only[Array.size_modify,Array.size_push] at h1;rw[Array.getElem_modify,Array.getElem_push,Array.getElem_push];simp only[Array.size_modify]
  by_cases hj:j<a.size
  ·rw[dif_pos hj,dif_pos hj,Array.getElem_modify]
  ·rw[dif_neg hj,dif_neg hj,if_neg (by omega)]
theorem zP (w:World) (o:Obj) (p:Addr) (v:Value) (h:p.block<w.heap.size):(w.alloc o).setCell p v=(w.setCell p v).alloc o:=by
 unfold World.setCell World.alloc;simp only;rw[zZv _ _ _ _ h]
def jv (Bk:Nat):Value:=.func (.func 182) #[] #[.pointer (some ⟨Bk,0,none⟩)]
theorem eI (kind:Int) (w:World):Calls Tryz.prog 159 #[.int .i64 kind] w fun e w'=>e = .returned (jv w.heap.size)/\w'=w.alloc (.cells #[.int .i64 kind] 3):=by
 go_enter Tryz.func159,Tryz.ntmps159
 go_wp2_with fail
 go_ret
 exact⟨rfl,rfl⟩
theorem zNs (A1 A2:Option Addr) (Bk:Nat) (kind:Int) (w:World) (ck:w.cell? ⟨Bk,0,none⟩=some (.int .i64 kind)):Calls Tryz.prog 182 #[.pointer A1,.pointer A2,.pointer (some ⟨Bk,0,none⟩)] w fun e w'=>e = .returned (.pointer (some ⟨w.heap.size+1,0,none⟩))/\
  w'=(w.alloc (.cells #[.pointer A1,.pointer A2] 24)).alloc (.cells #[.int .i64 kind,.int .i64 0,.string ⟨#[]⟩,.string ⟨#[]⟩,.slice (some ⟨w.heap.size,0,none⟩) 2 2] 44):=by
 go_enter Tryz.func182,Tryz.ntmps182
 go_wp2_with fail
 go_ret
 exact⟨rfl,rfl⟩
theorem wV (b:Nat) (v:Value) (sign:ByteArray) (kind:Int) (part:Value) (R:Rs Fr) (J:Fr->World->Prop) (w:World) (hb:b<w.heap.size) (Bk:Nat) (hk:w.heap[Bk]? = some (.cells #[.int .i64 kind] 3 (0,0))) (hkb:Bk≠b)
  (hrow:Calls Tryz.prog 179 #[.pointer (some ⟨b,0,none⟩),.string sign,part] (w.alloc (.cells #[jv Bk] 155)) (RowP (On b) b v R J (w.alloc (.cells #[jv Bk] 155)))) :
  Calls Tryz.prog 157 #[.pointer (some ⟨b,0,none⟩),.string sign,part,jv Bk] w (PaT (On b) b v (toT kind R) (fun _ _=>True) w):=by
 refine(callsIn_wide (n:=3)).1 ?_;refine callsIn_of_wp_marks Tryz.func157 rfl trivial ?_ rfl;simp only[Tryz.ntmps157,List.size_toArray,List.length_cons,List.length_nil,Nat.reduceAdd,Nat.reduceSub,Array.replicate_succ,Array.replicate_zero,List.push_toArray,List.append_toArray,List.nil_append,List.cons_append];have HROW:=Lib.hid hrow;have bK:=Boxed.new w 155 (jv Bk);have HBK:=Lib.hid bK;have HKD:=Lib.hid (((Up.refl w).alloc (.cells #[jv Bk] 155)).row hk);have hkw:=qC hk;clear hrow bK hk;have HBW:=Lib.hid hb
 gi_wp2_with (refine⟨trivial,?_⟩;gi_at_call 179;refine(callsIn_wide.2 HROW.out).mono ?_;rintro e w1 ⟨vo,ps,rfl,⟨ho,hpt⟩,hp0,hpl,g1,hR1⟩;obtain⟨g,cp,rfl,hbg,hltg⟩:=ho.form hp0;obtain⟨n,hn⟩:∃n,ps.length=n:=⟨_,rfl⟩;rw[hn] at hp0 hpl ho ⊢;obtain⟨m,hm⟩:∃m,n=m+1:=⟨n-1,by omega⟩;have hw:IntKind.i64.wrap ((n:Int)-1)=(m:Int):=(by rw[IntKind.wrap_i64];omega);have hmn:m<n:=(by omega);have hcp:n<=cp:=zZu ho;have hmc:m<=cp:=(by omega);obtain⟨qs0,hqs0⟩:=hpt.list;obtain⟨Al,hAl⟩:∃Al,qs0[m]? = some Al:=⟨_,List.getElem?_eq_getElem (by rw[hqs0,List.length_map] at hn;omega)⟩;have hcl:w1.cell? ⟨g,m,none⟩=some (.pointer Al):=(by have h1:=ho.cells (g:=g) rfl m (.pointer Al) (by rw[hqs0,List.getElem?_map,hAl];rfl);have e1:(⟨g,0,none⟩:Addr).add m=⟨g,0+m,none⟩:=(by unfold Addr.add;split<;>simp_all);rw[e1,Nat.zero_add] at h1;exact h1);have HO:=Lib.hid ho;have G1:=Lib.hid g1;have HR1:=Lib.hid hR1;have HPT:=Lib.hid hqs0;have HN:=Lib.hid hn;have HM:=Lib.hid hm;have HAL:=Lib.hid hAl;clear ho g1 hR1 hqs0 hpt hn hm hAl hbg)
 refine⟨trivial,(zHd _ _ trivial rfl _ _ _ _).mono ?_⟩;rintro e w2 ⟨rfl,rfl⟩
 gi_wp2
 obtain⟨W0,hW0⟩:∃W0,(w1.alloc (.cells #[.pointer Al] 24)).alloc (.cells #[.slice (some ⟨g,0,none⟩) m cp] 33)=W0:=⟨_,rfl⟩;have z0:W0.heap.size=w1.heap.size+2:=by rw[<- hW0];simp
 have bN:Boxed W0 w1.heap.size 24 (.pointer Al):=by rw[<- hW0];exact(Boxed.new w1 _ _).alloc _
 have bS:Boxed W0 (w1.heap.size+1) 33 (.slice (some ⟨g,0,none⟩) m cp):=by
  rw[<- hW0];have h:=Boxed.new (w1.alloc (.cells #[.pointer Al] 24)) 33 (.slice (some ⟨g,0,none⟩) m cp)
  rwa [World.size_alloc] at h
 have u0:Up w1 W0:=by rw[<- hW0];exact((Up.refl w1).alloc _).alloc _
 have g1:=G1.out;have z1:w.heap.size+1<=w1.heap.size:=by have:=g1.size;rwa [World.size_alloc] at this
 have hn0:qs0.length=n:=by have:=HN.out;rw[HPT.out,List.length_map] at this;exact this
 have hm:=HM.out;have hql:(qs0.take m).length=m:=by rw[List.length_take];omega
 have hgt:∀(i:Nat) B,(qs0.take m)[i]? = some B->qs0[i]? = some B:=fun i B h=>by
  rw[List.getElem?_take] at h
  split at h
  ·exact h
  ·cases h
 have hcs:∀j,j<(qs0.take m).length->W0.cell? ⟨g,0+j,none⟩=some (.pointer (((qs0.take m)[j]?).getD none)):=fun j hj=>by
  obtain⟨B,hB⟩:∃B,(qs0.take m)[j]? = some B:=⟨_,List.getElem?_eq_getElem hj⟩;rw[hB];have h1:=HO.out.cells (g:=g) rfl j (.pointer B) (by rw[HPT.out,List.getElem?_map,hgt j B hB];rfl);have e1:(⟨g,0,none⟩:Addr).add j=⟨g,0+j,none⟩:=by unfold Addr.add;split<;>simp_all
  rw[e1] at h1;exact u0.cell h1
 have hall:∀f j,R = .inl (f,j)->f.len=n/\∀(i:Nat) B,qs0[i]? = some B->∃t,f.get i=some t/\InT W0 (Sc w w1.heap.size W0) (.pointer B) t:=fun f j hf=>by
  have hr:=HR1.out;rw[hf] at hr;have hrt:RwT (w.alloc (.cells #[jv Bk] 155)) w1 (.slice (some ⟨g,0,none⟩) ps.length cp) ps f:=hr.1;refine⟨by rw[<- hrt.len,HN.out],fun i B hB=>?_⟩;obtain⟨t,h1,h2⟩:=PtF.get hrt (i:=i) (v:=.pointer B) (by rw[HPT.out,List.getElem?_map,hB];rfl);refine⟨t,h1,InT.keep h2.cells (fun q hq=>?_) fun q hq=>u0.block q hq.1.1.2⟩;have h3:=hq.1.1.1;have h4:=hq.1.1.2;rw[World.size_alloc] at h3;exact⟨⟨by omega,by omega⟩,by omega,hq.2.keep (u0.block q h4)⟩
 have HALL:=Lib.hid hall;have hget:∀f j,R = .inl (f,j)->f.len=(qs0.take m).length+1/\∀(i:Nat) B,(qs0.take m)[i]? = some B->∃t,f.get i=some t/\InT W0 (Sc w w1.heap.size W0) (.pointer B) t:=fun f j hf=>by
  obtain⟨h1,h2⟩:=HALL.out f j hf;exact⟨by rw[hql];omega,fun i B hB=>h2 i B (hgt i B hB)⟩
 have hni:NI w W0 w1.heap.size kind R (qs0.take m) [] W0:=⟨Al,bN,Gs.refl _ _,fun _ _ f j hf=>by
  obtain⟨h1,h2⟩:=HALL.out f j hf;obtain⟨t,h3,h4⟩:=h2 m Al HAL.out;rw[hql]
  show InT W0 _ _ (foldK kind (dropF f m))
  rw[zWf h3 (by omega)];exact h4⟩
 rw[hW0];obtain⟨qs,hqs⟩:∃qs,qs0.take m=qs:=⟨_,rfl⟩;rw[hqs] at hql hcs hget hni;have HGET:=Lib.hid hget;have HNI:=Lib.hid hni;have HU0:=Lib.hid u0;have HBS:=Lib.hid bS;have HCS:=Lib.hid hcs;have gk:W0.heap[w.heap.size]? = some (.cells #[jv Bk] 155 (0,0)):=u0.row (g1.row HBK.out (by unfold On;omega));have gk2:W0.heap[Bk]? = some (.cells #[.int .i64 kind] 3 (0,0)):=u0.row (g1.row HKD.out (by unfold On;omega));have HGK:=Lib.hid gk;have HGK2:=Lib.hid gk2;subst hql;clear hW0 bN bS u0 g1 hall hget hni hcs hgt hqs gk gk2 hn0 hm;refine wpIn_rangeFunc_ownF rfl (by decide) (gf:=209) (lb:=#[.pointer (some ⟨w1.heap.size+1,0,none⟩)]) rfl trivial (enters_of Tryz.func209 (by kernel_rfl) rfl)
  (zWd Fence.wide 2 w1.heap.size trivial rfl (by decide) (w1.heap.size+1) W0.heap.size g 0 cp (by omega) (by omega) qs (by omega) W0 (by omega) (by omega) (Nat.le_refl _) HBS.out.cell HCS.out)
  (fun h k=>Kq.trans h k) (Kq.put (Nat.le_refl _)) (Below.refl _ _) (fun _=>rfl)
  (NI w W0 w1.heap.size kind R qs) (fun _ _ _=>False) (zNr (by omega)) (fun _ _ _ _ _ hs _ _=>hs) HNI.out
  (fun x=>{tmps:=#[.pointer (some ⟨b,0,none⟩),.string sign,part,jv Bk,undef,undef,undef,.pointer (some ⟨w.heap.size,0,none⟩),.pointer none,.slice (some ⟨g,0,none⟩) n cp,.int .i64 (qs.length:Int),.pointer (some ⟨w1.heap.size,0,none⟩),undef,.pointer x.2,.pointer (some ⟨b,0,none⟩),.string sign,part,.slice (some ⟨g,0,none⟩) n cp,.slice (some ⟨g,0,none⟩) n cp,.int .i64 (n:Int),.int .i64 (qs.length:Int),.slice (some ⟨g,0,none⟩) n cp,.int .i64 (qs.length:Int),.pointer (some ⟨g,qs.length,none⟩),.pointer Al,.slice (some ⟨g,0,none⟩) n cp,.int .i64 (qs.length:Int),.slice (some ⟨g,0,none⟩) qs.length cp,.func (.func 209) #[] #[.pointer (some ⟨w1.heap.size+1,0,none⟩)],.int .i64 (x.1:Int),.pointer x.2,undef,undef,undef,undef,undef],defers:=[]}) ?assign ?body ?done ?stop
 case assign=>
  intro l x W K hK
  gi_wp2
  exact hK
 case body=>
  rintro l pre x W ⟨A,bX,gX,hX⟩ _;have ck:W.cell? ⟨Bk,0,none⟩=some (.int .i64 kind):=cell_of_row W Bk 0 _ _ _ (gX.row HGK2.out (by unfold On;omega));have cj:W.cell? ⟨w.heap.size,0,none⟩=some (.func (.func 182) #[] #[.pointer (some ⟨Bk,0,none⟩)]):=cell_of_row W w.heap.size 0 _ _ _ (gX.row HGK.out (by unfold On;omega));have cX:=bX.cell;have hbl:=bX.lt;have hzW:=gX.size;have HX:=Lib.hid hX;have GX:=Lib.hid gX;have BX:=Lib.hid bX;clear hX gX bX
  gi_wp2_with (refine⟨trivial,?_⟩;gi_at_call 182;refine(callsIn_wide.2 (zNs _ _ Bk kind _ ck)).mono ?_;rintro e w9 ⟨rfl,h9⟩;have b9:Boxed w9 w1.heap.size 24 (.pointer A):=(by rw[h9];exact(BX.out.alloc _).alloc _);have c9:=b9.cell;have f9:=b9.frozen;have hb9:=b9.lt;have H9:=Lib.hid h9;clear h9 b9)
  have h9:=H9.out;have e9:w9.setCell ⟨w1.heap.size,0,none⟩ (.pointer (some ⟨W.heap.size+1,0,none⟩))=((W.setCell ⟨w1.heap.size,0,none⟩ (.pointer (some ⟨W.heap.size+1,0,none⟩))).alloc (.cells #[.pointer x.2,.pointer A] 24)).alloc (.cells #[.int .i64 kind,.int .i64 0,.string nob,.string ⟨#[]⟩,.slice (some ⟨W.heap.size,0,none⟩) 2 2] 44):=by
   rw[h9,zP _ _ _ _ (by rw[World.size_alloc];simp only;omega),zP _ _ _ _ (by simp only;omega)]
   rfl
  rw[e9];refine⟨((KeepsOthers.setCell _ _ _).trans (KeepsOthers.alloc _ _)).trans (KeepsOthers.alloc _ _),⟨by simp[World.setCell];omega,fun q hq hne=>?_⟩,zHf (by omega) (by omega) BX.out GX.out HX.out HGET.out⟩;have hs:(W.setCell ⟨w1.heap.size,0,none⟩ (.pointer (some ⟨W.heap.size+1,0,none⟩))).heap.size=W.heap.size:=by simp[World.setCell]
  exact((((Up.refl _).alloc _).alloc _).block q (by rw[hs];omega)).trans (Below.heap_setCell _ _ _ _ hne)
 case done=>
  rintro D ys W hD rfl hI hK;have hI2:=(zNr (by omega)).putObj (.deferred none) hI hD hK rfl;have HI2:=Lib.hid hI2;have HK:=Lib.hid hK;obtain⟨A,bX,gX,hX⟩:=hI;have cX:=bX.cell;clear hX gX bX hI2
  gi_wp2
  refine⟨by simp,.inl ⟨_,_,rfl,run_takeDeferred hK,?_⟩⟩;refine⟨_,results_tmp rfl _ _ _,A,rfl,?_⟩;obtain⟨A2,b2,g2,h2⟩:=HI2.out;have hne:w1.heap.size≠D:=by omega
  have e2:A2=A:=by
   have e:=b2.cell;rw[World.cell?_of_block (a:=⟨w1.heap.size,0,none⟩) (World.putObj_heap_other hne),cX] at e;injection e with e;injection e with e;exact e.symm
  subst e2;have g1:=G1.out;have u0:=HU0.out;have hr1:=HR1.out;refine⟨wC (((Gs.of ((Up.refl w).alloc (.cells #[jv Bk] 155))).trans g1).trans (Gs.of u0)) g2 (by omega),?_⟩
  cases R with
  | inr e=>
   obtain⟨p,r⟩:=e;exact g2.row (u0.row hr1) (by unfold On;omega)
  | inl e=>
   obtain⟨f,j⟩:=e;have h3:=h2 (by rw[lM]) (by rw[lM];exact Nat.le_refl _) f j rfl;rw[lM,Nat.sub_self,zHg] at h3;exact⟨InT.keep h3 (fun q hq=>hq.1) fun _ _=>rfl,g2.row (u0.row hr1.2.1) (by unfold On;omega),trivial⟩
 case stop=>
  rintro D c pre W _ _ h _;exact h.elim
end Go.Proofs.YtgeghilbikljcaaGreatDoor
namespace Go.Proofs.YtgeghilbikljcaaGreatDoor
open Go.RowKit
def plV:Array Value:=#[.string kInt,.int .i64 1,.string kBool,.int .i64 2,.string kUnit,.int .i64 3]
def Pl (w:World):Prop:=∃t z,w.heap[4]? = some (.cells plV t z)
theorem Pl.up {w w':World} (h:Pl w) (u:Up w w'):Pl w':=by
 obtain⟨t,z,h⟩:=h;exact⟨t,z,u.row h⟩
def plS:Nat->ByteArray
 | 0=>kInt
 | 1=>kBool
 | _=>kUnit
theorem dI:∀k:Nat,k<3->∀w:World,(Instr.index 201 (.agg plV) (.int .i64 (k:Int))).run Tryz.prog w = .ok (.agg #[.string (plS k),.int .i64 ((k+1:Nat):Int)]) w
 | 0,_,_=>by kernel_rfl
 | 1,_,_=>by kernel_rfl
 | 2,_,_=>by kernel_rfl
 | k+3,h,_=>absurd h (by omega)
def nameR (o:Option ByteArray) (i:Nat) (e:Int):Rs Tr:=if e=0 then (match o with | some s=>.inl (nd 4 s .nil,i+1) | none=>.inr (i,6)) else .inr (i,e)
theorem zZw {w w3:World} {b:Nat} {v:Value} {i:Nat} {e:Int} (k:Int) (s:ByteArray) (hb:b<w.heap.size) (g:Gs (On b) w w3) (h:Psr w3 b v i e) (r:w3.heap[w.heap.size+1]? = some (.cells #[.pointer none] 24 (0,0)))
  (WF:World) (hWF:(w3.setCell ⟨w.heap.size+1,0,none⟩ (.pointer (some ⟨w3.heap.size,0,none⟩))).alloc (.cells #[.int .i64 k,.int .i64 0,.string s,.string ⟨#[]⟩,.slice none 0 0] 44)=WF) :
  WF.cell? ⟨w.heap.size+1,0,none⟩=some (.pointer (some ⟨w3.heap.size,0,none⟩))/\Gs (On b) w WF/\Psr WF b v i e/\NewT w WF (.pointer (some ⟨w3.heap.size,0,none⟩)) (nd k s .nil):=by
 obtain⟨Ws,hWs⟩:∃Ws,w3.setCell ⟨w.heap.size+1,0,none⟩ (.pointer (some ⟨w3.heap.size,0,none⟩))=Ws:=⟨_,rfl⟩;have zs:Ws.heap.size=w3.heap.size:=by rw[<- hWs];simp[World.setCell]
 have bs:Boxed Ws (w.heap.size+1) 24 (.pointer (some ⟨w3.heap.size,0,none⟩)):=by rw[<- hWs];exact Boxed.set _ r
 have gs:Gs (On b) w Ws:=by rw[<- hWs];exact g.set _ _ (.inr (by simp))
 have hs:Psr Ws b v i e:=by rw[<- hWs];exact(Below.heap_setCell _ _ _ _ (by simp only;omega)).trans h
 rw[hWs] at hWF;have uf:Up Ws WF:=by rw[<- hWF];exact(Up.refl Ws).alloc _
 have nf:WF.heap[w3.heap.size]? = some (.cells #[.int .i64 k,.int .i64 0,.string s,.string ⟨#[]⟩,.slice none 0 0] 44 (0,0)):=by rw[<- hWF,<- zs];exact heap_alloc_new Ws _
 have hg:=g.size;exact⟨uf.cell bs.cell,gs.trans (Gs.of uf),hs.up uf,kU (x:=⟨k,0,s,nob⟩) nf ⟨hg,qC nf⟩⟩
section
variable {nk lg:ByteArray->Bool}
theorem sK {V0:World} {l:List Tk} (b:Nat) (v:Value) (i:Nat) (e:Int) (w:World) (T:Toks nk lg V0 v l) (h:Psr w b v i e) (hu:Up V0 w) (hbW:V0.heap.size<=b) (hP:Pl w) (hi:i<=1000000) (hn:∀k,k<3->tkB l i e (plS k)=false) (h1:tkB l i e kOpen=false) (h2:tkB l i e kMu=false) :
  Calls Tryz.prog 181 #[.agg #[.pointer (some ⟨b,0,none⟩)]] w (PaT (On b) b v (nameR (nam lg l i) i e) (fun _ _=>True) w):=by
 have HO:=Lib.hid h1;have HM:=Lib.hid h2;clear h1 h2;obtain⟨tp,zp,hpl⟩:=hP;have hb:b<w.heap.size:=qC h;have hpw:4<w.heap.size:=qC hpl;have H:=Lib.hid h;have HPL:=Lib.hid hpl;have HU:=Lib.hid hu;have HT:=Lib.hid T;have HN:=Lib.hid hn;have hpl2:((w.alloc (.cells #[.pointer (some ⟨b,0,none⟩)] 129)).alloc (.cells #[.pointer none] 24)).heap[4]? = some (.cells plV tp zp):=(((Up.refl w).alloc _).alloc _).row hpl;clear h hpl hu T hn
 go_enter Tryz.func181,Tryz.ntmps181
 go_wp2_with (refine wpList_load_row rfl 201 (.global 4) rfl 4 rfl tp plV zp _ hpl2 Tryz.underlying201 rfl (by kernel_rfl) ?_)
 generalize hA:plV=AR
 have HAR:=Lib.hid hA;obtain⟨W0,hW0⟩:∃W0,(w.alloc (.cells #[.pointer (some ⟨b,0,none⟩)] 129)).alloc (.cells #[.pointer none] 24)=W0:=⟨_,rfl⟩;have z0:W0.heap.size=w.heap.size+2:=by rw[<- hW0];simp
 have b1:W0.heap[w.heap.size]? = some (.cells #[.pointer (some ⟨b,0,none⟩)] 129 (0,0)):=by rw[<- hW0];exact yZ _ (heap_alloc_new w _)
 have b2:W0.heap[w.heap.size+1]? = some (.cells #[.pointer none] 24 (0,0)):=by rw[<- hW0];exact kR _ _ (by simp)
 have u0:Up w W0:=by rw[<- hW0];exact((Up.refl w).alloc _).alloc _
 have B1:=Lib.hid b1;have B2:=Lib.hid b2;have UZ:=Lib.hid u0;rw[hW0];clear hA hpl2 hW0 b1 b2 u0
 go_loopw [6] (fun x wr=>∃k:Nat,k<=3/\x = .int .i64 (k:Int)/\Gs (On b) W0 wr/\Psr wr b v i e) (fun x _=>4-(intOf x).toNat)
 case atStart=>exact⟨0,Nat.zero_le _,rfl,Gs.refl _ _,H.out.up UZ.out⟩
 case round=>
  obtain⟨k,hk,rfl,hg,ps⟩:=hrel;have hgs:=hg.size;have hur:Up V0 wr:=hg.up (HU.out.trans UZ.out) (fun q hq=>by rw[hq];exact hbW);have r1:wr.heap[w.heap.size]? = some (.cells #[.pointer (some ⟨b,0,none⟩)] 129 (0,0)):=hg.row B1.out (by unfold On;omega);have r2:wr.heap[w.heap.size+1]? = some (.cells #[.pointer none] 24 (0,0)):=hg.row B2.out (by unfold On;omega);have c1:wr.cell? ⟨w.heap.size,0,none⟩=some (.pointer (some ⟨b,0,none⟩)):=cell_of_row wr w.heap.size 0 _ _ _ r1;have hbw:w.heap.size<wr.heap.size:=by omega
  by_cases hlt:k<3
  ·have hix:∀W,(Instr.index 201 (.agg AR) (.int .i64 (k:Int))).run Tryz.prog W = .ok (.agg #[.string (plS k),.int .i64 ((k+1:Nat):Int)]) W:=fun W=>by rw[<- HAR.out];exact dI k (by omega) W
   have hw:IntKind.i64.wrap ((k:Int)+1)=((k+1:Nat):Int):=by rw[IntKind.wrap_i64];omega
   have hkz:(k:Int)<3:=by omega
   obtain⟨X,hX⟩:∃X,plS k=X:=⟨_,rfl⟩;obtain⟨ka,hka⟩:∃ka,((k+1:Nat):Int)=ka:=⟨_,rfl⟩;rw[hX,hka] at hix;have HX:=Lib.hid hX;have HKA:=Lib.hid hka;rw[hka] at hw;obtain⟨Wr,hWr⟩:∃Wr,wr.alloc (.cells #[.string X,.int .i64 ka] 200)=Wr:=⟨_,rfl⟩;have ur:Up wr Wr:=by rw[<- hWr];exact(Up.refl wr).alloc _
   have cT:Calls Tryz.prog 38 #[.pointer (some ⟨b,0,none⟩),.string X] Wr (TaP b v i e (tkB l i e X) Wr):=qU b v i e X Wr HT.out (ps.up ur) (hur.trans ur) hi;rw[<- hX] at cT;rw[HN.out k (by omega),hX] at cT;have HG:=Lib.hid hg;have WRD:=Lib.hid hWr;have UR:=Lib.hid ur;clear hX hka hWr ur hg ps hur r1 r2;go_wp2_with fail;rw[WRD.out];refine cT.mono ?_;rintro en w2 ⟨rfl,g2,h2⟩;go_wp2_with fail
   go_roundw
   case rel=>exact⟨k+1,by omega,yS (by have:=HKA.out;omega),(HG.out.trans (Gs.of UR.out)).trans g2,h2⟩
   case measure=>simp[intOf];have:=HKA.out;omega
  ·obtain rfl:k=3:=by omega
   have hSee:Calls Tryz.prog 63 #[.pointer (some ⟨b,0,none⟩),.string kOpen] wr (BoU false wr):=by have h:=kW b v i e kOpen wr HT.out ps hur;rw[HO.out] at h;exact h
   have HG:=Lib.hid hg;have HPS:=Lib.hid ps;have HR1:=Lib.hid r1;have HR2:=Lib.hid r2;have HUR:=Lib.hid hur;clear hg ps r1 r2 hur;go_wp2_with fail;refine hSee.mono ?_;rintro en w1 ⟨rfl,u1⟩;have hps1:=HPS.out.up u1;have hTak:Calls Tryz.prog 38 #[.pointer (some ⟨b,0,none⟩),.string kMu] w1 (TaP b v i e false w1):=by have h:=qU b v i e kMu w1 HT.out hps1 (HUR.out.trans u1) hi;rw[HM.out] at h;exact h
   have c1b:=(show Up wr w1 from u1).cell c1;have U1:=Lib.hid u1;clear u1 hps1 hSee;go_wp2_with fail;refine hTak.mono ?_;rintro en w2 ⟨rfl,g2,h2⟩;have c1c:w2.cell? ⟨w.heap.size,0,none⟩=some (.pointer (some ⟨b,0,none⟩)):=g2.cell c1b (by unfold On;simp only;omega);have u02:Up V0 w2:=g2.up (HUR.out.trans U1.out) (fun q hq=>by rw[hq];exact hbW);have cNm:=zUt b v i e (nam lg l i) w2 (fun w' u=>HT.out.long i w' (u02.trans u)) h2 hi;have G2:=Lib.hid g2;clear g2 h2 u02 hTak c1b c1;go_wp2_with fail;refine cNm.mono ?_;rintro en w3 ⟨rfl,g3,h3⟩;have hgA:Gs (On b) w w3:=((((Gs.of UZ.out).trans HG.out).trans (Gs.of U1.out)).trans G2.out).trans g3;have r2b:w3.heap[w.heap.size+1]? = some (.cells #[.pointer none] 24 (0,0)):=((Gs.of U1.out:Gs (On b) wr w1).trans (G2.out.trans g3)).row HR2.out (by unfold On;omega);have c2:w3.cell? ⟨w.heap.size+1,0,none⟩=some (.pointer none):=cell_of_row w3 _ 0 _ _ _ r2b;have f2:=frozen_of_row w3 (w.heap.size+1) 0 _ _ r2b;have hb3:=qC r2b;have HGA:=Lib.hid hgA;have H3:=Lib.hid h3;have R2B:=Lib.hid r2b;clear hgA r2b g3 h3;go_wp2_with fail;obtain⟨WF,hWF⟩:∃WF,(w3.setCell ⟨w.heap.size+1,0,none⟩ (.pointer (some ⟨w3.heap.size,0,none⟩))).alloc (.cells #[.int .i64 4,.int .i64 0,.string (nmS (nam lg l i) e),.string ⟨#[]⟩,.slice none 0 0] 44)=WF:=⟨_,rfl⟩;obtain⟨r0,gF,pF,nF⟩:=zZw 4 _ hb HGA.out H3.out R2B.out WF hWF;rw[hWF]
   refine bodyPost_ret (v:=.pointer (some ⟨w3.heap.size,0,none⟩)) (by simp[results,Tryz.results181,go_sem,r0]) rfl ⟨_,rfl,gF,?_⟩;unfold nameR
   by_cases he:e=0
   ·subst he
    rw[if_pos rfl]
    cases ho:nam lg l i with
    | none=>rw[ho] at pF;exact pF
    | some s=>rw[ho] at pF nF;exact⟨nF,pF,trivial⟩
   ·rw[if_neg he]
    unfold nmI nmE at pF;rw[if_neg he,if_neg he] at pF;exact pF
theorem mL {V0:World} {l:List Tk} (b:Nat) (v:Value) (i:Nat) (k0:Nat) (hk0:k0<3) (w:World) (T:Toks nk lg V0 v l) (h:Psr w b v i 0) (hu:Up V0 w) (hbW:V0.heap.size<=b) (hP:Pl w) (hi:i<=1000000) (hn:∀k,k<k0->tkB l i 0 (plS k)=false) (hy:tkB l i 0 (plS k0)=true) :
  Calls Tryz.prog 181 #[.agg #[.pointer (some ⟨b,0,none⟩)]] w (PaT (On b) b v (.inl (nd ((k0+1:Nat):Int) nob .nil,i+1)) (fun _ _=>True) w):=by
 have HY:=Lib.hid hy;clear hy;obtain⟨tp,zp,hpl⟩:=hP;have hb:b<w.heap.size:=qC h;have hpw:4<w.heap.size:=qC hpl;have H:=Lib.hid h;have HPL:=Lib.hid hpl;have HU:=Lib.hid hu;have HT:=Lib.hid T;have HN:=Lib.hid hn;have hpl2:((w.alloc (.cells #[.pointer (some ⟨b,0,none⟩)] 129)).alloc (.cells #[.pointer none] 24)).heap[4]? = some (.cells plV tp zp):=(((Up.refl w).alloc _).alloc _).row hpl;clear h hpl hu T hn
 go_enter Tryz.func181,Tryz.ntmps181
 go_wp2_with (refine wpList_load_row rfl 201 (.global 4) rfl 4 rfl tp plV zp _ hpl2 Tryz.underlying201 rfl (by kernel_rfl) ?_)
 generalize hA:plV=AR
 have HAR:=Lib.hid hA;obtain⟨W0,hW0⟩:∃W0,(w.alloc (.cells #[.pointer (some ⟨b,0,none⟩)] 129)).alloc (.cells #[.pointer none] 24)=W0:=⟨_,rfl⟩;have z0:W0.heap.size=w.heap.size+2:=by rw[<- hW0];simp
 have b1:W0.heap[w.heap.size]? = some (.cells #[.pointer (some ⟨b,0,none⟩)] 129 (0,0)):=by rw[<- hW0];exact yZ _ (heap_alloc_new w _)
 have b2:W0.heap[w.heap.size+1]? = some (.cells #[.pointer none] 24 (0,0)):=by rw[<- hW0];exact kR _ _ (by simp)
 have u0:Up w W0:=by rw[<- hW0];exact((Up.refl w).alloc _).alloc _
 have B1:=Lib.hid b1;have B2:=Lib.hid b2;have UZ:=Lib.hid u0;rw[hW0];clear hA hpl2 hW0 b1 b2 u0
 go_loopw [6] (fun x wr=>∃k:Nat,k<=k0/\x = .int .i64 (k:Int)/\Gs (On b) W0 wr/\Psr wr b v i 0) (fun x _=>4-(intOf x).toNat)
 case atStart=>exact⟨0,Nat.zero_le _,rfl,Gs.refl _ _,H.out.up UZ.out⟩
 case round=>
  obtain⟨k,hk,rfl,hg,ps⟩:=hrel;have hgs:=hg.size;have hur:Up V0 wr:=hg.up (HU.out.trans UZ.out) (fun q hq=>by rw[hq];exact hbW);have r1:wr.heap[w.heap.size]? = some (.cells #[.pointer (some ⟨b,0,none⟩)] 129 (0,0)):=hg.row B1.out (by unfold On;omega);have r2:wr.heap[w.heap.size+1]? = some (.cells #[.pointer none] 24 (0,0)):=hg.row B2.out (by unfold On;omega);have c1:wr.cell? ⟨w.heap.size,0,none⟩=some (.pointer (some ⟨b,0,none⟩)):=cell_of_row wr w.heap.size 0 _ _ _ r1;have hbw:w.heap.size<wr.heap.size:=by omega
  by_cases hlt:k<k0
  ·have hix:∀W,(Instr.index 201 (.agg AR) (.int .i64 (k:Int))).run Tryz.prog W = .ok (.agg #[.string (plS k),.int .i64 ((k+1:Nat):Int)]) W:=fun W=>by rw[<- HAR.out];exact dI k (by omega) W
   have hw:IntKind.i64.wrap ((k:Int)+1)=((k+1:Nat):Int):=by rw[IntKind.wrap_i64];omega
   have hkz:(k:Int)<3:=by omega
   obtain⟨X,hX⟩:∃X,plS k=X:=⟨_,rfl⟩;obtain⟨ka,hka⟩:∃ka,((k+1:Nat):Int)=ka:=⟨_,rfl⟩;rw[hX,hka] at hix;have HX:=Lib.hid hX;have HKA:=Lib.hid hka;rw[hka] at hw;obtain⟨Wr,hWr⟩:∃Wr,wr.alloc (.cells #[.string X,.int .i64 ka] 200)=Wr:=⟨_,rfl⟩;have ur:Up wr Wr:=by rw[<- hWr];exact(Up.refl wr).alloc _
   have cT:Calls Tryz.prog 38 #[.pointer (some ⟨b,0,none⟩),.string X] Wr (TaP b v i 0 (tkB l i 0 X) Wr):=qU b v i 0 X Wr HT.out (ps.up ur) (hur.trans ur) hi;rw[<- hX] at cT;rw[HN.out k (by omega),hX] at cT;have HG:=Lib.hid hg;have WRD:=Lib.hid hWr;have UR:=Lib.hid ur;clear hX hka hWr ur hg ps hur r1 r2;go_wp2_with fail;rw[WRD.out];refine cT.mono ?_;rintro en w2 ⟨rfl,g2,h2⟩;go_wp2_with fail
   go_roundw
   case rel=>exact⟨k+1,by omega,yS (by have:=HKA.out;omega),(HG.out.trans (Gs.of UR.out)).trans g2,h2⟩
   case measure=>simp[intOf];have:=HKA.out;omega
  ·obtain rfl:k=k0:=by omega
   have hix:∀W,(Instr.index 201 (.agg AR) (.int .i64 (k:Int))).run Tryz.prog W = .ok (.agg #[.string (plS k),.int .i64 ((k+1:Nat):Int)]) W:=fun W=>by rw[<- HAR.out];exact dI k (by omega) W
   have hw:IntKind.i64.wrap ((k:Int)+1)=((k+1:Nat):Int):=by rw[IntKind.wrap_i64];omega
   have hkz:(k:Int)<3:=by omega
   obtain⟨X,hX⟩:∃X,plS k=X:=⟨_,rfl⟩;obtain⟨ka,hka⟩:∃ka,((k+1:Nat):Int)=ka:=⟨_,rfl⟩;rw[hX,hka] at hix;have HX:=Lib.hid hX;have HKA:=Lib.hid hka;rw[hka] at hw;obtain⟨Wr,hWr⟩:∃Wr,wr.alloc (.cells #[.string X,.int .i64 ka] 200)=Wr:=⟨_,rfl⟩;have ur:Up wr Wr:=by rw[<- hWr];exact(Up.refl wr).alloc _
   have cT:Calls Tryz.prog 38 #[.pointer (some ⟨b,0,none⟩),.string X] Wr (TaP b v i 0 (tkB l i 0 X) Wr):=qU b v i 0 X Wr HT.out (ps.up ur) (hur.trans ur) hi;rw[<- hX] at cT;rw[HY.out,hX] at cT;have HG:=Lib.hid hg;have HR2:=Lib.hid r2;have WRD:=Lib.hid hWr;have UR:=Lib.hid ur;clear hX hka hWr ur hg ps hur r1 r2;go_wp2_with fail;rw[WRD.out];refine cT.mono ?_;rintro en w2 ⟨rfl,g2,h2⟩;have hz:=g2.size;have hWz:Wr.heap.size=wr.heap.size+1:=by rw[<- WRD.out];simp
   have hx2:w2.heap[wr.heap.size]? = some (.cells #[.string X,.int .i64 ka] 200 (0,0)):=g2.row (by rw[<- WRD.out];exact heap_alloc_new wr _) (by unfold On;omega);have ck:w2.cell? ⟨wr.heap.size,1,none⟩=some (.int .i64 ka):=cell_of_row w2 _ 1 _ _ _ hx2;have r2b:w2.heap[w.heap.size+1]? = some (.cells #[.pointer none] 24 (0,0)):=g2.row (UR.out.row HR2.out) (by unfold On;omega);have c2:w2.cell? ⟨w.heap.size+1,0,none⟩=some (.pointer none):=cell_of_row w2 _ 0 _ _ _ r2b;have f2:=frozen_of_row w2 (w.heap.size+1) 0 _ _ r2b;have hb3:=qC r2b;have hgA:Gs (On b) w w2:=(((Gs.of UZ.out).trans HG.out).trans (Gs.of UR.out)).trans g2;have HGA:=Lib.hid hgA;have H3:=Lib.hid h2;have R2B:=Lib.hid r2b;clear hgA r2b g2 h2 hx2 c1;go_wp2_with fail;obtain⟨WF,hWF⟩:∃WF,(w2.setCell ⟨w.heap.size+1,0,none⟩ (.pointer (some ⟨w2.heap.size,0,none⟩))).alloc (.cells #[.int .i64 ka,.int .i64 0,.string ⟨#[]⟩,.string ⟨#[]⟩,.slice none 0 0] 44)=WF:=⟨_,rfl⟩;obtain⟨r0,gF,pF,nF⟩:=zZw ka ⟨#[]⟩ hb HGA.out H3.out R2B.out WF hWF;rw[hWF];refine bodyPost_ret (v:=.pointer (some ⟨w2.heap.size,0,none⟩)) (by simp[results,Tryz.results181,go_sem,r0]) rfl ⟨_,rfl,gF,?_⟩;rw[HKA.out];exact⟨nF,pF,trivial⟩
end
def rI {α:Type}:Rs α->Nat
 | .inl (_,j)=>j
 | .inr (p,_)=>p
def rE {α:Type}:Rs α->Int
 | .inl _=>0
 | .inr (_,r)=>r
def Two (a b:Nat) (q:Nat):Prop:=q=a\/q=b
theorem Gs.two {b c:Nat} {w w':World} (h:Gs (On b) w w'):Gs (Two b c) w w':=h.wide fun _ _ hq=>.inl hq
theorem Gs.out2 {b c:Nat} {a w w':World} (h:Gs (On b) a w) (g:Gs (Two b c) w w') (hc:a.heap.size<=c):Gs (On b) a w':=
 ⟨g.os.trans h.os,g.tape.trans h.tape,g.output.trans h.output,Nat.le_trans h.size g.size,fun k hk hn=>(g.block k (Nat.lt_of_lt_of_le hk h.size) (by intro hq;rcases hq with hq | hq;exact hn hq;omega)).trans (h.block k hk hn)⟩
def P1 (wb:World) (B2:Nat) (R:Rs Tr) (w:World):Prop:=∃A,Boxed w B2 24 (.pointer A)/\∀t j,R = .inl (t,j)->InT w (fun q=>NewS wb w q/\q≠B2) (.pointer A) t
theorem zNt (wb:World) (b:Nat) (v:Value) (B1 B2:Nat) (A0:Option Addr) (R:Rs Tr) (w:World) (hz:wb.heap.size<=w.heap.size) (hbw:b≠B2) (hB2:B2<w.heap.size) (c1:w.cell? ⟨B1,0,none⟩=some (.pointer (some ⟨b,0,none⟩))) (b2:Boxed w B2 24 (.pointer A0))
  (cA:Calls Tryz.prog 124 #[.agg #[.pointer (some ⟨b,0,none⟩)]] w (PaT (On b) b v R (fun _ _=>True) w)) :
  Calls Tryz.prog 210 #[.pointer (some ⟨B1,0,none⟩),.pointer (some ⟨B2,0,none⟩)] w (InL (Two b B2) b v (rI R) (rE R) (P1 wb B2 R) w):=by
 have HB:=Lib.hid b2;clear b2
 go_enter Tryz.func210,Tryz.ntmps210
 go_wp2_with fail;refine cA.mono ?_;rintro en w1 ⟨A,rfl,g1,hR⟩;have b3:Boxed w1 B2 24 (.pointer A0):=g1.row HB.out (by unfold On;omega);have c3:=b3.cell;have f3:=b3.frozen;have hb3:=b3.lt;have B3:=Lib.hid b3;have G1:=Lib.hid g1;have HR:=Lib.hid hR;have hz1:=g1.size;clear b3 g1 hR cA;go_wp2_with fail;go_end0;have hne:∀q,q≠B2->(w1.setCell ⟨B2,0,none⟩ (.pointer A)).heap[q]? = w1.heap[q]?:=fun q hq=>Below.heap_setCell _ _ _ _ hq
 refine⟨⟨_,rfl⟩,(G1.out.two).set _ _ (.inl (.inr rfl)),?_,A,B3.out.set _,fun t j hR=>?_⟩
 ·have h:=HR.out
  cases R with
  | inl e=>exact(hne b hbw).trans h.2.1
  | inr e=>exact(hne b hbw).trans h
 ·have h:=HR.out
  rw[hR] at h;have hs:(w1.setCell ⟨B2,0,none⟩ (.pointer A)).heap.size=w1.heap.size:=by simp[World.setCell]
  exact InT.keep h.1 (fun q hq=>⟨⟨by have:=hq.1;omega,by rw[hs];exact hq.2⟩,by have:=hq.1;omega⟩) fun q hq=>hne q (by have:=hq.1;omega)
section
variable {nk lg:ByteArray->Bool}
def parR (l:List Tk) (R:Rs Tr):Rs Tr:=match R with
 | .inr e=>.inr e
 | .inl (t,j)=>if key l j kShut then .inl (t,j+1) else .inr (j,6)
theorem zV {l:List Tk} {i:Nat} {e:Int} {x:ByteArray} (h:¬e=0):tkB l i e x=false:=by unfold tkB;rw[decide_eq_false h,Bool.false_and]
theorem qV {l:List Tk} {i:Nat} {x:ByteArray}:tkB l i 0 x=key l i x:=by unfold tkB;rw[decide_eq_true rfl,Bool.true_and]
theorem dJ {e:Int} (h:¬e=0):neE e false=e:=if_neg h
theorem zWg {V0:World} {l:List Tk} (b:Nat) (v:Value) (i:Nat) (R:Rs Tr) (hR:LeOk l.length R) (hl:l.length<=100000) (w:World) (T:Toks nk lg V0 v l) (h:Psr w b v i 0) (hu:Up V0 w) (hbW:V0.heap.size<=b) (hP:Pl w) (hi:i<=1000000) (hn:∀k,k<3->tkB l i 0 (plS k)=false) (hy:tkB l i 0 kOpen=true)
  (cA:∀w',Gs (On b) w w'->Psr w' b v (i+1) 0->Calls Tryz.prog 124 #[.agg #[.pointer (some ⟨b,0,none⟩)]] w' (PaT (On b) b v R (fun _ _=>True) w')) :
  Calls Tryz.prog 181 #[.agg #[.pointer (some ⟨b,0,none⟩)]] w (PaT (On b) b v (parR l R) (fun _ _=>True) w):=by
 have HY:=Lib.hid hy;have HCA:=Lib.hid cA;have HLE:=Lib.hid hR;clear hy cA hR;obtain⟨tp,zp,hpl⟩:=hP;have hb:b<w.heap.size:=qC h;have hpw:4<w.heap.size:=qC hpl;have H:=Lib.hid h;have HPL:=Lib.hid hpl;have HU:=Lib.hid hu;have HT:=Lib.hid T;have HN:=Lib.hid hn;have hpl2:((w.alloc (.cells #[.pointer (some ⟨b,0,none⟩)] 129)).alloc (.cells #[.pointer none] 24)).heap[4]? = some (.cells plV tp zp):=(((Up.refl w).alloc _).alloc _).row hpl;clear h hpl hu T hn
 go_enter Tryz.func181,Tryz.ntmps181
 go_wp2_with (refine wpList_load_row rfl 201 (.global 4) rfl 4 rfl tp plV zp _ hpl2 Tryz.underlying201 rfl (by kernel_rfl) ?_)
 generalize hA:plV=AR
 have HAR:=Lib.hid hA;obtain⟨W0,hW0⟩:∃W0,(w.alloc (.cells #[.pointer (some ⟨b,0,none⟩)] 129)).alloc (.cells #[.pointer none] 24)=W0:=⟨_,rfl⟩;have z0:W0.heap.size=w.heap.size+2:=by rw[<- hW0];simp
 have b1:W0.heap[w.heap.size]? = some (.cells #[.pointer (some ⟨b,0,none⟩)] 129 (0,0)):=by rw[<- hW0];exact yZ _ (heap_alloc_new w _)
 have b2:W0.heap[w.heap.size+1]? = some (.cells #[.pointer none] 24 (0,0)):=by rw[<- hW0];exact kR _ _ (by simp)
 have u0:Up w W0:=by rw[<- hW0];exact((Up.refl w).alloc _).alloc _
 have B1:=Lib.hid b1;have B2:=Lib.hid b2;have UZ:=Lib.hid u0;rw[hW0];clear hA hpl2 hW0 b1 b2 u0
 go_loopw [6] (fun x wr=>∃k:Nat,k<=3/\x = .int .i64 (k:Int)/\Gs (On b) W0 wr/\Psr wr b v i 0) (fun x _=>4-(intOf x).toNat)
 case atStart=>exact⟨0,Nat.zero_le _,rfl,Gs.refl _ _,H.out.up UZ.out⟩
 case round=>
  obtain⟨k,hk,rfl,hg,ps⟩:=hrel;have hgs:=hg.size;have hur:Up V0 wr:=hg.up (HU.out.trans UZ.out) (fun q hq=>by rw[hq];exact hbW);have r1:wr.heap[w.heap.size]? = some (.cells #[.pointer (some ⟨b,0,none⟩)] 129 (0,0)):=hg.row B1.out (by unfold On;omega);have r2:wr.heap[w.heap.size+1]? = some (.cells #[.pointer none] 24 (0,0)):=hg.row B2.out (by unfold On;omega);have c1:wr.cell? ⟨w.heap.size,0,none⟩=some (.pointer (some ⟨b,0,none⟩)):=cell_of_row wr w.heap.size 0 _ _ _ r1;have hbw:w.heap.size<wr.heap.size:=by omega
  by_cases hlt:k<3
  ·have hix:∀W,(Instr.index 201 (.agg AR) (.int .i64 (k:Int))).run Tryz.prog W = .ok (.agg #[.string (plS k),.int .i64 ((k+1:Nat):Int)]) W:=fun W=>by rw[<- HAR.out];exact dI k (by omega) W
   have hw:IntKind.i64.wrap ((k:Int)+1)=((k+1:Nat):Int):=by rw[IntKind.wrap_i64];omega
   have hkz:(k:Int)<3:=by omega
   obtain⟨X,hX⟩:∃X,plS k=X:=⟨_,rfl⟩;obtain⟨ka,hka⟩:∃ka,((k+1:Nat):Int)=ka:=⟨_,rfl⟩;rw[hX,hka] at hix;have HX:=Lib.hid hX;have HKA:=Lib.hid hka;rw[hka] at hw;obtain⟨Wr,hWr⟩:∃Wr,wr.alloc (.cells #[.string X,.int .i64 ka] 200)=Wr:=⟨_,rfl⟩;have ur:Up wr Wr:=by rw[<- hWr];exact(Up.refl wr).alloc _
   have cT:Calls Tryz.prog 38 #[.pointer (some ⟨b,0,none⟩),.string X] Wr (TaP b v i 0 (tkB l i 0 X) Wr):=qU b v i 0 X Wr HT.out (ps.up ur) (hur.trans ur) hi;rw[<- hX] at cT;rw[HN.out k (by omega),hX] at cT;have HG:=Lib.hid hg;have WRD:=Lib.hid hWr;have UR:=Lib.hid ur;clear hX hka hWr ur hg ps hur r1 r2;go_wp2_with fail;rw[WRD.out];refine cT.mono ?_;rintro en w2 ⟨rfl,g2,h2⟩;go_wp2_with fail
   go_roundw
   case rel=>exact⟨k+1,by omega,yS (by have:=HKA.out;omega),(HG.out.trans (Gs.of UR.out)).trans g2,h2⟩
   case measure=>simp[intOf];have:=HKA.out;omega
  ·obtain rfl:k=3:=by omega
   have hSee:Calls Tryz.prog 63 #[.pointer (some ⟨b,0,none⟩),.string kOpen] wr (BoU true wr):=by have h:=kW b v i 0 kOpen wr HT.out ps hur;rw[HY.out] at h;exact h
   have HG:=Lib.hid hg;have HPS:=Lib.hid ps;have HR1:=Lib.hid r1;have HR2:=Lib.hid r2;have HUR:=Lib.hid hur;clear hg ps r1 r2 hur;go_wp2_with fail;refine hSee.mono ?_;rintro en w1 ⟨rfl,u1⟩;have c1b:=(show Up wr w1 from u1).cell c1;have hz1:wr.heap.size<=w1.heap.size:=(show Up wr w1 from u1).size;have hgA:Gs (On b) w w1:=((Gs.of UZ.out).trans HG.out).trans (Gs.of u1);have HB2:Hid (Boxed w1 (w.heap.size+1) 24 (.pointer none)):=Lib.hid (Up.row u1 HR2.out);have HB1:Hid (w1.heap[w.heap.size]? = some (.cells #[.pointer (some ⟨b,0,none⟩)] 129 (0,0))):=Lib.hid (Up.row u1 HR1.out);have cB:=yB b v i 0 kOpen kShut 210 #[.pointer (some ⟨w.heap.size,0,none⟩),.pointer (some ⟨w.heap.size+1,0,none⟩)] (fun _ _=>by kernel_rfl) (Two b (w.heap.size+1)) (fun q hq=>by have:=HU.out.size;rcases hq with hq | hq<;>omega) hbW (rI R) (rE R) (P1 w (w.heap.size+1) R) w1
    HT.out (HPS.out.up u1) (HUR.out.trans u1) hi (by have h:=HLE.out.1;cases R<;>(simp only[rI];simp only[pl] at h;omega)) (fun w2 g2 h2=>by
     rw[HY.out] at h2;exact zNt w b v w.heap.size (w.heap.size+1) none R w2 (by have:=g2.size;omega) (by omega) (by have:=g2.size;omega) (cell_of_row w2 _ 0 _ _ _ (g2.row HB1.out (by unfold On;omega))) (g2.row HB2.out (by unfold On;omega)) (HCA.out w2 (hgA.trans g2) h2))
   have HGA:=Lib.hid hgA;clear hgA u1 hSee c1;go_wp2_with fail;refine cB.mono ?_;rintro en w4 ⟨⟨u,rfl⟩,w2,w3,g2,g3,⟨A,b3,hT⟩,g4,h4⟩;have b4:Boxed w4 (w.heap.size+1) 24 (.pointer A):=g4.row b3 (by unfold On;omega);have c4:=b4.cell;have f4:=b4.frozen;have hb4:=b4.lt;have hgF:Gs (On b) w w4:=((HGA.out.trans g2).out2 g3 (by omega)).trans g4;have HGF:=Lib.hid hgF;have HTT:Hid (∀t j,R = .inl (t,j)->InT w4 (fun q=>NewS w w4 q/\q≠w.heap.size+1) (.pointer A) t):=Lib.hid fun t j hR=>InT.keep (hT t j hR) (fun q hq=>⟨⟨hq.1.1,Nat.lt_of_lt_of_le hq.1.2 g4.size⟩,hq.2⟩) fun q hq=>g4.block q hq.1.2 (by have:=hq.1.1;unfold On;omega)
   have H4:=Lib.hid h4;have B4:=Lib.hid b4;clear cB b4 hgF h4 g2 g3 g4 b3 hT;go_wp2_with fail;obtain⟨WF,hWF⟩:∃WF,w4.setCell ⟨w.heap.size+1,0,none⟩ (.pointer A)=WF:=⟨_,rfl⟩;have bF:Boxed WF (w.heap.size+1) 24 (.pointer A):=by rw[<- hWF];exact B4.out.set _
   have r0:=bF.cell;have hs:WF.heap.size=w4.heap.size:=by rw[<- hWF];simp[World.setCell]
   have hne:∀q,q≠w.heap.size+1->WF.heap[q]? = w4.heap[q]?:=fun q hq=>by rw[<- hWF];exact Below.heap_setCell _ _ _ _ hq
   have gF:Gs (On b) w WF:=by rw[<- hWF];exact HGF.out.set _ _ (.inr (by simp))
   have pF:Psr WF b v (neI (rI R) (tkB l (rI R) (rE R) kShut)) (neE (rE R) (tkB l (rI R) (rE R) kShut)):=(hne b (by omega)).trans H4.out;have hle:=HLE.out;rw[hWF];refine bodyPost_ret (v:=.pointer A) (by simp[results,Tryz.results181,go_sem,r0]) rfl ⟨_,rfl,gF,?_⟩
   cases R with
   | inr e=>
    obtain⟨p,r⟩:=e;have hr:¬r=0:=hle.2 p r rfl;simp only[rI,rE] at pF;rw[zV hr,dJ hr] at pF;exact pF
   | inl e=>
    obtain⟨t,j⟩:=e;simp only[rI,rE] at pF;rw[qV] at pF;unfold parR;simp only
    cases hk:key l j kShut with
    | false=>rw[hk] at pF;exact pF
    | true=>
     rw[hk] at pF;exact⟨InT.keep (HTT.out t j rfl) (fun q hq=>⟨hq.1.1,by rw[hs];exact hq.1.2⟩) (fun q hq=>hne q hq.2),pF,trivial⟩
end
end Go.Proofs.YtgeghilbikljcaaGreatDoor
