/-
  Layer 8, the document's side: part.
-/
import Derived.Test.YtgeghilbikljcaaGreatDoorGs36
set_option maxHeartbeats 40000000
set_option maxRecDepth 100000
namespace Go.Proofs.YtgeghilbikljcaaGreatDoor
open Go.RowKit
theorem kC {a b:Int} (h:a=b):Value.int .i64 a = .int .i64 b:=by rw[h]
theorem zQk {nk lg:ByteArray->Bool} {l:List Te} {i j:Nat} {f:Fr} (hi:i<=l.length) (h:consL nk lg (tks l) i .nil = .inl (f,j)):f.len<=l.length:=by
 obtain⟨-,k2,-⟩:=(nL (nk:=nk) (lg:=lg) (tks l) _).2.2.2 i .nil ConOk.nil f j h;have h3:=pA (nk:=nk) (lg:=lg) hi .nil;rw[h] at h3;have h3:i<j/\j<=l.length:=h3;have h4:=Fr.len_le f;have h5:Fr.nil.sz=0:=rfl;omega
def bd8:Nat->Nat
 | 0=>10
 | k+1=>bd8 k+1000001
theorem tB (k:Nat):bd8 k<=bd8 (k+1):=Nat.le_add_right _ _
theorem zKv:∀k,10<=bd8 k
 | 0=>Nat.le_refl _
 | k+1=>Nat.le_trans (zKv k) (tB k)
theorem zKw (k:Nat):bd8 (k+1)=bd8 k+1000001:=rfl
theorem zVg:∀k,bd8 k<=10+1000001*k
 | 0=>Nat.le_refl _
 | k+1=>by have:=zVg k;rw[zKw];omega
def PrV (W w':World) (Bn:Nat) (x:Nod) (R:Rs Pa) (j e:Int):Prop:=match R with
 | .inl (p,q)=>j=(q:Int)/\e=0/\∃vo ps,NdM W w' Bn ⟨x.k,x.n,p.nm,p.mrk⟩ vo ps/\KdM W w' Bn vo ps p.ks
 | .inr (q,r)=>j=(q:Int)/\e=r
def PrP (W:World) (Bn:Nat) (x:Nod) (R:Rs Pa) (w:World) (en:Ending) (w':World):Prop:=∃j e,en = .returned (.tuple #[.int .i64 j,.int .i64 e])/\PrV W w' Bn x R j e/\Gs (FromW W) w w'
theorem Gs.fromUp {V W w w':World} (u:Up V w) (g:Gs (FromW W) w w') (h:V.heap.size<=W.heap.size):Up V w':=g.up u fun k hk=>by unfold FromW at hk;omega
theorem zFh (l:List Te) (O:UInt8->Nat->Rs Tr) (hO:OneIn l O) (V:World) (v:Value) (hv:Tke V v l) (hl:l.length<=1000000) (hz:∀t∈l,t.t.s.size<=1000000000) (i1:Nat) (hi:i1<=l.length)
  (cO:∀c,c=116\/c=101\/c=109\/c=115->∀(j:Nat) (W:World),i1<=j->j<=l.length->Up V W->Calls Tryz.prog 82 #[v,.int .i64 (j:Int),.int .u8 (c.toNat:Int)] W (qJ (O c j) W))
  (sh:List UInt8) (hsh:∀c∈sh,c∈zFe) (hlen:sh.length<=10) (W w:World) (hVW:V.heap.size<=W.heap.size) (hu:Up V w) (hWw:W.heap.size<=w.heap.size) (Bn:Nat) (x:Nod) (vo:Value) (ps:List Value) (f0:Fr) (hf0:f0.len<=10) (hn:NdM W w Bn x vo ps) (hk:KdM W w Bn vo ps f0) :
  Calls Tryz.prog 50 #[v,.int .i64 (i1:Int),.pointer (some ⟨Bn,0,none⟩),.string ⟨sh.toArray⟩] w (PrP W Bn x (partS B.nck B.long l O sh i1 ⟨x.a,x.m,f0⟩) w):=by
 have hz':∀t∈tks l,t.s.size<=1000000000:=fun t ht=>by
  obtain⟨u,hu,rfl⟩:=List.mem_map.1 ht;exact hz u hu
 have CN:Hid (∀(j:Nat) (W:World),Up V W->Calls Tryz.prog 71 #[v,.int .i64 (j:Int)] W (NaP (nam B.nck (tks l) j) W)):=Lib.hid fun j W u=>by
  have c:=vF (tks l) (j:Int) W v (hv.up u).tkm hz';rw[show namZ B.nck (tks l) (j:Int)=nam B.nck (tks l) j by unfold namZ;rw[if_pos (by omega),Int.toNat_natCast]] at c;exact c
 have CL:Hid (∀(j:Nat) (W:World),Up V W->Calls Tryz.prog 72 #[v,.int .i64 (j:Int)] W (NaP (nam B.long (tks l) j) W)):=Lib.hid fun j W u=>by
  have c:=pO (tks l) (j:Int) W v (hv.up u).tkm hz';rw[show namZ B.long (tks l) (j:Int)=nam B.long (tks l) j by unfold namZ;rw[if_pos (by omega),Int.toNat_natCast]] at c;exact c
 have CC:Hid (∀(j:Nat) (W:World),j<=l.length->Up V W->Calls Tryz.prog 81 #[v,.int .i64 (j:Int)] W (fR (consL B.nck B.long (tks l) j .nil) W)):=Lib.hid fun j W hj u=>by
  have c:=zGz (tks l) (j:Int) (by rw[qY];exact hl) hz' W v (hv.up u).tkm;rw[show consZ B.nck B.long (tks l) (j:Int)=consL B.nck B.long (tks l) j .nil by unfold consZ;rw[if_neg (by rw[qY];omega),Int.toNat_natCast]] at c;exact c
 have CK:Hid (∀(j:Nat) (y:ByteArray) (W:World),Up V W->Calls Tryz.prog 41 #[v,.int .i64 (j:Int),.string y] W (BoU (key (tks l) j y) W)):=Lib.hid fun j y W u=>by
  rw[<- yN];exact kZ (tks l) j y W v (hv.up u).tkm
 have CO:=Lib.hid cO;have HO:=Lib.hid hO;have HSH:=Lib.hid hsh;obtain⟨N,hN⟩:∃N,sh.length=N:=⟨_,rfl⟩;have HN:=Lib.hid hN;have hsz:(⟨sh.toArray⟩:ByteArray).size=N:=by rw[<- hN];show sh.toArray.size=_;simp
 have HS:=Lib.hid hsz;obtain⟨s,hs⟩:∃s:ByteArray,(⟨sh.toArray⟩:ByteArray)=s:=⟨_,rfl⟩;have HSS:=Lib.hid hs;obtain⟨R,hR⟩:∃R,partS B.nck B.long l O sh i1 ⟨x.a,x.m,f0⟩=R:=⟨_,rfl⟩;have HR:=Lib.hid hR;have HU:=Lib.hid hu;have HVW:=Lib.hid hVW;have HND:=Lib.hid hn;have HKD:=Lib.hid hk;have HF0:=Lib.hid hf0;rw[hR,hs];rw[hs] at hsz;rw[hN] at hlen;obtain⟨i0,hi0,hz0,hz1,hz2⟩:=info_parts xK;clear cO hO hsh hN hs hR hz hz' hu hVW hn hk hf0 hv
 go_enter Tryz.func50,Tryz.ntmps50
 go_wp2_with fail
 go_loopw [1,10,11,12,13,14,15,16,17,18,19,20,21] (fun iv kv _ _ _ _ _ _ _ _ _ _ _ wr=>∃(k j:Nat) (a:Pa) (vo:Value) (ps:List Value),iv = .int .i64 (j:Int)/\kv = .int .i64 (k:Int)/\k<=N/\i1<=j/\j<=l.length/\R=partS B.nck B.long l O (sh.drop k) j a/\a.ks.len<=bd8 k/\NdM W wr Bn ⟨x.k,x.n,a.nm,a.mrk⟩ vo ps/\KdM W wr Bn vo ps a.ks/\Gs (FromW W) w wr) (fun _ kv _ _ _ _ _ _ _ _ _ _ _ _=>N+1-(intOf kv).toNat)
 case atStart=>exact⟨0,i1,⟨x.a,x.m,f0⟩,vo,ps,rfl,rfl,Nat.zero_le _,Nat.le_refl _,hi,HR.out.symm,Nat.le_trans HF0.out (zKv 0),HND.out,HKD.out,Gs.refl _ _⟩
 case round=>
  obtain⟨k,j,a,vo,ps,rfl,rfl,hk,hij,hj,hRk,hal,hnd,hkd,hg⟩:=hrel;have huw:Up V wr:=Gs.fromUp HU.out hg HVW.out
  by_cases hlt:k<N
  ·obtain⟨c,hc⟩:∃c,sh[k]? = some c:=⟨_,List.getElem?_eq_getElem (by rw[HN.out];exact hlt)⟩
   have hcm:=HSH.out c (List.mem_of_getElem? hc);have hkz:(k:Int)<(N:Int):=by omega
   have hks:k<s.size:=by rw[hsz];exact hlt
   have hval:s[k]'hks=c:=by
    have h1:=(List.getElem?_eq_some_iff.1 hc).2;have h2:=HSS.out;subst h2;exact h1
   have hd:sh.drop k=c::sh.drop (k+1):=by
    obtain⟨h1,h2⟩:=List.getElem?_eq_some_iff.1 hc;rw[List.drop_eq_getElem_cons h1,h2]
   rw[hd,gR] at hRk;have hidx:∀W,(Instr.index 9 (.string s) (.int .i64 (k:Int))).run Tryz.prog W = .ok (.int .u8 (c.toNat:Int)) W:=fun W=>by
    rw[run_index_string W 9 s .i64 (k:Int) Tryz.underlying9,dif_pos ⟨by omega,by omega⟩];rw[<- hval]
    rfl
   have hwk:IntKind.i64.wrap ((k:Int)+1)=((k+1:Nat):Int):=by rw[IntKind.wrap_i64]<;>omega
   have hwj:IntKind.i64.wrap ((j:Int)+1)=((j+1:Nat):Int):=by rw[IntKind.wrap_i64]<;>omega
   have HRK:=Lib.hid hRk;have HND:=Lib.hid hnd;have HKD:=Lib.hid hkd;have HG:=Lib.hid hg;have HUW:=Lib.hid huw;have HAL:=Lib.hid hal;clear hRk hnd hkd hg huw hal hc hd;have hcs:(c=110\/c=78)\/(c=108\/c=76)\/c=99\/(c=116\/c=101\/c=109\/c=115)\/(c=61\/c=58\/c=40\/c=41\/c=84):=by
    simp only[zFe,List.mem_cons,List.mem_nil_iff,or_false] at hcm
    rcases hcm with h | h | h | h | h | h | h | h | h | h | h | h | h | h<;>simp[h]
   clear hcm
   rcases hcs with h | h | h | h | h
   ·have cN:=CN.out j wr HUW.out
    cases hnm:nam B.nck (tks l) j with
    | none=>
     rw[hnm] at cN;have HRE:Hid (R = .inr (j,6)):=Lib.hid (by
      rw[HRK.out]
      rcases h with rfl | rfl
      ·rw[oY];unfold nameQ;rw[hnm];rfl
      ·rw[zWn];unfold nameQ;rw[hnm];rfl)
     clear hnm HRK
     rcases h with rfl | rfl
     all_goals
      go_wp2_with fail;refine cN.mono ?_;rintro en w1 ⟨rfl,u1⟩;go_wp2_with fail
      go_ret2
      exact⟨_,_,rfl,by rw[HRE.out];exact⟨rfl,rfl⟩,HG.out.trans (Gs.of u1)⟩
    | some nm=>
     rw[hnm] at cN;have hj1:j+1<=l.length:=nW hnm;have HRE:∀a',(c=110->a'=⟨nm,a.mrk,a.ks⟩)->(c=78->a'=⟨a.nm,nm,a.ks⟩)->R=partS B.nck B.long l O (sh.drop (k+1)) (j+1) a':=fun a' e1 e2=>by
      rw[HRK.out]
      rcases h with h | h
      ·rw[e1 h];subst h;rw[oY];unfold nameQ;rw[hnm];rfl
      ·rw[e2 h];subst h;rw[zWn];unfold nameQ;rw[hnm];rfl
     have HRE:=Lib.hid HRE;clear hnm HRK
     rcases h with rfl | rfl
     ·go_wp2_with fail
      refine cN.mono ?_;rintro en w1 ⟨rfl,u1⟩;have nd:=HND.out.up u1;have kd:=HKD.out.up u1;have c2:=cell_of_row w1 Bn 2 _ _ _ nd.node;have f2:=frozen_of_row w1 Bn 2 _ _ nd.node;have hb2:=qC nd.node;have ND:=Lib.hid (nd.name nm);have KD:=Lib.hid (kd.set 2 (.string nm));have G1:=Lib.hid ((HG.out.trans (Gs.of u1)).set ⟨Bn,2,none⟩ (.string nm) (.inl nd.hB));clear nd kd u1 cN;go_wp2_with fail
      go_roundw
      case rel=>exact⟨k+1,j+1,⟨nm,a.mrk,a.ks⟩,vo,ps,kC (by omega),kC (by omega),by omega,by omega,hj1,HRE.out _ (fun _=>rfl) (fun h=>absurd h (by decide)),Nat.le_trans HAL.out (tB k),ND.out,KD.out,G1.out⟩
      case measure=>simp[intOf];omega
     ·go_wp2_with fail
      refine cN.mono ?_;rintro en w1 ⟨rfl,u1⟩;have nd:=HND.out.up u1;have kd:=HKD.out.up u1;have c2:=cell_of_row w1 Bn 3 _ _ _ nd.node;have f2:=frozen_of_row w1 Bn 3 _ _ nd.node;have hb2:=qC nd.node;have ND:=Lib.hid (nd.mark nm);have KD:=Lib.hid (kd.set 3 (.string nm));have G1:=Lib.hid ((HG.out.trans (Gs.of u1)).set ⟨Bn,3,none⟩ (.string nm) (.inl nd.hB));clear nd kd u1 cN;go_wp2_with fail
      go_roundw
      case rel=>exact⟨k+1,j+1,⟨a.nm,nm,a.ks⟩,vo,ps,kC (by omega),kC (by omega),by omega,by omega,hj1,HRE.out _ (fun h=>absurd h (by decide)) (fun _=>rfl),Nat.le_trans HAL.out (tB k),ND.out,KD.out,G1.out⟩
      case measure=>simp[intOf];omega
   ·have cN:=CL.out j wr HUW.out
    cases hnm:nam B.long (tks l) j with
    | none=>
     rw[hnm] at cN;have HRE:Hid (R = .inr (j,6)):=Lib.hid (by
      rw[HRK.out]
      rcases h with rfl | rfl
      ·rw[bH];unfold nameQ;rw[hnm];rfl
      ·rw[zWo];unfold nameQ;rw[hnm];rfl)
     clear hnm HRK
     rcases h with rfl | rfl
     all_goals
      go_wp2_with fail;refine cN.mono ?_;rintro en w1 ⟨rfl,u1⟩;go_wp2_with fail
      go_ret2
      exact⟨_,_,rfl,by rw[HRE.out];exact⟨rfl,rfl⟩,HG.out.trans (Gs.of u1)⟩
    | some nm=>
     rw[hnm] at cN;have hj1:j+1<=l.length:=nW hnm;have HRE:∀a',(c=108->a'=⟨nm,a.mrk,a.ks⟩)->(c=76->a'=⟨a.nm,nm,a.ks⟩)->R=partS B.nck B.long l O (sh.drop (k+1)) (j+1) a':=fun a' e1 e2=>by
      rw[HRK.out]
      rcases h with h | h
      ·rw[e1 h];subst h;rw[bH];unfold nameQ;rw[hnm];rfl
      ·rw[e2 h];subst h;rw[zWo];unfold nameQ;rw[hnm];rfl
     have HRE:=Lib.hid HRE;clear hnm HRK
     rcases h with rfl | rfl
     ·go_wp2_with fail
      refine cN.mono ?_;rintro en w1 ⟨rfl,u1⟩;have nd:=HND.out.up u1;have kd:=HKD.out.up u1;have c2:=cell_of_row w1 Bn 2 _ _ _ nd.node;have f2:=frozen_of_row w1 Bn 2 _ _ nd.node;have hb2:=qC nd.node;have ND:=Lib.hid (nd.name nm);have KD:=Lib.hid (kd.set 2 (.string nm));have G1:=Lib.hid ((HG.out.trans (Gs.of u1)).set ⟨Bn,2,none⟩ (.string nm) (.inl nd.hB));clear nd kd u1 cN;go_wp2_with fail
      go_roundw
      case rel=>exact⟨k+1,j+1,⟨nm,a.mrk,a.ks⟩,vo,ps,kC (by omega),kC (by omega),by omega,by omega,hj1,HRE.out _ (fun _=>rfl) (fun h=>absurd h (by decide)),Nat.le_trans HAL.out (tB k),ND.out,KD.out,G1.out⟩
      case measure=>simp[intOf];omega
     ·go_wp2_with fail
      refine cN.mono ?_;rintro en w1 ⟨rfl,u1⟩;have nd:=HND.out.up u1;have kd:=HKD.out.up u1;have c2:=cell_of_row w1 Bn 3 _ _ _ nd.node;have f2:=frozen_of_row w1 Bn 3 _ _ nd.node;have hb2:=qC nd.node;have ND:=Lib.hid (nd.mark nm);have KD:=Lib.hid (kd.set 3 (.string nm));have G1:=Lib.hid ((HG.out.trans (Gs.of u1)).set ⟨Bn,3,none⟩ (.string nm) (.inl nd.hB));clear nd kd u1 cN;go_wp2_with fail
      go_roundw
      case rel=>exact⟨k+1,j+1,⟨a.nm,nm,a.ks⟩,vo,ps,kC (by omega),kC (by omega),by omega,by omega,hj1,HRE.out _ (fun h=>absurd h (by decide)) (fun _=>rfl),Nat.le_trans HAL.out (tB k),ND.out,KD.out,G1.out⟩
      case measure=>simp[intOf];omega
   ·subst h
    have cC:=CC.out j wr hj HUW.out;rw[zWp,zK] at HRK;have hin:=pA (nk:=B.nck) (lg:=B.long) hj .nil
    cases hR:consL B.nck B.long (tks l) j .nil with
    | inr e=>
     obtain⟨p,er⟩:=e;rw[hR] at cC HRK;have hne:¬er=0:=hin.ne hR;clear hin hR;go_wp2_with fail;refine cC.mono ?_;rintro en w1 ⟨v1,j1,e1,rfl,⟨rfl,rfl,rfl⟩,u1⟩;go_wp2_with fail
     go_ret2
     exact⟨_,_,rfl,by rw[HRK.out];exact⟨rfl,rfl⟩,HG.out.trans (Gs.of u1)⟩
    | inl r=>
     obtain⟨f,q⟩:=r;have hfl:=zQk hj hR;rw[hR] at cC HRK hin;have hq:j<q/\q<=l.length:=hin;clear hin hR;go_wp2_with fail;refine cC.mono ?_;rintro en w1 ⟨v1,j1,e1,rfl,⟨⟨g,c1,rfl,hgc,hgn,h0,hf⟩,rfl,rfl⟩,u1⟩;obtain⟨vs,hvs,hcell⟩:=InF.vals8 hf;have nd:=HND.out.up u1;have kd:=HKD.out.up u1;obtain⟨A,cp,rfl⟩:=mR nd.own;have hnB:Bn<wr.heap.size:=qC HND.out.node;have hltw:∀g,(Value.slice A ps.length cp).ownBlock=some g->g<wr.heap.size:=fun g hg=>(World.ownsRow.lt HND.out.own g hg).2
     have c4:=nd.node.cell.1;have how:=nd.own;have hln:=kd.len;have hlv:=PtF.len hvs;have hal:=Nat.le_trans HAL.out (zVg k);obtain⟨n,hnn⟩:∃n,ps.length=n:=⟨_,rfl⟩;rw[hnn] at how c4 hln nd kd hltw;have HOW:=Lib.hid how;have HCE:Hid (∀(j:Nat) u,vs[j]? = some u->w1.cell? ((⟨g,0,none⟩:Addr).add j)=some u):=Lib.hid fun j u hu=>by
      rw[show(⟨g,0,none⟩:Addr).add j=⟨g,0+j,none⟩ from by unfold Addr.add;split<;>simp_all]
      exact hcell j u hu
     have ND:=Lib.hid nd;have KD:=Lib.hid kd;have U1:=Lib.hid u1;have HVS:=Lib.hid hvs;have HNN:=Lib.hid hnn;have HLT:=Lib.hid hltw;have HLN:=Lib.hid hln;have HAL2:=Lib.hid hal;have hWr:=HG.out.size;have hu1:=u1.size;have hWW:W.heap.size<=w1.heap.size:=by omega
     have hnb:n+f.len<=20000000:=by omega
     clear nd kd u1 hvs hnn hltw how hcell hln hal hf hgn cC
     go_wp2_with (at_builtin;refine wpList_append_lies _ rfl _ _ 33 rfl W.heap.size 24 i0 _ 1 8 Tryz.underlying33 hi0 hz0 hz1 hz2 rfl (by omega) (.slice A n cp) n ps rfl HOW.out ⟨g,0,none⟩ f.len c1 vs rfl (by omega) HCE.out (PtF.one HVS.out) h0 (by unfold maxLen;omega) (by omega) hWW w1.heap.size rfl ?_;intro g6 cap6 w6 ho6 hg6 hat6 hlt6;have nb6:=wH ND.out hg6;have c46:=nb6.cell.1;have f46:=nb6.cell.2;have hb46:=qC nb6)
     go_roundw
     case rel=>exact⟨k+1,q,⟨a.nm,a.mrk,a.ks.app f⟩,_,ps++vs,rfl,kC (by omega),by omega,by omega,hq.2,HRK.out,by rw[Fr.len_app,zKw];have:=HAL.out;omega,ND.out.more (PtF.ptrs HVS.out) (by rw[List.length_append,HNN.out,hlv]) ho6 hg6 rfl hat6,KD.out.more hg6 rfl hat6 HVS.out (by omega) hnB HLT.out,(HG.out.trans (Gs.of U1.out)).trans (ND.out.wmore hg6)⟩
     case measure=>simp[intOf];omega
   ·have cT:=CO.out c h j wr hij hj HUW.out
    have hst:R=thn (O c j) fun t j'=>partS B.nck B.long l O (sh.drop (k+1)) j' ⟨a.nm,a.mrk,a.ks.app (fr1 t)⟩:=by
     rw[HRK.out]
     rcases h with rfl | rfl | rfl | rfl
     ·rw[oZ,zK];rfl
     ·rw[zMf,zK];rfl
     ·rw[zMg,zK];rfl
     ·rw[zWq,zK];rfl
    have hin:=HO.out c j hj;clear HRK
    cases hR:O c j with
    | inr e=>
     obtain⟨p,er⟩:=e;rw[hR] at cT hst;have hne:¬er=0:=hin.ne hR;have HST:=Lib.hid hst;clear hin hR hst
     rcases h with rfl | rfl | rfl | rfl
     all_goals
      go_wp2_with fail;refine cT.mono ?_;rintro en w1 ⟨v1,j1,e1,rfl,⟨rfl,rfl,-⟩,u1⟩;go_wp2_with fail
      go_ret2
      exact⟨_,_,rfl,by rw[HST.out];exact⟨rfl,rfl⟩,HG.out.trans (Gs.of u1)⟩
    | inl r=>
     obtain⟨t,q⟩:=r;rw[hR] at cT hst hin;have hq:j<q/\q<=l.length:=hin;have HST:=Lib.hid hst;have hnB:Bn<wr.heap.size:=qC HND.out.node;obtain⟨A,cp,rfl⟩:=mR HND.out.own;have hal:=Nat.le_trans HAL.out (zVg k);have hln:=HKD.out.len;have hlt2:∀g,(Value.slice A ps.length cp).ownBlock=some g->g<wr.heap.size:=fun g hg=>(World.ownsRow.lt HND.out.own g hg).2
     obtain⟨n,hnn⟩:∃n,ps.length=n:=⟨_,rfl⟩;rw[hnn] at hln HND HKD hlt2;have HNN:=Lib.hid hnn;have HLT:=Lib.hid hlt2;have hnb:n+1<=20000000:=by omega
     clear hin hR hst hnn hlt2 hln hal
     rcases h with rfl | rfl | rfl | rfl
     all_goals
      go_wp2_with fail;refine cT.mono ?_;rintro en w1 ⟨v1,j1,e1,rfl,⟨hn1,rfl,rfl⟩,u1⟩;obtain⟨o1,p1,rfl⟩:=InT.ptr hn1;have c4:=(HND.out.up u1).node.cell.1;have hWr:=HG.out.size;have hu1:=u1.size;obtain⟨w5,hw5⟩:∃w5,w1.alloc (.cells #[.pointer (some ⟨o1,p1,none⟩)] 24)=w5:=⟨_,rfl⟩;have u5:Up w1 w5:=by rw[<- hw5];exact(Up.refl _).alloc _
      have z5:w5.heap.size=w1.heap.size+1:=by rw[<- hw5];simp
      have nd:=HND.out.up (u1.trans u5);have how:=nd.own;rw[HNN.out] at how;have HCE:Hid (∀(j:Nat) u,[Value.pointer (some ⟨o1,p1,none⟩)][j]? = some u->w5.cell? ((⟨w1.heap.size,0,none⟩:Addr).add j)=some u):=Lib.hid (by rw[<- hw5];exact cell_one_new _ _ _);have ND:=Lib.hid nd;have KD:=Lib.hid (HKD.out.up (u1.trans u5));have HOW:=Lib.hid how;have U15:=Lib.hid (u1.trans u5);have HVS:Hid (PtF w5 (NewS wr w5) [.pointer (some ⟨o1,p1,none⟩)] (fr1 t)):=Lib.hid (PtF.one1 (hn1.up u5));have hW5:W.heap.size<=w5.heap.size:=by omega
      have HW5:=Lib.hid hw5;have HH:Hid (w5.heap.size=w1.heap.size+1):=Lib.hid z5;clear nd how u1 u5 hn1 hw5 cT z5
      go_wp2_with (at_builtin;rw[HW5.out];refine wpList_append_lies _ rfl _ _ 33 rfl W.heap.size 24 i0 _ 1 8 Tryz.underlying33 hi0 hz0 hz1 hz2 rfl (by omega) (.slice A n cp) n ps rfl HOW.out ⟨w1.heap.size,0,none⟩ 1 1 [.pointer (some ⟨o1,p1,none⟩)] rfl rfl HCE.out (by intro u hu;rw[List.mem_singleton.1 hu];rfl) (by omega) (by unfold maxLen;omega) (by omega) hW5 w5.heap.size rfl ?_;intro g6 cap6 w6 ho6 hg6 hat6 hlt6;have nb6:=wH ND.out hg6;have c46:=nb6.cell.1;have f46:=nb6.cell.2;have hb46:=qC nb6)
      go_roundw
      case rel=>exact⟨k+1,q,⟨a.nm,a.mrk,a.ks.app (fr1 t)⟩,_,ps++[.pointer (some ⟨o1,p1,none⟩)],rfl,kC (by omega),by omega,by omega,hq.2,HST.out,by rw[Fr.len_app,zKw];have:=HAL.out;show a.ks.len+1<=_;omega,ND.out.more (PtF.ptrs HVS.out) (by rw[List.length_append,HNN.out];rfl) ho6 hg6 rfl hat6,KD.out.more hg6 rfl hat6 HVS.out (by omega) hnB HLT.out,(HG.out.trans (Gs.of U15.out)).trans (ND.out.wmore hg6)⟩
      case measure=>simp[intOf];omega
   ·have cK:=fun y w' (u:Up wr w')=>CK.out j y w' (HUW.out.trans u)
    have hs8:R=thn (keysL (tks l) j [eN c]) fun _ j'=>partS B.nck B.long l O (sh.drop (k+1)) j' a:=by
     rw[HRK.out]
     rcases h with rfl | rfl | rfl | rfl | rfl
     ·rw[lU,zK];rfl
     ·rw[uC,zK];rfl
     ·rw[zT2,zK];rfl
     ·rw[zT3,zK];rfl
     ·rw[zWr,zK];rfl
    have cY:=cK (eN c);have cS:=zFd c wr
    cases hb:key (tks l) j (eN c) with
    | false=>
     rw[hb] at cY;have HRE:Hid (R = .inr (j,6)):=Lib.hid (by rw[hs8];unfold keysL;rw[hb];rfl);clear hb hs8 HRK cK
     rcases h with rfl | rfl | rfl | rfl | rfl
     all_goals
      go_wp2_with fail;refine cS.mono ?_;rintro en w1 ⟨rfl,u1⟩;go_wp2_with fail;refine(cY w1 u1).mono ?_;rintro en w2 ⟨rfl,u2⟩;go_wp2_with fail
      go_ret2
      exact⟨_,_,rfl,by rw[HRE.out];exact⟨rfl,rfl⟩,HG.out.trans (Gs.of (u1.trans u2))⟩
    | true=>
     rw[hb] at cY;have hj1:j+1<=l.length:=qG hb;have HRE:Hid (R=partS B.nck B.long l O (sh.drop (k+1)) (j+1) a):=Lib.hid (by rw[hs8];unfold keysL;rw[hb];rfl);clear hb hs8 HRK cK
     rcases h with rfl | rfl | rfl | rfl | rfl
     all_goals
      go_wp2_with fail;refine cS.mono ?_;rintro en w1 ⟨rfl,u1⟩;go_wp2_with fail;refine(cY w1 u1).mono ?_;rintro en w2 ⟨rfl,u2⟩;go_wp2_with fail
      go_roundw
      case rel=>exact⟨k+1,j+1,a,vo,ps,kC (by omega),kC (by omega),by omega,by omega,hj1,HRE.out,Nat.le_trans HAL.out (tB k),HND.out.up (u1.trans u2),HKD.out.up (u1.trans u2),HG.out.trans (Gs.of (u1.trans u2))⟩
      case measure=>simp[intOf];omega
  ·obtain rfl:k=N:=by omega
   have hkz:¬(k:Int)<(k:Int):=by omega
   have HRE:Hid (R = .inl (a,j)):=Lib.hid (by rw[hRk,List.drop_of_length_le (by rw[HN.out];exact Nat.le_refl _)];rfl);have HND:=Lib.hid hnd;have HKD:=Lib.hid hkd;have HG:=Lib.hid hg;clear hRk hnd hkd hg huw hal;go_wp2_with fail
   go_ret2
   exact⟨_,_,rfl,by rw[HRE.out];exact⟨rfl,rfl,vo,ps,HND.out,HKD.out⟩,HG.out⟩
def RoV (R:Rs (Option Tr)) (w w':World) (va:Value) (j e:Int):Prop:=match R with
 | .inl (none,q)=>va = .pointer none/\j=(q:Int)/\e=0
 | .inl (some t,q)=>NewT w w' va t/\j=(q:Int)/\e=0
 | .inr (p,r)=>j=(p:Int)/\e=r/\va = .pointer none
def RoP (R:Rs (Option Tr)) (w:World) (en:Ending) (w':World):Prop:=∃va j e,en = .returned (.tuple #[va,.int .i64 j,.int .i64 e])/\RoV R w w' va j e/\Up w w'
structure Rn8 (l:List Te) (O:UInt8->Nat->Rs Tr) (V:World) (v:Value) (i:Nat):Prop where
 inO:OneIn l O
 tok:Tke V v l
 hl:l.length<=1000000
 hz:∀t∈l,t.t.s.size<=1000000000
 one:∀c,c=116\/c=101\/c=109\/c=115->∀(j:Nat) (W:World),i<j->j<=l.length->Up V W->Calls Tryz.prog 82 #[v,.int .i64 (j:Int),.int .u8 (c.toNat:Int)] W (qJ (O c j) W)
theorem Rn8.key {l:List Te} {O:UInt8->Nat->Rs Tr} {V:World} {v:Value} {i:Nat} (H:Rn8 l O V v i) (j:Nat) (y:ByteArray) (W:World) (u:Up V W):Calls Tryz.prog 41 #[v,.int .i64 (j:Int),.string y] W (BoU (key (tks l) j y) W):=by
 rw[<- yN];exact kZ (tks l) j y W v (H.tok.up u).tkm
theorem Rn8.mono {l:List Te} {O:UInt8->Nat->Rs Tr} {V:World} {v:Value} {i i':Nat} (H:Rn8 l O V v i) (h:i<=i'):Rn8 l O V v i':=⟨H.inO,H.tok,H.hl,H.hz,fun c hc j W hij=>H.one c hc j W (by omega)⟩
theorem Rn8.part {l:List Te} {O:UInt8->Nat->Rs Tr} {V:World} {v:Value} {i:Nat} (H:Rn8 l O V v i) (i1:Nat) (h1:i<i1) (hi:i1<=l.length) (sh:List UInt8) (hsh:∀c∈sh,c∈zFe) (hlen:sh.length<=10) (W w:World) (hVW:V.heap.size<=W.heap.size) (hu:Up V w) (hWw:W.heap.size<=w.heap.size) (Bn:Nat) (x:Nod) (vo:Value) (ps:List Value) (f0:Fr) (hf0:f0.len<=10) (hn:NdM W w Bn x vo ps) (hk:KdM W w Bn vo ps f0) :
  Calls Tryz.prog 50 #[v,.int .i64 (i1:Int),.pointer (some ⟨Bn,0,none⟩),.string ⟨sh.toArray⟩] w (PrP W Bn x (partS B.nck B.long l O sh i1 ⟨x.a,x.m,f0⟩) w):=
 zFh l O H.inO V v H.tok H.hl H.hz i1 hi (fun c hc j W' hij hj u=>H.one c hc j W' (by omega) hj u) sh hsh hlen W w hVW hu hWw Bn x vo ps f0 hf0 hn hk
theorem zFi {l:List Te} {O:UInt8->Nat->Rs Tr} {V:World} {v:Value} {i:Nat} (H:Rn8 l O V v i) (hi:i<=l.length) (t:List Rw8) (ht:∀r∈t,zKs r) (htl:t.length<=100) (top:Bool) (vt:Value) (w:World) (hu:Up V w) (hrows:RowsM w vt t) :
  Calls Tryz.prog 54 #[v,.int .i64 (i:Int),vt,.bool top] w (RoP (rowsS B.nck B.long l O top t i) w):=by
 have hin:=gQ (nk:=B.nck) (lg:=B.long) H.inO top t i hi;obtain⟨A,c,rfl,hrc⟩:=hrows;have HRC:=Lib.hid hrc;have HH:=Lib.hid H;have HT:=Lib.hid ht;obtain⟨N,hN⟩:∃N,t.length=N:=⟨_,rfl⟩;have HN:=Lib.hid hN;obtain⟨R,hR⟩:∃R,rowsS B.nck B.long l O top t i=R:=⟨_,rfl⟩;have HR:=Lib.hid hR;have HU:=Lib.hid hu;have hll:=H.hl;rw[hR,hN];rw[hN] at htl;clear hrc H ht hN hR hu hin
 go_enter Tryz.func54,Tryz.ntmps54
 go_wp2_with fail
 go_loopw [11,12,13,14] (fun kv _ _ _ wr=>∃k:Nat,kv = .int .i64 (k:Int)/\k<=N/\R=rowsS B.nck B.long l O top (t.drop k) i/\Up w wr) (fun kv _ _ _ _=>N+1-(intOf kv).toNat)
 case atStart=>exact⟨0,rfl,Nat.zero_le _,HR.out.symm,Up.refl _⟩
 case round=>
  obtain⟨k,rfl,hk,hRk,hur⟩:=hrel
  by_cases hlt:k<N
  ·obtain⟨r,hr⟩:∃r,t[k]? = some r:=⟨_,List.getElem?_eq_getElem (by rw[HN.out];exact hlt)⟩
   obtain⟨b,o,g,p,rfl,k0,k1,k2,k3⟩:=HRC.out k r hr;have R8:=HT.out r (List.mem_of_getElem? hr);have k0:=hur.cell k0;have k1:=hur.cell k1;have k2:=hur.cell k2;have k3:=hur.cell k3;have hd:t.drop k=r::t.drop (k+1):=by
    obtain⟨h1,h2⟩:=List.getElem?_eq_some_iff.1 hr;rw[List.drop_eq_getElem_cons h1,h2]
   rw[hd,uD] at hRk;have hkz:(k:Int)<(N:Int):=by omega
   have hwk:IntKind.i64.wrap ((k:Int)+1)=((k+1:Nat):Int):=by rw[IntKind.wrap_i64]<;>omega
   have hwi:IntKind.i64.wrap ((i:Int)+1)=((i+1:Nat):Int):=by rw[IntKind.wrap_i64]<;>omega
   have cK:=HH.out.key i r.w wr (HU.out.trans hur);have HRK:=Lib.hid hRk;have HUR:=Lib.hid hur;have hlo:=R8.lo;have hhi:=R8.hi;have H8:=Lib.hid R8;clear hRk hur hd hr R8
   by_cases hgo:74<=r.k/\r.k<=75/\top=false
   ·obtain⟨h1,h2,h3⟩:=hgo
    subst h3;have HB:Hid (begS l r false i=false):=Lib.hid (by unfold begS;rw[decide_eq_true h1,decide_eq_true h2];rfl);go_wp2_with fail
    go_roundw
    case rel=>exact⟨k+1,kC (by omega),by omega,by rw[HRK.out,HB.out];rfl,HUR.out⟩
    case measure=>simp[intOf];omega
   ·have HB:Hid (begS l r top i=(key (tks l) i r.w&&fitS l r (i+1))):=Lib.hid (by
     unfold begS;rw[show(decide (74<=r.k)&&decide (r.k<=75) && !top)=false from by
      by_cases h1:74<=r.k
      ·by_cases h2:r.k<=75
       ·cases top with
        | false=>exact absurd ⟨h1,h2,rfl⟩ hgo
        | true=>rw[Bool.not_true,Bool.and_false]
       ·rw[decide_eq_false h2,Bool.and_false,Bool.false_and]
      ·rw[decide_eq_false h1,Bool.false_and,Bool.false_and]]
     rfl)
    have h3:r.k<74\/(74<=r.k/\r.k<=75/\top=true)\/(74<=r.k/\75<r.k):=by
     by_cases h1:74<=r.k
     ·by_cases h2:r.k<=75
      ·cases top with
       | false=>exact absurd ⟨h1,h2,rfl⟩ hgo
       | true=>exact .inr (.inl ⟨h1,h2,rfl⟩)
      ·exact .inr (.inr ⟨h1,by omega⟩)
     ·exact .inl (by omega)
    clear hgo
    cases hb:key (tks l) i r.w with
    | false=>
     rw[hb] at cK;have HRE:Hid (R=rowsS B.nck B.long l O top (t.drop (k+1)) i):=Lib.hid (by rw[HRK.out,HB.out,hb];rfl);clear hb HRK HB
     rcases h3 with h1 | ⟨h1,h2,rfl⟩ | ⟨h1,h2⟩
     all_goals
      go_wp2_with fail;refine cK.mono ?_;rintro en w1 ⟨rfl,u1⟩;go_wp2_with fail
      go_roundw
      case rel=>exact⟨k+1,kC (by omega),by omega,HRE.out,HUR.out.trans u1⟩
      case measure=>simp[intOf];omega
    | true=>
     rw[hb] at cK;have hi1:i+1<=l.length:=qG hb;have cF:=fun(W:World) (u:Up wr W)=>zFg l (i+1) r H8.out (some ⟨g,p,none⟩) hll hi1 W v ((HH.out.tok.up (HU.out.trans HUR.out)).up u)
     cases hf:fitS l r (i+1) with
     | false=>
      rw[hf] at cF;have HRE:Hid (R=rowsS B.nck B.long l O top (t.drop (k+1)) i):=Lib.hid (by rw[HRK.out,HB.out,hb,hf];rfl);have CF:=Lib.hid cF;clear hb HRK HB hf cF
      rcases h3 with h1 | ⟨h1,h2,rfl⟩ | ⟨h1,h2⟩
      all_goals
       go_wp2_with fail;refine cK.mono ?_;rintro en w1 ⟨rfl,u1⟩;have k0:=Up.cell u1 k0;have k1:=Up.cell u1 k1;have k2:=Up.cell u1 k2;have k3:=Up.cell u1 k3;have cF:=CF.out w1 u1;go_wp2_with fail;refine cF.mono ?_;rintro en w2 ⟨rfl,u2⟩;go_wp2_with fail
       go_roundw
       case rel=>exact⟨k+1,kC (by omega),by omega,HRE.out,HUR.out.trans (u1.trans u2)⟩
       case measure=>simp[intOf];omega
     | true=>
      rw[hf] at cF;have HRE:Hid (R=thn (partS B.nck B.long l O r.sh (i+1) ⟨nob,nob,.nil⟩) fun p j=>.inl (some (⟨r.k,0,p.nm,p.mrk⟩,p.ks),j)):=Lib.hid (by rw[HRK.out,HB.out,hb,hf];rfl);have hin:=fT (nk:=B.nck) (lg:=B.long) (l:=l) (O:=O) HH.out.inO r.sh (i+1) ⟨nob,nob,.nil⟩ hi1;have CF:=Lib.hid cF;clear hb HRK HB hf cF;obtain⟨X,hX⟩:∃X,partS B.nck B.long l O r.sh (i+1) ⟨nob,nob,.nil⟩=X:=⟨_,rfl⟩;rw[hX] at hin HRE;have cP:Hid (∀W1,Up wr W1->Calls Tryz.prog 50 #[v,.int .i64 ((i+1:Nat):Int),.pointer (some ⟨W1.heap.size,0,none⟩),.string ⟨r.sh.toArray⟩] (W1.alloc (.cells #[.int .i64 r.k,.int .i64 0,.string ⟨#[]⟩,.string ⟨#[]⟩,.slice none 0 0] 44)) (PrP W1 W1.heap.size ⟨r.k,0,nob,nob⟩ X (W1.alloc (.cells #[.int .i64 r.k,.int .i64 0,.string ⟨#[]⟩,.string ⟨#[]⟩,.slice none 0 0] 44)))):=Lib.hid fun W1 u=>by
       rw[<- hX];exact HH.out.part (i+1) (Nat.lt_succ_self i) hi1 r.sh H8.out.let8 H8.out.len W1 _ (HU.out.trans (HUR.out.trans u)).size ((HU.out.trans (HUR.out.trans u)).alloc _) (by simp) W1.heap.size ⟨r.k,0,nob,nob⟩ (.slice none 0 0) [] .nil (by show 0<=10;omega) (NdM.new (x:=⟨r.k,0,nob,nob⟩) (Nat.le_refl _)) KdM.nil
      clear hX
      rcases h3 with h1 | ⟨h1,h2,rfl⟩ | ⟨h1,h2⟩
      all_goals
       go_wp2_with fail;refine cK.mono ?_;rintro en w1 ⟨rfl,u1⟩;have k0:=Up.cell u1 k0;have k1:=Up.cell u1 k1;have k2:=Up.cell u1 k2;have k3:=Up.cell u1 k3;have cF:=CF.out w1 u1;go_wp2_with fail;refine cF.mono ?_;rintro en w2 ⟨rfl,u2⟩;have k0:=Up.cell u2 k0;have k1:=Up.cell u2 k1;have k2:=Up.cell u2 k2;have cP:=cP.out w2 (u1.trans u2);have k9:=Up.cell ((Up.refl w2).alloc (.cells #[.int .i64 r.k,.int .i64 0,.string ⟨#[]⟩,.string ⟨#[]⟩,.slice none 0 0] 44)) k2;go_wp2_with fail;refine cP.mono ?_;rintro en w3 ⟨j3,e3,rfl,hP,g3⟩;have hu3:Up w w3:=g3.up (((HUR.out.trans (u1.trans u2))).alloc _) fun q hq=>by unfold FromW at hq;have:=HUR.out.size;have:=u1.size;have:=u2.size;omega
       have hwz:w.heap.size<=w2.heap.size:=by have:=HUR.out.size;have:=u1.size;have:=u2.size;omega
       clear g3 u1 u2 cK CF
       cases X with
       | inr er=>
        obtain⟨q,er⟩:=er;obtain⟨rfl,rfl⟩:=hP;have hne:¬e3=0:=hin.ne rfl;go_wp2_with fail
        go_ret3
        exact⟨_,_,_,rfl,by rw[HRE.out];exact⟨rfl,rfl,rfl⟩,hu3⟩
       | inl pr=>
        obtain⟨p,q⟩:=pr;obtain⟨rfl,rfl,vo,ps,hnd,hkd⟩:=hP;have HNT:=Lib.hid (hnd.tree hkd);clear hnd hkd;go_wp2_with fail
        go_ret3
        exact⟨_,_,_,rfl,by rw[HRE.out];exact⟨HNT.out.base hwz,rfl,rfl⟩,hu3⟩
  ·obtain rfl:k=N:=by omega
   have hkz:¬(k:Int)<(k:Int):=by omega
   have HRE:Hid (R = .inl (none,i)):=Lib.hid (by rw[hRk,List.drop_of_length_le (by rw[HN.out];exact Nat.le_refl _)];rfl);have HUR:=Lib.hid hur;clear hRk hur;go_wp2_with fail
   go_ret3
   exact⟨_,_,_,rfl,by rw[HRE.out];exact⟨rfl,rfl,rfl⟩,HUR.out⟩
def KidsN (W w:World) (v:Value) (f:Fr):Prop:=∃A c,v = .slice A f.len c/\f.len<=c/\f.len<=1000000/\(0<f.len->∃g,A=some ⟨g,0,none⟩/\NewS W w g/\InF w (NewS W w) f g 0)
theorem KidsN.nil (W w:World):KidsN W w (.slice none 0 0) .nil:=⟨none,0,rfl,Nat.le_refl _,Nat.zero_le _,fun h=>absurd h (Nat.lt_irrefl _)⟩
theorem CoSt.kidsN {W w:World} {v:Value} {f:Fr} {ps:List Value} (h:CoSt W w v f ps) (hl:f.len<=1000000):KidsN W w v f:=by
 obtain⟨A,c,rfl,hc,hlt,h0⟩:=h.form;refine⟨A,c,rfl,hc,hl,fun hp=>?_⟩;obtain⟨g,rfl,hcell⟩:=h0 hp;exact⟨g,rfl,hlt g rfl,PtF.row (PtF.keep (fun q hq=>hq.1) (fun _ _=>rfl) h.kids) hcell⟩
def RmN (R:Rs Fr) (f:Fr) (j e:Int):Prop:=match R with
 | .inl (g,q)=>f=g/\j=(q:Int)/\e=0
 | .inr (p,r)=>j=(p:Int)/\e=r/\f = .nil
def fZ (R:Rs Fr) (w:World) (e:Ending) (w':World):Prop:=∃v f j er,e = .returned (.tuple #[v,.int .i64 j,.int .i64 er])/\KidsN w w' v f/\RmN R f j er/\Up w w'
theorem zKx (A:Option Addr) (W:World):(binOp .eql 24 (.pointer A) (.pointer none)).run Tryz.prog W = .ok (.bool A.isNone) W:=by
 cases A with
 | none=>kernel_rfl
 | some a=>exact zZx W _
theorem uU {l:List Te} {O:UInt8->Nat->Rs Tr} {V:World} {v:Value} {i:Nat} (H:Rn8 l O V v i) (hi:i<=l.length) (t:List Rw8) (ht:∀r∈t,zKs r) (htl:t.length<=100) (top:Bool) (n:Nat) (hn:l.length+1<=n+i) (vt:Value) (w:World) (hu:Up V w) (hrows:RowsM w vt t) :
  Calls Tryz.prog 29 #[v,.int .i64 (i:Int),vt,.bool top] w (fZ (manyS B.nck B.long l O t top n i .nil) w):=by
 have CR:Hid (∀(j:Nat) (W:World),i<=j->j<=l.length->Up w W->Calls Tryz.prog 54 #[v,.int .i64 (j:Int),vt,.bool top] W (RoP (rowsS B.nck B.long l O top t j) W)):=Lib.hid fun j W hij hj u=>zFi (H.mono hij) hj t ht htl top vt W (hu.trans u) (hrows.up u)
 have HIN:Hid (∀j,j<=l.length->InR l.length j (rowsS B.nck B.long l O top t j)):=Lib.hid fun j hj=>gQ H.inO top t j hj
 obtain⟨R,hR⟩:∃R,manyS B.nck B.long l O t top n i .nil=R:=⟨_,rfl⟩;have HR:=Lib.hid hR;have hll:=H.hl;rw[hR];obtain⟨i0,hi0,hz0,hz1,hz2⟩:=info_parts xK;clear hR H ht hrows hu
 go_enter Tryz.func29,Tryz.ntmps29
 go_wp2_with fail
 go_loopw [1,11,12,13,14] (fun iv vo _ _ _ wr=>∃(j f:Nat) (acc:Fr) (ps:List Value),iv = .int .i64 (j:Int)/\i<=j/\j<=l.length/\l.length+1<=f+j/\R=manyS B.nck B.long l O t top f j acc/\acc.len<=j/\CoSt w wr vo acc ps/\Up w wr) (fun iv _ _ _ _ _=>l.length-(intOf iv).toNat)
 case atStart=>exact⟨i,n,.nil,[],rfl,Nat.le_refl _,hi,hn,HR.out.symm,Nat.zero_le _,CoSt.start w w,Up.refl _⟩
 case round=>
  obtain⟨j,f,acc,ps,rfl,hij,hj,hf,hRj,hal,hst,hur⟩:=hrel;obtain⟨f,rfl⟩:∃g,f=g+1:=⟨f-1,by omega⟩;have cR:=CR.out j wr hij hj hur;have hin:=HIN.out j hj;have hRj:R=thn (rowsS B.nck B.long l O top t j) fun o q=>match o with
   | none=>.inl (acc,j)
   | some x=>manyS B.nck B.long l O t top f q (acc.app (fr1 x)):=hRj
  obtain⟨X,hX⟩:∃X,rowsS B.nck B.long l O top t j=X:=⟨_,rfl⟩;rw[hX] at cR hin hRj;obtain⟨A,cp,rfl,hcap,hlt2,hc0⟩:=hst.form;have HRJ:=Lib.hid hRj;have HST:=Lib.hid hst;have HUR:=Lib.hid hur;have HC0:=Lib.hid hc0;clear hRj hst hur hX hc0
  cases X with
  | inr er=>
   obtain⟨p,er⟩:=er;have hne:¬er=0:=by have h:j<=p/\p<=l.length/\(er=6\/er=9):=hin;omega
   go_wp2_with fail;refine cR.mono ?_;rintro en w1 ⟨va,j1,e1,rfl,⟨rfl,rfl,rfl⟩,u1⟩;go_wp2_with fail
   go_ret3
   exact⟨_,.nil,_,_,rfl,KidsN.nil _ _,by rw[HRJ.out];exact⟨rfl,rfl,rfl⟩,HUR.out.trans u1⟩
  | inl pr=>
   obtain⟨o,q⟩:=pr
   cases o with
   | none=>
    go_wp2_with fail;refine cR.mono ?_;rintro en w1 ⟨va,j1,e1,rfl,⟨rfl,rfl,rfl⟩,u1⟩;go_wp2_with fail
    go_ret3
    refine⟨_,acc,_,_,rfl,?_,by rw[HRJ.out];exact⟨rfl,rfl,rfl⟩,HUR.out.trans u1⟩;exact(HST.out.up u1).kidsN (by omega)
   | some x=>
    have hq:j<q/\q<=l.length:=hin;obtain⟨N,hN⟩:∃N,acc.len=N:=⟨_,rfl⟩;rw[hN] at hlt2 hal ⊢;have HN:=Lib.hid hN;have HLT:=Lib.hid hlt2;clear hN hin hlt2;go_wp2_with fail;refine cR.mono ?_;rintro en w1 ⟨va,j1,e1,rfl,⟨hn1,rfl,rfl⟩,u1⟩;obtain⟨o1,p1,rfl⟩:=InT.ptr hn1;have hnil:=zKx (some ⟨o1,p1,none⟩);obtain⟨w5,hw5⟩:∃w5,w1.alloc (.cells #[.pointer (some ⟨o1,p1,none⟩)] 24)=w5:=⟨_,rfl⟩;have u5:Up w1 w5:=by rw[<- hw5];exact(Up.refl _).alloc _
    have how:=(HST.out.up (u1.trans u5)).own;rw[HN.out] at how;have HCE:Hid (∀(j:Nat) u,[Value.pointer (some ⟨o1,p1,none⟩)][j]? = some u->w5.cell? ((⟨w1.heap.size,0,none⟩:Addr).add j)=some u):=Lib.hid (by rw[<- hw5];exact cell_one_new _ _ _);have HOW:=Lib.hid how;have U15:=Lib.hid (u1.trans u5);have HNT:=Lib.hid (hn1.up u5);have hW5:w.heap.size<=w5.heap.size:=(HUR.out.trans (u1.trans u5)).size;have hWr:w.heap.size<=wr.heap.size:=HUR.out.size;have HW5:=Lib.hid hw5;clear how u1 u5 hn1 hw5 cR
    go_wp2_with (at_builtin;rw[HW5.out];refine wpList_append_lies _ rfl _ _ 33 rfl w.heap.size 24 i0 _ 1 8 Tryz.underlying33 hi0 hz0 hz1 hz2 rfl (by omega) (.slice A N cp) N ps rfl HOW.out ⟨w1.heap.size,0,none⟩ 1 1 [.pointer (some ⟨o1,p1,none⟩)] rfl rfl HCE.out (by intro u hu;rw[List.mem_singleton.1 hu];rfl) (by omega) (by unfold maxLen;omega) (by omega) hW5 w5.heap.size rfl ?_;intro g6 cap6 w6 ho6 hg6 hat6 hlt6)
    go_roundw
    case rel=>exact⟨q,f,acc.app (fr1 x),ps++[.pointer (some ⟨o1,p1,none⟩)],rfl,by omega,hq.2,by omega,HRJ.out,by rw[Fr.len_app,HN.out];show N+1<=_;omega,HST.out.more U15.out HN.out (by rw[HN.out];exact HLT.out) hWr HNT.out rfl ho6 (by rw[HN.out];exact hg6) (by rw[HN.out];exact hat6),(HUR.out.trans U15.out).grown hg6 hW5 fun g hg=>(HLT.out g hg).1⟩
    case measure=>simp[intOf];omega
theorem zYz {W w:World} {va vb:Value} {a b:Tr} {n:Int} (hW:W.heap.size<=w.heap.size) (ha:NewT W w va a) (hb:NewT W w vb b) :
  NewT W ((w.alloc (.cells #[va,vb] 24)).alloc (.cells #[.int .i64 43,.int .i64 n,.string ⟨#[]⟩,.string ⟨#[]⟩,.slice (some ⟨w.heap.size,0,none⟩) 2 2] 44)) (.pointer (some ⟨w.heap.size+1,0,none⟩)) (⟨43,n,nob,nob⟩,fr2 a b):=by
 have e1:(w.alloc (.cells #[va,vb] 24)).heap.size=w.heap.size+1:=by simp
 rw[<- e1];obtain⟨W1,hW1⟩:∃W1,w.alloc (.cells #[va,vb] 24)=W1:=⟨_,rfl⟩;have s1:W1.heap[w.heap.size]? = some (.cells #[va,vb] 24 (0,0)):=by rw[<- hW1];exact heap_alloc_new w _
 have u1:Up w W1:=by rw[<- hW1];exact(Up.refl w).alloc _
 have z1:=u1.size;rw[hW1];obtain⟨W2,hW2⟩:∃W2,W1.alloc (.cells #[.int .i64 43,.int .i64 n,.string ⟨#[]⟩,.string ⟨#[]⟩,.slice (some ⟨w.heap.size,0,none⟩) 2 2] 44)=W2:=⟨_,rfl⟩;have s2:W2.heap[W1.heap.size]? = some (.cells #[.int .i64 43,.int .i64 n,.string ⟨#[]⟩,.string ⟨#[]⟩,.slice (some ⟨w.heap.size,0,none⟩) 2 2] 44 (0,0)):=by rw[<- hW2];exact heap_alloc_new W1 _
 have u2:Up W1 W2:=by rw[<- hW2];exact(Up.refl W1).alloc _
 have s3:W2.heap[w.heap.size]? = some (.cells #[va,vb] 24 (0,0)):=u2.row s1;rw[hW2];exact zR (x:=⟨43,n,nob,nob⟩) (f:=fr2 a b) s2 rfl (Nat.le_refl _) ⟨by omega,qC s2⟩ ⟨hW,qC s3⟩ ⟨⟨_,cell_of_row W2 w.heap.size 0 _ _ _ s3,ha.up (u1.trans u2)⟩,⟨_,cell_of_row W2 w.heap.size 1 _ _ _ s3,hb.up (u1.trans u2)⟩,trivial⟩
theorem zFj {l:List Tk} {i:Nat} {x y:ByteArray} (h:key l i x=true) (hxy:¬x=y):key l i y=false:=by
 unfold key at *
 split at h
 ·rw[Bool.and_eq_true] at h
  have h2:=of_decide_eq_true h.2;simp only[Bool.and_eq_false_iff]
  right
  exact decide_eq_false fun e=>hxy (h2.symm.trans e)
 ·cases h
inductive SeQ (l:List Te) (S:Nat->Rs Tr) (R:Rs Tr) (i:Nat) (w wr:World) (iv va ev:Value):Prop
 | good (a:Tr) (j f:Nat) (hij:i<j) (hj:j<=l.length) (hf:l.length+1<=f+j) (hR:R=sealS l S f a j) (hn:NewT w wr va a) (h1:iv = .int .i64 (j:Int)) (h2:ev = .int .i64 0):SeQ l S R i w wr iv va ev
 | bad (p:Nat) (r:Int) (A:Option Addr) (hr:¬r=0) (hp:p<=l.length) (hR:R = .inr (p,r)) (hn:va = .pointer A) (h1:iv = .int .i64 (p:Int)) (h2:ev = .int .i64 r):SeQ l S R i w wr iv va ev
theorem SeQ.of {l:List Te} {S:Nat->Rs Tr} {R X:Rs Tr} {i j:Nat} {f:Nat} {g:Tr->Tr} {w w0 w1 wr:World} {vb va:Value} {q er:Int} (hij:i<=j) (hX:In l.length j X) (hf:l.length<=f+j) (h:RsV X w0 w1 vb q er) (hR:R=thn X fun s m=>sealS l S f (g s) m) (hn:∀s,NewT w0 w1 vb s->NewT w wr va (g s)) (hA:∃A,va = .pointer A):SeQ l S R i w wr (.int .i64 q) va (.int .i64 er):=by
 cases X with
 | inl r=>
  obtain⟨s,m⟩:=r;obtain⟨h1,rfl,rfl⟩:=h;have hX:j<m/\m<=l.length:=hX;exact .good (g s) m f (by omega) hX.2 (by omega) hR (hn s h1) rfl rfl
 | inr r=>
  obtain⟨p,r⟩:=r;obtain⟨rfl,rfl,-⟩:=h;obtain⟨A,rfl⟩:=hA;have hne:=hX.ne rfl;have hX:j<=p/\p<=l.length/\_:=hX;exact .bad p er A hne hX.2.1 hR rfl rfl rfl
theorem SeQ.less {l:List Te} {X:Rs Tr} {j:Nat} {w0 w1:World} {vb:Value} {q er:Int} (hj:j<l.length) (hX:In l.length (j+1) X) (h:RsV X w0 w1 vb q er):(if er=0 then 1 else 0)+(l.length-q.toNat)<1+(l.length-j):=by
 cases X with
 | inl r=>
  obtain⟨s,m⟩:=r;obtain⟨h1,rfl,rfl⟩:=h;have hX:j+1<m/\m<=l.length:=hX;rw[if_pos rfl,Int.toNat_natCast];omega
 | inr r=>
  obtain⟨p,r⟩:=r;obtain⟨rfl,rfl,-⟩:=h;have hne:=hX.ne rfl;have hX:j+1<=p/\p<=l.length/\_:=hX;rw[if_neg hne,Int.toNat_natCast];omega
theorem zB6 (l:List Te) (Pr S:Nat->Rs Tr) (hPr:∀j,j<=l.length->In l.length j (Pr j)) (hS:∀j,j<=l.length->In l.length j (S j)) (hl:l.length<=1000000) (i n:Nat) (hi:i<=l.length) (hn:l.length<=n+i) (w:World) (v:Value) (hv:Tke w v l)
  (cP:Calls Tryz.prog 40 #[v,.int .i64 (i:Int)] w (qJ (Pr i) w))
  (cS:∀(j:Nat) (W:World),i<j->j<=l.length->Up w W->Calls Tryz.prog 25 #[v,.int .i64 (j:Int)] W (qJ (S j) W)) :
  Calls Tryz.prog 22 #[v,.int .i64 (i:Int)] w (yO (thn (Pr i) fun m j=>sealS l S n m j) w):=by
 have CK:Hid (∀(j:Nat) (y:ByteArray) (W:World),Up w W->Calls Tryz.prog 41 #[v,.int .i64 (j:Int),.string y] W (BoU (key (tks l) j y) W)):=Lib.hid fun j y W u=>by
  rw[<- yN];exact kZ (tks l) j y W v (hv.up u).tkm
 have CS:=Lib.hid cS;have HS:=Lib.hid hS;have hin:=hPr i hi;obtain⟨X,hX⟩:∃X,Pr i=X:=⟨_,rfl⟩;rw[hX] at cP hin ⊢;obtain⟨R,hR⟩:∃R,thn X (fun m j=>sealS l S n m j)=R:=⟨_,rfl⟩;have HR:=Lib.hid hR;have HIN:=Lib.hid hin;rw[hR];clear cS hS hPr hv hX hR hin
 go_enter Tryz.func22,Tryz.ntmps22
 go_wp2_with fail;refine cP.mono ?_;rintro en w1 ⟨va,ja,ea,rfl,hV,u1⟩;have hst:SeQ l S R i w w1 (.int .i64 ja) va (.int .i64 ea):=SeQ.of (Nat.le_refl _) HIN.out hn hV HR.out.symm (g:=fun s=>s) (fun s h=>h) (by obtain⟨p,rfl⟩:=hV.ptr;exact⟨_,rfl⟩);have HST:=Lib.hid hst;clear hst hV cP;go_wp2_with fail
 go_loopw [1,7,8,9,10,11,12] (fun iv va ev _ _ _ _ wr=>SeQ l S R i w wr iv va ev/\Up w wr) (fun iv _ ev _ _ _ _ _=>(if intOf ev=0 then 1 else 0)+(l.length-(intOf iv).toNat))
 case atStart=>exact⟨HST.out,u1⟩
 case round=>
  obtain⟨hst,hu⟩:=hrel
  cases hst with
  | bad p r A hr hp hR hn h1 h2=>
   subst h1 h2 hn;have HRR:=Lib.hid hR;clear hR;go_wp2_with fail
   go_ret3
   exact⟨_,_,_,rfl,by rw[HRR.out];exact⟨rfl,rfl,rfl⟩,hu⟩
  | good a j f hij hj hf hR hn h1 h2=>
   subst h1 h2;obtain⟨o1,p1,rfl⟩:=InT.ptr hn;obtain⟨f,rfl⟩:∃g,f=g+1:=⟨f-1,by omega⟩;have hwj:IntKind.i64.wrap ((j:Int)+1)=((j+1:Nat):Int):=by rw[IntKind.wrap_i64]<;>omega
   have c1:=CK.out j qH wr hu;have c2:=fun W (u:Up wr W)=>CK.out j kSeal W (hu.trans u)
   have hR:R=if key (tks l) j kSeal then thn (S (j+1)) fun s m=>sealS l S f (⟨43,1,nob,nob⟩,fr2 a s) m else if key (tks l) j qH then thn (S (j+1)) fun s m=>sealS l S f (⟨43,0,nob,nob⟩,fr2 a s) m else .inl (a,j):=hR
   have HN:=Lib.hid hn;have HU:=Lib.hid hu
   cases hk:key (tks l) j qH with
   | true=>
    have hk2:key (tks l) j kSeal=false:=zFj hk (by decide);have hlt:j<l.length:=qG hk;rw[hk,hk2] at hR;rw[hk] at c1;rw[hk2] at c2;have HR:=Lib.hid (show R=thn (S (j+1)) fun s m=>sealS l S f (⟨43,0,nob,nob⟩,fr2 a s) m from hR);have C2:=Lib.hid c2;clear hk hk2 hR hn hu c2;go_wp2_with fail;refine c1.mono ?_;rintro en w2 ⟨rfl,u2⟩;have c2:=C2.out w2 u2;go_wp2_with fail;refine c2.mono ?_;rintro en w3 ⟨rfl,u3⟩;have cs:=CS.out (j+1) w3 (by omega) hlt (HU.out.trans (Up.trans u2 u3));go_wp2_with fail;refine cs.mono ?_;rintro en w4 ⟨vb,q,er,rfl,hV,u4⟩;obtain⟨pb,rfl⟩:=hV.ptr;have U4:Up wr w4:=(Up.trans u2 u3).trans u4;have HVV:=Lib.hid hV;have hnx:SeQ l S R i w ((w4.alloc (.cells #[.pointer (some ⟨o1,p1,none⟩),.pointer pb] 24)).alloc (.cells #[.int .i64 43,.int .i64 0,.string ⟨#[]⟩,.string ⟨#[]⟩,.slice (some ⟨w4.heap.size,0,none⟩) 2 2] 44)) (.int .i64 q) (.pointer (some ⟨w4.heap.size+1,0,none⟩)) (.int .i64 er):=
     SeQ.of (g:=fun s=>(⟨43,0,nob,nob⟩,fr2 a s)) (j:=j+1) (by omega) (HS.out (j+1) hlt) (by omega) hV HR.out (fun s hs=>zYz (by have:=HU.out.size;have:=U4.size;omega) (HN.out.up U4) (hs.base (by have:=HU.out.size;have:=(Up.trans u2 u3).size;omega))) ⟨_,rfl⟩
    have hls:=SeQ.less hlt (HS.out (j+1) hlt) hV;have HNX:=Lib.hid hnx;have UF:=Lib.hid (((HU.out.trans U4).alloc (.cells #[.pointer (some ⟨o1,p1,none⟩),.pointer pb] 24)).alloc (.cells #[.int .i64 43,.int .i64 0,.string ⟨#[]⟩,.string ⟨#[]⟩,.slice (some ⟨w4.heap.size,0,none⟩) 2 2] 44));clear hV hnx u2 u3 u4 U4 c1 C2 cs c2;go_wp2_with fail;exact⟨⟨HNX.out,UF.out⟩,hls⟩
   | false=>
    rw[hk] at c1
    cases hk2:key (tks l) j kSeal with
    | true=>
     have hlt:j<l.length:=qG hk2;rw[hk2] at hR c2;have HR:=Lib.hid (show R=thn (S (j+1)) fun s m=>sealS l S f (⟨43,1,nob,nob⟩,fr2 a s) m from hR);have C2:=Lib.hid c2;clear hk hk2 hR hn hu c2;go_wp2_with fail;refine c1.mono ?_;rintro en w2 ⟨rfl,u2⟩;have c2:=C2.out w2 u2;go_wp2_with fail;refine c2.mono ?_;rintro en w3 ⟨rfl,u3⟩;have c2:=C2.out w3 (Up.trans u2 u3);go_wp2_with fail;refine c2.mono ?_;rintro en w9 ⟨rfl,u9⟩;have cs:=CS.out (j+1) w9 (by omega) hlt (HU.out.trans ((Up.trans u2 u3).trans u9));go_wp2_with fail;refine cs.mono ?_;rintro en w4 ⟨vb,q,er,rfl,hV,u4⟩;obtain⟨pb,rfl⟩:=hV.ptr;have U4:Up wr w4:=((Up.trans u2 u3).trans u9).trans u4;have hnx:SeQ l S R i w ((w4.alloc (.cells #[.pointer (some ⟨o1,p1,none⟩),.pointer pb] 24)).alloc (.cells #[.int .i64 43,.int .i64 1,.string ⟨#[]⟩,.string ⟨#[]⟩,.slice (some ⟨w4.heap.size,0,none⟩) 2 2] 44)) (.int .i64 q) (.pointer (some ⟨w4.heap.size+1,0,none⟩)) (.int .i64 er):=
      SeQ.of (g:=fun s=>(⟨43,1,nob,nob⟩,fr2 a s)) (j:=j+1) (by omega) (HS.out (j+1) hlt) (by omega) hV HR.out (fun s hs=>zYz (by have:=HU.out.size;have:=U4.size;omega) (HN.out.up U4) (hs.base (by have:=HU.out.size;have:=((Up.trans u2 u3).trans u9).size;omega))) ⟨_,rfl⟩
     have hls:=SeQ.less hlt (HS.out (j+1) hlt) hV;have HNX:=Lib.hid hnx;have UF:=Lib.hid (((HU.out.trans U4).alloc (.cells #[.pointer (some ⟨o1,p1,none⟩),.pointer pb] 24)).alloc (.cells #[.int .i64 43,.int .i64 1,.string ⟨#[]⟩,.string ⟨#[]⟩,.slice (some ⟨w4.heap.size,0,none⟩) 2 2] 44));clear hV hnx u2 u3 u4 u9 U4 c1 C2 cs c2;go_wp2_with fail;exact⟨⟨HNX.out,UF.out⟩,hls⟩
    | false=>
     rw[hk,hk2] at hR;rw[hk2] at c2;have HR:=Lib.hid (show R = .inl (a,j) from hR);have C2:=Lib.hid c2;clear hk hk2 hR hn hu c2;go_wp2_with fail;refine c1.mono ?_;rintro en w2 ⟨rfl,u2⟩;have c2:=C2.out w2 u2;go_wp2_with fail;refine c2.mono ?_;rintro en w3 ⟨rfl,u3⟩;go_wp2_with fail
     go_ret3
     exact⟨_,_,_,rfl,by rw[HR.out];exact⟨HN.out.up (Up.trans u2 u3),rfl,rfl⟩,HU.out.trans (Up.trans u2 u3)⟩
end Go.Proofs.YtgeghilbikljcaaGreatDoor
