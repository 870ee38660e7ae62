/-
  Layer 5, the program's kids and row over the program's own checks: what they tell is what the table's signs ask of the kids.
-/
import Derived.Test.YtgeghilbikljcaaGreatDoorGs40
set_option maxHeartbeats 40000000
set_option maxRecDepth 100000
namespace Go.Proofs.YtgeghilbikljcaaGreatDoor
open Go.RowKit
def seqK:List Inf->List Int->Bool
 | l,[]=>l.isEmpty
 | [],_::_=>false
 | i::t,c::r=>i.is c&&seqK t r
def rowB:List Int->Nat->(Inf->Bool)->List Inf->Bool
 | [],n,P,l=>decide (n<=l.length)&&l.all P
 | _::_,_,_,[]=>false
 | c::r,n,P,i::t=>i.is c&&rowB r n P t
theorem mD (n:Nat) (bs:Nat->Bool):allB (n+1) bs=(bs 0&&allB n fun i=>bs (i+1)):=by
 unfold allB;rw[List.range_succ_eq_map,List.all_cons,List.all_map]
 rfl
def atB (l:List Inf) (cs:List Int) (P:Inf->Bool) (i:Nat):Bool:=match l[i]?,cs[i]? with
 | some j,some c=>j.is c
 | some j,none=>P j
 | none,_=>true
theorem zX2:∀(cs:List Int) (l:List Inf) (P:Inf->Bool),(decide (l.length=cs.length)&&allB cs.length (atB l cs P))=seqK l cs
 | [],l,P=>by
  cases l with
  | nil=>rfl
  | cons i t=>rfl
 | c::r,[],P=>by
  show(decide (0=r.length+1)&&_)=false
  rw[decide_eq_false (by omega)]
  rfl
 | c::r,i::t,P=>by
  show(decide (t.length+1=r.length+1)&&allB (r.length+1) (atB (i::t) (c::r) P))=(i.is c&&seqK t r)
  rw[mD,<- zX2 r t P];have e:(fun j=>atB (i::t) (c::r) P (j+1))=atB t r P:=by funext j;rfl
  have e0:atB (i::t) (c::r) P 0=i.is c:=rfl;rw[e,e0]
  by_cases h:t.length=r.length
  ·rw[decide_eq_true h,decide_eq_true (by omega:t.length+1=r.length+1)]
   cases i.is c<;>rfl
  ·rw[decide_eq_false h,decide_eq_false (by omega:¬t.length+1=r.length+1)]
   cases i.is c<;>rfl
theorem iG (P:Inf->Bool):∀(l:List Inf),allB l.length (atB l [] P)=l.all P
 | []=>rfl
 | i::t=>by
  rw[List.length_cons,mD,List.all_cons,<- iG P t]
  rfl
theorem zX3 (n:Nat) (P:Inf->Bool):∀(cs:List Int) (l:List Inf),(decide (cs.length+n<=l.length)&&allB l.length (atB l cs P))=rowB cs n P l
 | [],l=>by
  rw[iG,List.length_nil,Nat.zero_add]
  rfl
 | c::r,[]=>by
  show(decide (r.length+1+n<=0)&&_)=false
  rw[decide_eq_false (by omega)]
  rfl
 | c::r,i::t=>by
  show(decide (r.length+1+n<=t.length+1)&&allB (t.length+1) (atB (i::t) (c::r) P))=(i.is c&&rowB r n P t)
  rw[mD,<- zX3 n P r t];have e:(fun j=>atB (i::t) (c::r) P (j+1))=atB t r P:=by funext j;rfl
  have e0:atB (i::t) (c::r) P 0=i.is c:=rfl;rw[e,e0]
  by_cases h:r.length+n<=t.length
  ·rw[decide_eq_true h,decide_eq_true (by omega:r.length+1+n<=t.length+1)]
   cases i.is c<;>rfl
  ·rw[decide_eq_false h,decide_eq_false (by omega:¬r.length+1+n<=t.length+1)]
   cases i.is c<;>rfl
theorem zO:∀(ks:List UInt8) (l:List Inf),zJ2 ks=true->seqOk l ks=seqK l (ks.map catOf)
 | [],l,_=>by
  unfold seqOk seqK
  rfl
 | c::r,l,h=>by
  unfold zJ2 at h;rw[List.all_cons,Bool.and_eq_true] at h;have h1:=h.1;simp only[Bool.and_eq_true,decide_eq_true_eq] at h1;unfold seqOk;rw[if_neg h1.1.1,if_neg h1.1.2,if_neg h1.2]
  cases l with
  | nil=>rfl
  | cons i t=>
   show(i.is (catOf c)&&seqOk t r)=(i.is (catOf c)&&seqK t (r.map catOf))
   rw[zO r t h.2]
theorem tF (l:List Inf):(!l.isEmpty)=decide (1<=l.length):=by
 cases l with
 | nil=>rfl
 | cons i t=>rw[List.length_cons,decide_eq_true (by omega)];rfl
theorem zS4 (l:List Inf):seqOk l [65]=(!l.isEmpty&&l.all fun i=>i.is 9):=by cases l<;>rfl
theorem zJ8 (l:List Inf):seqOk l [101,65]=rowB [2] 1 (fun i=>i.is 9) l:=by
 cases l with
 | nil=>rfl
 | cons i t=>
  show(i.is 2&&seqOk t [65])=(i.is 2&&(decide (1<=t.length)&&t.all fun i=>i.is 9))
  rw[<- tF,zS4]
theorem zQs (l:List Inf):seqOk l [101,116,65]=rowB [2,1] 1 (fun i=>i.is 9) l:=by
 cases l with
 | nil=>rfl
 | cons i t=>
  cases t with
  | nil=>rfl
  | cons j t=>
   show(i.is 2&&(j.is 1&&seqOk t [65]))=(i.is 2&&(j.is 1&&(decide (1<=t.length)&&t.all fun i=>i.is 9)))
   rw[<- tF,zS4]
theorem tG (P:Inf->Bool) (l:List Inf):rowB [] 0 P l=l.all P:=by
 show(decide (0<=l.length)&&l.all P)=_
 rw[decide_eq_true (by omega)]
 rfl
abbrev IT (t:Tr):Inf:=infT B.nck B.long t
abbrev IF (f:Fr):List Inf:=infF B.nck B.long f
def TelAt (k:FuncId) (b:Bool) (t:Tr):Prop:=∀(w:World) (v:Value),B.Nx w->HasT w v (some t)->Calls Tryz.prog k #[v] w (TelB b w)
def fnC (c:Int):FuncId:=if c=1 then 107 else if c=2 then 106 else if c=3 then 109 else 110
theorem zEc (c:Int):Ent (fnC c):=by
 unfold fnC
 split
 ·exact fun _ _=>by kernel_rfl
 ·skip
  split
  ·exact fun _ _=>by kernel_rfl
  ·skip
   split
   ·exact fun _ _=>by kernel_rfl
   ·exact fun _ _=>by kernel_rfl
def fnsC (cs:List Int):List (FuncId×Array Value):=cs.map fun c=>(fnC c,#[])
theorem vE (cs:List Int):(fnsC cs).length=cs.length:=List.length_map _
theorem zX4 {cs:List Int} {i:Nat} {k:FuncId} {cap:Array Value} (h:(fnsC cs)[i]? = some (k,cap)):∃c,cs[i]? = some c/\k=fnC c/\cap=#[]:=by
 unfold fnsC at h;rw[List.getElem?_map] at h;obtain⟨c,hc,he⟩:=Option.map_eq_some_iff.1 h;injection he with h1 h2;exact⟨c,hc,h1.symm,h2.symm⟩
theorem zBf {w w':World} (h:w.grownBy w' none):Up w w':=(Below.refl w.heap.size w).grown h (Nat.le_refl _) fun g hg=>by cases hg
theorem zX5 {b:Bool} {P:Program} {k:FuncId} {args:Array Value} {w:World} (h:Calls P k args w (TelX b none w)):Calls P k args w (TelB b w):=h.mono fun _ _ h=>⟨h.1,zBf h.2⟩
theorem uX {f:Fr} {cs:List Int} {P:Inf->Bool} {i:Nat} {t:Tr} (h:f.get i=some t):atB (IF f) cs P i=match cs[i]? with | some c=>(IT t).is c | none=>P (IT t):=by
 unfold atB;rw[bZ,h]
 cases cs[i]?<;>rfl
theorem qK (cs:List Int) (x:Nod) (f:Fr) (w:World) (v:Value) (A:Option Addr) (c:Nat) (hx:B.Nx w) (hv:HasT w v (some (x,f))) (hf:f.len<=100000) (hcs:cs.length<=3) (hA:Fns w none A (fnsC cs))
  (hI:∀(i:Nat) (t:Tr) (c:Int),f.get i=some t->c∈cs->TelAt (fnC c) (isT B.nck B.long t c) t) :
  Calls Tryz.prog 102 #[v,.slice A cs.length c] w (TelB (seqK (IF f) cs) w):=by
 have h:=iF w w v x f hv (Up.refl w) (by omega) A c (fnsC cs) (by rw[vE];omega) none hA (fun m hm=>by cases hm) (atB (IF f) cs fun _=>true) (fun _ _=>True) trivial
  (fun i t kv w' k cap h1 h2 h3 h4 _=>by
   obtain⟨c,hc,rfl,rfl⟩:=zX4 h2;refine⟨zEc c,((hI i t c h1 (List.mem_of_getElem? hc)) w' kv (Nx.up hx h4) (HasT.up h3 h4)).mono fun e w'' h=>⟨⟨?_,kD h.2 (Nat.le_refl _)⟩,fun _=>trivial⟩⟩;rw[h.1,uX h1,hc]
   rfl)
 rw[vE,<- xZ (nk:=B.nck) (lg:=B.long),zX2] at h;exact zX5 h
theorem pS (cs:List Int) (least:Nat) (k:FuncId) (P:Inf->Bool) (x:Nod) (f:Fr) (w:World) (v:Value) (A:Option Addr) (c:Nat) (hk:Ent k) (hl:least<=1) (hx:B.Nx w) (hv:HasT w v (some (x,f))) (hf:f.len<=100000) (hcs:cs.length<=2)
  (hA:Rds w (.slice A cs.length c) ((fnsC cs).map fnV)) (hI:∀(i:Nat) (t:Tr) (c:Int),f.get i=some t->c∈cs->TelAt (fnC c) (isT B.nck B.long t c) t)
  (hK:∀(i:Nat) (t:Tr),f.get i=some t->TelAt k (P (IT t)) t) :
  Calls Tryz.prog 61 #[v,.int .i64 (least:Int),.func (.func k) #[] #[],.slice A cs.length c] w (TelB (rowB cs least P (IF f)) w):=by
 have h:=zX0 w w v x f hv (Up.refl w) hf least hl (k,#[]) A c (fnsC cs) (by rw[vE];exact hcs) (by rw[vE];exact hA) none (fun m hm=>by cases hm) (atB (IF f) cs P) (fun _ _=>True) (fun _ _=>trivial)
  (fun i t kv w' k' cap h1 h2 h3 h4 _=>by
   rw[List.getElem?_append] at h2
   split at h2
   ·obtain⟨c,hc,rfl,rfl⟩:=zX4 h2
    refine⟨zEc c,((hI i t c h1 (List.mem_of_getElem? hc)) w' kv (Nx.up hx h4) (HasT.up h3 h4)).mono fun e w'' h=>⟨⟨?_,kD h.2 (Nat.le_refl _)⟩,fun _=>trivial⟩⟩;rw[h.1,uX h1,hc]
    rfl
   ·rename_i hi
    rw[vE] at hi;rw[List.getElem?_replicate] at h2
    split at h2
    ·injection h2 with h2
     injection h2 with h5 h6;subst h5;subst h6;refine⟨hk,((hK i t h1) w' kv (Nx.up hx h4) (HasT.up h3 h4)).mono fun e w'' h=>⟨⟨?_,kD h.2 (Nat.le_refl _)⟩,fun _=>trivial⟩⟩;rw[h.1,uX h1,List.getElem?_eq_none (by omega)]
    ·cases h2)
 rw[vE,<- xZ (nk:=B.nck) (lg:=B.long),zX3] at h;exact zX5 h
end Go.Proofs.YtgeghilbikljcaaGreatDoor
namespace Go.Proofs.YtgeghilbikljcaaGreatDoor
open Go.RowKit Go.Maps
def conB (l:List ByteArray) (t:Tr):Bool:=!hasC l t.1.a&&isT B.nck B.long t 8
def zFs (t:Tr) (l:List ByteArray) (pb mb:Nat) (w:World) (e:Ending) (w':World):Prop:=TelX (conB l t) (some mb) w e w'/\StC w' pb mb (l++[t.1.a])
theorem zBg:∀r∈RWS,r.cat=8->r.kind=8:=by decide
theorem isT8 (x:Nod) (f:Fr):isT B.nck B.long (x,f) 8=(decide (x.k=8)&&texB x B.nck isEmp&&seqK (IF f) [1]):=by
 by_cases h:x.k=8
 ·rw[decide_eq_true h]
  show isX B.nck B.long x (IF f) 8=_
  rw[qL h (by rfl),yE (A:=B.nck) (M:=isEmp) (fun _=>rfl) (fun _=>rfl),zO _ _ (by rfl)]
  rfl
 ·rw[decide_eq_false h]
  exact jZ fun r hr hc e=>h (by rw[<- e];exact zBg r hr hc)
theorem zJ {w:World} {H:Nat} {ty:TypeId} (fs:List (FuncId×Array Value)) (hg:w.heap[H]? = some (.cells (fs.map fnV).toArray ty (0,0))):Fns w none (some ⟨H,0,none⟩) fs:=fun j k cap hj=>by
 refine⟨H,0,rfl,(fun e=>by cases e),?_⟩;rw[Nat.zero_add,cell_of_row w H j _ _ _ hg,List.getElem?_toArray,List.getElem?_map,hj]
 rfl
theorem zFt (W w:World) (x:Nod) (f:Fr) (l:List ByteArray) (kv:Value) (pb mb:Nat) (hx:B.Nx W) (hv:HasT W kv (some (x,f))) (hu:Up W w) (hmb:W.heap.size<=mb) (hst:StC w pb mb l) (hs:okST (x,f)) (hl:l.length<=100000) (hf:f.len<=100000)
  (hI:∀(i:Nat) (t:Tr),f.get i=some t->TelAt (fnC 1) (isT B.nck B.long t 1) t) :
  Calls Tryz.prog 148 #[kv,.pointer (some ⟨pb,0,none⟩)] w (zFs (x,f) l pb mb w):=by
 obtain⟨q,p,A,c,rfl,hq,c0,c1,c2,c3,c4,hcc,hkid⟩:=InT.open hv;have k0:=hu.cell c0;have k2:=hu.cell c2;have kp:w.cell? ⟨pb,0,none⟩=some (.map (some mb)):=cell_of_row w pb 0 _ _ _ hst.1;have hsa:x.a.size<=2000000000:=by have h:x.a.size<=1000000000:=hs.1;omega
 have hl1:(Instr.lookup 148 (.map (some mb)) (.string x.a) true).run Tryz.prog w.drew = .ok (.tuple #[.agg #[],.bool (hasC l x.a)]) w.drew:=lookC (l:=l) (xG hst.2.2 (Below.refl _ _).drew) hsa;have hbA:Below w.heap.size w (w.alloc (.cells #[] 149)):=(Below.refl _ _).alloc (Nat.le_refl _) _;have k2':=hbA.cell (zQ k2) |>.trans k2;have kp':=hbA.cell (zQ kp) |>.trans kp;have hl2:(Instr.lookup 148 (.map (some mb)) (.string x.a) true).run Tryz.prog (w.alloc (.cells #[] 149)).drew = .ok (.tuple #[.agg #[],.bool (hasC l x.a)]) (w.alloc (.cells #[] 149)).drew:=lookC (l:=l) (xG hst.2.2 hbA.drew) hsa;have HBA:=Lib.hid hbA;have K2:=Lib.hid k2;have KP:=Lib.hid kp;have C0:=Lib.hid c0;have HST:=Lib.hid hst;have HV:=Lib.hid hv;have HU:=Lib.hid hu;have HS:=Lib.hid hs;have HI:=Lib.hid hI;clear c0 c1 c2 c3 c4 hcc hkid hst hv hu hs hI hbA;obtain⟨tw,htw⟩:∃tw,hasC l x.a=tw:=⟨_,rfl⟩;rw[htw] at hl1 hl2;have HTW:=Lib.hid htw;clear htw
 go_enter Tryz.func148,Tryz.ntmps148
 go_wp2_with fail
 go_region
 all_goals
  clear k2 kp hl1 hl2 k2' kp' k0;obtain⟨w1,hw1⟩:∃w1,(w.alloc (.cells #[] 149)).drew=w1:=⟨_,rfl⟩;rw[hw1];have b1:Below w.heap.size w w1:=by rw[<- hw1];exact HBA.out.drew
  have u1:Up W w1:=HU.out.trans b1;have st1:=HST.out.below b1;have k2:=b1.cell (zQ K2.out) |>.trans K2.out;have kp:=b1.cell (zQ KP.out) |>.trans KP.out;obtain⟨w3,hup,hown,hg3⟩:=oM (w:=w1.drew) (xG st1.2.2 (Below.refl _ _).drew) hsa (by omega);have st3:StC w3 pb mb (l++[x.a]):=⟨yT (w:=w1.drew) hg3 st1.1 st1.2.1,st1.2.1,hown⟩;have g3:w.grownBy w3 (some mb):=kV (kD b1 (Nat.le_refl _)) (kV (kD (B:=w1.heap.size) (Below.refl w1.heap.size w1).drew (Nat.le_refl _)) hg3);have u3:Up W w3:=zEb HU.out g3 fun m hm=>by injection hm with hm;rw[<- hm];exact hmb
  have k0:=u3.cell C0.out;have ST3:=Lib.hid st3;have G3:=Lib.hid g3;have U3:=Lib.hid u3;clear st1 st3 g3 u1 u3 hw1 b1 hown hg3;go_wp2_with fail
  go_region
  cases tw
  ·by_cases hk:x.k=8
   ·have HCB:Hid (conB l (x,f)=(texB x B.nck isEmp&&seqK (IF f) [1])):=Lib.hid (by unfold conB;show(!hasC l x.a&&_)=_;rw[HTW.out,isT8,decide_eq_true hk];cases texB x B.nck isEmp<;>rfl)
    have cN:=zZ x f w3 (.pointer (some ⟨q,p,none⟩)) (HV.out.up U3.out) HS.out.1;obtain⟨nb,hnb⟩:∃nb,texB x B.nck isEmp=nb:=⟨_,rfl⟩;rw[hnb] at cN;have HNB:=Lib.hid hnb;clear hnb
    cases nb
    ·go_wp2_with fail
     refine cN.mono ?_;rintro e w4 ⟨rfl,u4⟩;go_wp2_with fail
     go_ret
     exact⟨xA (by rw[HCB.out,HNB.out];rfl) (kV G3.out (kD u4 (Nat.le_refl _))),ST3.out.below u4⟩
    ·go_wp2_with fail
     refine cN.mono ?_;rintro e w4 ⟨rfl,u4⟩;have cK:=qK [1] x f (w4.alloc (.cells #[.func (.func 107) #[] #[]] 91)) (.pointer (some ⟨q,p,none⟩)) (some ⟨w4.heap.size,0,none⟩) 1 (Nx.up hx ((U3.out.trans u4).alloc _)) (HV.out.up ((U3.out.trans u4).alloc _)) hf (by decide)
      (zJ (fnsC [1]) (heap_alloc_new w4 _)) (fun i t c h hc=>by rw[List.mem_singleton.1 hc];exact HI.out i t h)
     have u5:Up w3 (w4.alloc (.cells #[.func (.func 107) #[] #[]] 91)):=u4.alloc _;have U5:=Lib.hid u5;clear u4 u5;go_wp2_with fail;refine cK.mono ?_;rintro e w5 ⟨rfl,u6⟩;go_wp2_with fail
     go_ret
     exact⟨xA (by rw[HCB.out,HNB.out];rfl) (kV G3.out (kD (U5.out.trans u6) (Nat.le_refl _))),ST3.out.below (U5.out.trans u6)⟩
   ·go_wp2_with fail
    go_ret
    exact⟨xA (by unfold conB;rw[isT8,decide_eq_false hk];show(_&&false)=_;rw[Bool.and_false]) G3.out,ST3.out⟩
  ·go_wp2_with fail
   go_ret
   exact⟨xA (by unfold conB;show(!hasC l x.a&&_)=_;rw[HTW.out];rfl) G3.out,ST3.out⟩
theorem zX6 (p q:Inf->Bool):∀l:List Inf,(l.all fun x=>p x&&q x)=(l.all p&&l.all q)
 | []=>rfl
 | i::t=>by
  rw[List.all_cons,List.all_cons,List.all_cons,zX6 p q t]
  cases p i<;>cases q i<;>cases t.all p<;>cases t.all q<;>rfl
theorem zQt (l:List ByteArray) (a s:ByteArray):hasC (l++[a]) s=(hasC l s||decide (a=s)):=by
 rw[Bool.eq_iff_iff,Bool.or_eq_true,decide_eq_true_eq];unfold hasC;rw[nR,nR,List.mem_append,List.mem_singleton]
 constructor
 ·rintro(h | h)
  ·exact .inl h
  ·exact .inr h.symm
 ·rintro(h | h)
  ·exact .inl h
  ·exact .inr h.symm
def conAt (ahead:List ByteArray) (l:List Inf) (i:Nat):Bool:=match l[i]? with
 | some j=>!hasC (ahead++(l.take i).map (·.a)) j.a&&j.is 8
 | none=>true
theorem zS5:∀(l:List Inf) (ahead:List ByteArray),allB l.length (conAt ahead l)=(l.all (fun j=>j.is 8)&&jT l&&l.all fun j=>!hasC ahead j.a)
 | [],_=>rfl
 | i::t,ahead=>by
  rw[List.length_cons,mD];have e:(fun j=>conAt ahead (i::t) (j+1))=conAt (ahead++[i.a]) t:=by
   funext j
   unfold conAt;rw[List.getElem?_cons_succ,List.take_succ_cons,List.map_cons];simp only[List.append_assoc,List.cons_append,List.nil_append]
  have e0:conAt ahead (i::t) 0=(!hasC ahead i.a&&i.is 8):=by
   unfold conAt
   simp
  rw[e,e0,zS5 t (ahead++[i.a])];have e1:(t.all fun j=>!hasC (ahead++[i.a]) j.a)=((t.all fun j=>!hasC ahead j.a)&&t.all fun j=>decide (i.a≠j.a)):=by
   rw[<- zX6]
   congr 1
   funext j
   rw[zQt]
   by_cases h:i.a=j.a
   ·rw[decide_eq_true h,decide_eq_false (by simpa using h)]
    cases hasC ahead j.a<;>rfl
   ·rw[decide_eq_false h,decide_eq_true h]
    cases hasC ahead j.a<;>rfl
  rw[e1,List.all_cons,List.all_cons]
  show _=(i.is 8&&t.all (fun j=>j.is 8)&&((t.all fun j=>decide (i.a≠j.a))&&jT t)&&(!hasC ahead i.a&&t.all fun j=>!hasC ahead j.a))
  cases hasC ahead i.a<;>cases i.is 8<;>cases t.all (fun j=>j.is 8)<;>cases jT t<;>cases (t.all fun j=>!hasC ahead j.a)<;>cases (t.all fun j=>decide (i.a≠j.a))<;>rfl
theorem zFu (l:List Inf):(decide (0+1<=l.length)&&allB l.length (conAt [] l))=seqOk l [67]:=by
 rw[zS5,Nat.zero_add,<- tF];have e:(l.all fun j=>!hasC [] j.a)=true:=by
  rw[List.all_eq_true];intro j _;have:hasC [] j.a=false:=by
   rw[Bool.eq_false_iff];intro h;unfold hasC at h;rw[nR] at h
   cases h
  rw[this]
  rfl
 rw[e,Bool.and_true]
 cases l<;>rfl
def gB (f:Fr) (i:Nat):List ByteArray:=((IF f).take i).map (·.a)
theorem zX7 {f:Fr} {i:Nat} {t:Tr} (h:f.get i=some t):gB f (i+1)=gB f i++[t.1.a]:=by
 unfold gB;have hg:(IF f)[i]? = some (IT t):=by rw[bZ,h];rfl
 rw[List.take_add_one,hg,List.map_append]
 rfl
theorem zVn (f:Fr) (i:Nat):(gB f i).length<=f.len:=by
 unfold gB;rw[List.length_map,List.length_take,xZ];omega
theorem zFv {f:Fr} {i:Nat} {t:Tr} (h:f.get i=some t):conAt [] (IF f) i=conB (gB f i) t:=by
 have hg:(IF f)[i]? = some (IT t):=by rw[bZ,h];rfl
 unfold conAt;rw[hg]
 rfl
theorem tH (x:Nod) (f:Fr) (w:World) (v:Value) (hx:B.Nx w) (hv:HasT w v (some (x,f))) (hs:okST (x,f)) (hf:f.len<=100000)
  (hI:∀(i:Nat) (t:Tr),f.get i=some t->t.2.len<=100000/\∀(j:Nat) (s:Tr),t.2.get j=some s->TelAt (fnC 1) (isT B.nck B.long s 1) s) :
  Calls Tryz.prog 108 #[v] w (TelB (seqOk (IF f) [67]) w):=by
 obtain⟨q,p,rfl⟩:=InT.ptr hv;obtain⟨H,hH⟩:∃H,w.heap.size=H:=⟨_,rfl⟩;obtain⟨W0,hW0⟩:∃W0,(w.alloc (.map #[] 0)).alloc (.cells #[.map (some H)] 148)=W0:=⟨_,rfl⟩;have s1:(w.alloc (.map #[] 0)).heap.size=H+1:=by simp[hH]
 have b0:Below w.heap.size w W0:=by rw[<- hW0];exact((Below.refl w.heap.size w).alloc (Nat.le_refl _) _).alloc (by omega) _
 have hs0:W0.heap.size=H+2:=by rw[<- hW0];simp[hH]
 have st0:StC W0 (H+1) H []:=by
  refine⟨?_,by omega,?_⟩
  ·rw[<- hW0,<- s1];exact heap_alloc_new _ _
  ·have hm:(w.alloc (.map #[] 0)).ownsMap Tryz.prog 9 (unitElem (H:=Unit)) w.heap.size 0 (.map []):=World.ownsMap_made _ _ _ _
   rw[hH] at hm;rw[<- hW0];exact xG hm ((Below.refl _ _).alloc (Nat.le_refl _) _)
 have cR:=zX0 w W0 (.pointer (some ⟨q,p,none⟩)) x f hv b0 hf 1 (by omega) (148,#[.pointer (some ⟨H+1,0,none⟩)]) none 0 [] (by decide) (.inl ⟨rfl,rfl⟩) (some H) (fun m hm=>by injection hm with hm;omega)
  (conAt [] (IF f)) (fun i w'=>StC w' (H+1) H (gB f i)) (fun w' hb=>st0.below hb)
  (fun i t kv w' k cap h1 h2 h3 h4 h5=>by
   rw[List.nil_append,List.getElem?_replicate] at h2
   split at h2
   ·injection h2 with h2
    injection h2 with h6 h7;subst h6;subst h7;refine⟨fun _ _=>by kernel_rfl,(zFt w w' t.1 t.2 (gB f i) kv (H+1) H hx h3 h4 (by omega) h5 (uV hs.2.2 h1) (by have:=zVn f i;omega) (hI i t h1).1 (fun j s hj=>(hI i t h1).2 j s hj)).mono fun e w'' h=>?_⟩;rw[zFv h1,zX7 h1];exact⟨h.1,fun _=>h.2⟩
   ·cases h2)
 rw[<- xZ (nk:=B.nck) (lg:=B.long),List.length_nil,zFu] at cR;obtain⟨b,hb⟩:∃b,seqOk (IF f) [67]=b:=⟨_,rfl⟩;rw[hb] at cR ⊢;have B0:=Lib.hid b0;have hmm:(Instr.makeMap 148 none).run Tryz.prog w = .ok (.map (some H)) (w.alloc (.map #[] 0)):=by rw[<- hH];kernel_rfl
 have HH:=Lib.hid hH;have HW:=Lib.hid hW0;clear hv hs hI b0 st0 hs0 hb hH hW0
 go_enter Tryz.func108,Tryz.ntmps108
 go_wp2_with fail;rw[HW.out];refine cR.mono ?_;rintro e w1 ⟨rfl,g1⟩;go_wp2_with fail
 go_ret
 exact qD rfl (B0.out.grown g1 B0.out.size fun g hg=>by injection hg with hg;rw[<- hg,HH.out];exact Nat.le_refl _)
end Go.Proofs.YtgeghilbikljcaaGreatDoor
namespace Go.Proofs.YtgeghilbikljcaaGreatDoor
open Go.RowKit
def inM (i:Inf):Bool:=!decide (i.k=74) && !decide (i.k=75)&&i.is 6
structure Good (t:Tr):Prop where
 a1:TelAt 107 (isT B.nck B.long t 1) t
 a2:TelAt 106 (isT B.nck B.long t 2) t
 a3:TelAt 109 (isT B.nck B.long t 3) t
 a4:TelAt 110 (isT B.nck B.long t 4) t
 a5:TelAt 150 (isT B.nck B.long t 5) t
 a6:TelAt 62 (isT B.nck B.long t 6) t
 a9:TelAt 147 (isT B.nck B.long t 9) t
 am:TelAt 149 (inM (IT t)) t
 ln:t.2.len<=100000
 kk:∀(j:Nat) (s:Tr),t.2.get j=some s->TelAt (fnC 1) (isT B.nck B.long s 1) s
structure Nd1 (x:Nod) (f:Fr):Prop where
 hs:okST (x,f)
 hf:f.len<=100000
 ih:∀(i:Nat) (t:Tr),f.get i=some t->Good t
theorem zBh {t:Tr} (h:Good t) {c:Int} (hc:c=1\/c=2\/c=3\/c=4):TelAt (fnC c) (isT B.nck B.long t c) t:=by
 rcases hc with rfl | rfl | rfl | rfl
 ·exact h.a1
 ·exact h.a2
 ·exact h.a3
 ·exact h.a4
theorem qQ {x:Nod} {f:Fr} {cs:List Int} (h:Nd1 x f) (hcs:∀c∈cs,c=1\/c=2\/c=3\/c=4):∀(i:Nat) (t:Tr) (c:Int),f.get i=some t->c∈cs->TelAt (fnC c) (isT B.nck B.long t c) t:=fun i t c hi hc=>zBh (h.ih i t hi) (hcs c hc)
theorem zS6 {w:World} {H:Nat} {ty:TypeId} (cs:List Int) (hg:w.heap[H]? = some (.cells ((fnsC cs).map fnV).toArray ty (0,0))):Rds w (.slice (some ⟨H,0,none⟩) cs.length cs.length) ((fnsC cs).map fnV):=by
 refine .inr ⟨H,0,cs.length,by rw[List.length_map,vE],qC hg,fun j u hj=>?_⟩;rw[Nat.zero_add,cell_of_row w H j _ _ _ hg,List.getElem?_toArray];exact hj
theorem zJ9 (l:List Inf):seqOk l [42,105]=rowB [] 0 inM l:=by
 rw[tG];have h:seqOk l [42,105]=(l.all fun i=>i.is 6 && !(true&&(decide (i.k=74)||decide (i.k=75)))):=by cases l<;>rfl
 rw[h]
 congr 1
 funext i
 unfold inM
 cases i.is 6<;>cases decide (i.k=74)<;>cases decide (i.k=75)<;>rfl
theorem zJa (l:List Inf):seqOk l [42,112]=rowB [] 0 (fun i=>i.is 5) l:=by
 rw[tG];have h:seqOk l [42,112]=(l.all fun i=>i.is 5 && !(false&&(decide (i.k=74)||decide (i.k=75)))):=by cases l<;>rfl
 rw[h]
 congr 1
 funext i
 cases i.is 5<;>rfl
theorem zJb (l:List Inf):seqOk l [42,100]=rowB [] 0 (fun i=>i.is 6) l:=by
 rw[tG];have h:seqOk l [42,100]=(l.all fun i=>i.is 6 && !(false&&(decide (i.k=74)||decide (i.k=75)))):=by cases l<;>rfl
 rw[h]
 congr 1
 funext i
 cases i.is 6<;>rfl
end Go.Proofs.YtgeghilbikljcaaGreatDoor
