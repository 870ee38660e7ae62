/-
  PmodJoins, for every input: the law returns true, and what is handed in reads as it did. The variables of the library, of the lexer and of the parsers that the road reads are as the text lays them (the card ties them).
-/
import Derived.Test.YtgeghilbikljcaaGreatDoorGj31
import Derived.Test.YtgeghilbikljcaaGreatDoorCards
import Derived.Test.YtgeghilbikljcaaGreatDoorTie
set_option maxHeartbeats 40000000
set_option maxRecDepth 100000
namespace Go.Proofs.YtgeghilbikljcaaGreatDoor
open Go.ChangeShapes Go.WideShapes Go.ChangeAt Go.RowKit Go.Lib
open Go.ChangeMaps (open_string shut_string)
namespace rowPmodJoins
theorem laid_met (os:Os) (args:Array Value):laidMet Tryz.prog Rows.pmodJoinsRow.laid ((laidWorld os).forCall (fun _ _=>0) ⟨#[],args,[]⟩).memory:=
 laidMet_of_run' 8 (by kernel_rfl) (by kernel_rfl)
theorem witness_row (os:Os) {H:Type} (enc:TypeId×Value->H) :
  (OpenSpec.ofChange Rows.pmodJoinsSpec).preRow enc Tryz.prog Tryz.f6 Rows.pmodJoinsRow.domain false Rows.pmodJoinsRow.laid ((laidWorld os).forCall (fun _ _=>0) ⟨#[],#[.string ⟨#[]⟩,.string ⟨#[]⟩],[]⟩).memory #[.string ⟨#[]⟩,.string ⟨#[]⟩]:=by
 have hw:(DataW.whole enc Tryz.prog ((laidWorld os).forCall (fun _ _=>0) ⟨#[],#[.string ⟨#[]⟩,.string ⟨#[]⟩],[]⟩).memory Tryz.f6.params.toList Rows.pmodJoinsSpec.vars false #[Value.string ⟨#[]⟩,.string ⟨#[]⟩].toList 8).map (fun x=>(x.1,x.2.1)) =
   some ([.lit (.string []),.lit (.string [])],[]):=by kernel_rfl
 obtain⟨⟨x1,x2,x3⟩,hx,hx1⟩:=Option.map_eq_some_iff.1 hw;simp only[Prod.mk.injEq] at hx1;obtain⟨rfl,rfl⟩:=hx1;exact OpenSpec.preRow_of_cond 8 hx (by kernel_rfl) (fun k hk=>by cases hk) (by kernel_rfl) (laid_met os _)
theorem lifted (os:Os) (started:os.Started) (H:Type) (enc:TypeId×Value->H) (F:Stop.Interp) :
  ReturnsInHanded {} Tryz.checked os 6 .any ((OpenSpec.ofChange Rows.pmodJoinsSpec).preRow enc Tryz.prog Tryz.f6 Rows.pmodJoinsRow.domain false Rows.pmodJoinsRow.laid) (((OpenSpec.ofChange Rows.pmodJoinsSpec).at F).post enc Tryz.prog Tryz.f6 false true false false):=by
 refine returnsInHanded_of_row (C:=Tryz.checked) (s:=OpenSpec.ofChange Rows.pmodJoinsSpec) zZc started (by kernel_rfl) Tryz.func6
  (witness_row_atRef (enc:=enc) (C:=Tryz.checked) false (laidWorld os) #[.string ⟨#[]⟩,.string ⟨#[]⟩] rfl (by kernel_rfl) (by kernel_rfl) (by kernel_rfl) (witness_row os enc)) ?_
 intro W base args ds gs before hval0 hW _ _ _ hL hsh _;have hval:∀(j:Nat) t v,Tryz.f6.params[j]? = some t->args[j]? = some v->Value.okWide Tryz.prog W .any base t v:=hval0;have hW':=hW;obtain⟨p,q,hA0,hV0,rfl,_,_⟩:=hW;have hA:DataW.TrodAll enc Tryz.prog W 0 (fun _=>true) true Tryz.f6.params.toList args.toList ds p:=hA0;rw[Tryz.params6] at hA hval;obtain⟨v0,v1,d0,d1,p0,p1,rfl,rfl,rfl,h0,h1⟩:=trodAll_two hA;obtain⟨rfl,rfl⟩:=trodVars_none hV0;obtain⟨s0,rfl,rfl,rfl,ws0⟩:=open_string Tryz.underlying9 (hval 0 9 v0 rfl rfl) h0;obtain⟨s1,rfl,rfl,rfl,ws1⟩:=open_string Tryz.underlying9 (hval 1 9 v1 rfl rfl) h1;clear hA0 hV0 hval0;have hx:Vx7 W:=zJj hL (by kernel_rfl) hsh;refine(zUv s0 s1 W hx (by unfold maxLen at ws0;omega) (by unfold maxLen at ws1;omega)).mono ?_;rintro e W' ⟨rfl,bel⟩;have e1:((OpenSpec.ofChange Rows.pmodJoinsSpec).at F).fn H ([.lit (.string s0.data.toList),.lit (.string s1.data.toList)]++[])={results:=[.lit (.bool true)],args:=[.lit (.string s0.data.toList),.lit (.string s1.data.toList)]}:=rfl;refine⟨_,rfl,_,_,_,[],[]++[],[],hW',?_,?_,?_,bel.frame _,fun h=>by cases h⟩
 ·rw[e1];exact trodAll_mk1 (shut_bool Tryz.underlying4 _)
 ·rw[e1];exact trodAll_mk2 (shut_string Tryz.underlying9 ws0) (shut_string Tryz.underlying9 ws1)
 ·rw[e1];rfl
theorem bandI {a b:Bool} (h:a=true) (k:b=true):(a&&b)=true:=by rw[h,k];rfl
theorem said:Rows.PmodJoinsSaid:=
 OpenClaim.holds_of_cond 6 Tryz.f6 rfl rfl rfl rfl rfl rfl rfl ⟨rfl,rfl,rfl,rfl,rfl⟩ rfl rfl rfl rfl rfl (by as_aux_lemma=>kernel_rfl) Tryz.func6 (by obtain⟨P,hP⟩:∃P,Tryz.pinned.checked.prog=P:=⟨_,rfl⟩;rw[hP];unfold joinedFacts;refine bandI ?_ ?_;refine bandI ?_ ?_;refine bandI ?_ ?_;refine bandI ?_ ?_;refine bandI ?_ ?_;refine bandI ?_ ?_;refine bandI ?_ ?_;refine bandI ?_ ?_;refine bandI ?_ ?_;refine bandI ?_ ?_;refine bandI ?_ ?_;refine bandI ?_ ?_;refine bandI ?_ ?_;refine bandI ?_ ?_;refine bandI ?_ ?_;refine bandI ?_ ?_;refine bandI ?_ ?_;refine bandI ?_ ?_;refine bandI ?_ ?_;refine bandI ?_ ?_;refine bandI ?_ ?_;refine bandI ?_ ?_;refine bandI ?_ ?_;refine bandI ?_ ?_;refine bandI ?_ ?_;refine bandI ?_ ?_;refine bandI ?_ ?_;refine bandI ?_ ?_;refine bandI ?_ ?_;refine bandI ?_ ?_;refine bandI ?_ ?_;all_goals (subst hP;as_aux_lemma=>kernel_rfl))
  (of_decide_eq_true (by as_aux_lemma=>kernel_rfl)) (by unfold Func.isWrapper;first | (rw[if_pos (by decide +kernel)];kernel_rfl) | (rw[if_neg (by decide +kernel)];exact⟨rfl,rfl⟩))
  (fun os started H enc _ F0=>by rw[OpenClaim.pre_eq_preRow];exact lifted os started H enc F0)
theorem plain (f:FuncId) (fn:Func) (hf:Tryz.pinned.checked.prog.funcNamed "marquetry/marquetrylaw08.PmodJoins" = some f) (hfn:Tryz.pinned.checked.prog.funcs[f]? = some fn) :
  true=Tryz.pinned.checked.prog.looks []/\∀(j:Nat) t,fn.params[j]? = some t->Tryz.pinned.checked.prog.wantsStandIn t=false:=by
 obtain rfl:f=6:=Option.some.inj ((show Tryz.prog.funcNamed "marquetry/marquetrylaw08.PmodJoins" = some 6 by kernel_rfl).symm.trans hf) |>.symm;obtain rfl:fn=Tryz.f6:=(Option.some.inj (Tryz.func6.symm.trans hfn)).symm;refine⟨by kernel_rfl,fun j t ht=>?_⟩;rw[Tryz.params6] at ht;have hm:=Array.mem_of_getElem? ht
 simp at hm
 subst hm;exact(show Tryz.prog.wantsStandIn 9=false by kernel_rfl)
theorem card:Rows.PmodJoinsCardSaid:=
 Claim7.holds_tied_plain_at .later [] _ _ _ _ said (fun _ h=>by cases h) (by as_aux_lemma=>kernel_rfl) (fun _ h=>by cases h) pmodJoins_row_tie rfl ⟨rfl,rfl⟩ (by as_aux_lemma=>kernel_rfl) rfl plain (by as_aux_lemma=>kernel_rfl)
end rowPmodJoins
end Go.Proofs.YtgeghilbikljcaaGreatDoor
