/-
  THE CARD JtextKnownCardSaid: for every input JtextKnown returns true, in every memory that holds the listed variables as the program's text lays them.
-/
import Derived.Test.YtagpdaaebjljeaaDoorKnown
import Derived.Test.YtagpdaaebjljeaaDoorWit
import Derived.OpenShut
import Derived.ChangeMaps5
namespace Go.Proofs.YtagpdaaebjljeaaDoor
namespace JtextKnownCard
open Go.ChangeShapes Go.WideShapes Go.ChangeAt Go.RowKit

theorem args_of {args : Array Value} {l : List Value} (h : args.toList = l) : args = l.toArray := by subst h; simp
set_option maxRecDepth 100000 in
theorem contract (H : Type) (enc : TypeId × Value → H) (W : World) (args : Array Value) (ds gs : List (DataW H)) (before : List MemPlace)
    
    (hW : DataW.Whole enc Tryd.prog Tryd.f5.params.toList Rows.jtextKnownSpec.vars false W args.toList ds gs before) (hL : laidMet Tryd.prog Rows.jtextKnownRow.laid W) :
    Calls Tryd.prog 5 args W fun e W' => ∃ v, e = .returned v ∧ Rows.jtextKnownSpec.post enc Tryd.prog Tryd.f5 false true false false W args v W' := by
  have HF := Lib.hid (Wit.facts_of hL)
  clear hL
  have hW' := hW
  obtain ⟨p, q, hA0, hV, rfl, hfz, hnd⟩ := hW
  have hA : DataW.TrodAll enc Tryd.prog W 0 (fun _ => true) true Tryd.f5.params.toList args.toList ds p := hA0
  rw [Tryd.params5] at hA
  obtain ⟨hargs, rfl, rfl⟩ := trodAll_nil hA
  obtain rfl : args = #[] := args_of hargs
  obtain ⟨rfl, rfl⟩ := trodVars_none hV
  clear hA0
  simp only [List.append_nil] at hW'
  refine (known_walk  W HF.out).mono ?_
  rintro e W' ⟨rfl, hb⟩
  refine ⟨_, rfl, _, _, _, [], [], [], hW', ?_, ?_, rfl, hb.frame _, fun h => by cases h⟩
  · exact trodAll_cons_mk (shut_bool Tryd.underlying4 _) trodAll_mk0
  · exact trodAll_mk0

theorem reads (os : Os) {H : Type} (enc : TypeId × Value → H) : ∃ places, DataW.whole enc Tryd.prog ((Wit.laidWorld os).forCall (fun _ _ => 0) ⟨#[], #[], []⟩).memory Tryd.f5.params.toList Rows.jtextKnownSpec.vars false (#[] : Array Value).toList 8 = some ([], [], places) :=
  ⟨[], by kernel_rfl⟩
set_option maxRecDepth 100000 in
theorem lifted (os : Os) (started : os.Started) (H : Type) (enc : TypeId × Value → H) (F : Stop.Interp) :
    ReturnsInHanded {} Tryd.checked os 5 .any ((OpenSpec.ofChange Rows.jtextKnownSpec).preRow enc Tryd.prog Tryd.f5 Rows.jtextKnownRow.domain false Rows.jtextKnownRow.laid) (((OpenSpec.ofChange Rows.jtextKnownSpec).at F).post enc Tryd.prog Tryd.f5 false true false false) := by
  obtain ⟨places, hx⟩ := reads os enc
  refine returnsInHanded_of_row (C := Tryd.checked) (s := OpenSpec.ofChange Rows.jtextKnownSpec) Wit.own started (by kernel_rfl) Tryd.func5
    (witness_row_atRef (enc := enc) (C := Tryd.checked) false (Wit.laidWorld os) #[] rfl (Wit.variables_ref os _) (by kernel_rfl) (by kernel_rfl)
      (OpenSpec.preRow_of_cond 8 hx (by kernel_rfl) (fun k hk => by cases hk) (by kernel_rfl) (Wit.laid_met os _))) ?_
  intro W _ args ds gs before _ hW _ _ _ hL _ _
  exact contract H enc W args ds gs before hW hL
theorem said : Rows.JtextKnownSaid :=
  OpenClaim.holds_of_cond 5 Tryd.f5 rfl rfl rfl rfl rfl rfl rfl ⟨rfl, rfl, rfl, rfl, rfl⟩ rfl rfl rfl rfl rfl (by kernel_rfl) Tryd.func5 (by kernel_rfl)
    (of_decide_eq_true (by kernel_rfl)) (by unfold Func.isWrapper; first | (rw [if_pos (by decide +kernel)]; kernel_rfl) | (rw [if_neg (by decide +kernel)]; exact ⟨rfl, rfl⟩))
    (fun os started H enc _ F => by rw [OpenClaim.pre_eq_preRow]; exact lifted os started H enc F)
/-- No parameter wants a stand-in; the program's own looks are on. -/
theorem plain (f : FuncId) (fn : Func) (hf : Tryd.pinned.checked.prog.funcNamed "emend/emendlaw03.JtextKnown" = some f) (hfn : Tryd.pinned.checked.prog.funcs[f]? = some fn) :
    true = Tryd.pinned.checked.prog.looks [] ∧ ∀ (j : Nat) t, fn.params[j]? = some t → Tryd.pinned.checked.prog.wantsStandIn t = false := by
  obtain rfl : f = 5 := Option.some.inj ((show Tryd.prog.funcNamed "emend/emendlaw03.JtextKnown" = some 5 by kernel_rfl).symm.trans hf) |>.symm
  obtain rfl : fn = Tryd.f5 := (Option.some.inj (Tryd.func5.symm.trans hfn)).symm
  refine ⟨by kernel_rfl, fun j t ht => ?_⟩
  rw [Tryd.params5] at ht
  simp at ht
end JtextKnownCard
/-- ████ THE CARD ████ -/
theorem jtextKnown_card : Rows.JtextKnownCardSaid :=
  Claim7.holds_tied_plain_at .later [] _ _ _ _ JtextKnownCard.said (fun _ h => by cases h) (by kernel_rfl) (fun _ h => by cases h) jtextKnown_row_tie rfl ⟨rfl, rfl⟩ (by kernel_rfl) rfl JtextKnownCard.plain (by kernel_rfl)
end Go.Proofs.YtagpdaaebjljeaaDoor
