/-
  THE CARD AstKnownCardSaid: for every input AstKnown returns true, in every memory that holds the listed variables as the program's text lays them.
-/
import Derived.Test.YtcbfohokigamfaaGreatDoorNKnownLaw
import Derived.Test.YtcbfohokigamfaaGreatDoorLFacts
import Derived.Test.YtcbfohokigamfaaGreatDoorLCardKit
import Derived.OpenShut
import Derived.ChangeMaps5
namespace Go.Proofs.YtcbfohokigamfaaGreatDoor
namespace AstKnownCard
open Go.ChangeShapes Go.WideShapes Go.ChangeAt Go.RowKit

theorem args_of {args : Array Value} {l : List Value} (h : args.toList = l) : args = l.toArray := by subst h; simp
set_option maxRecDepth 100000 in
theorem contract (H : Type) (enc : TypeId × Value → H) (W : World) (base : Nat) (args : Array Value) (ds gs : List (DataW H)) (before : List MemPlace)
    (hval : ∀ (j : Nat) t v, Tryz.f9.params[j]? = some t → args[j]? = some v → Value.okWide Tryz.prog W .any base t v)
    (hW : DataW.Whole enc Tryz.prog Tryz.f9.params.toList Rows.astKnownSpec.vars false W args.toList ds gs before) (hL : laidMet Tryz.prog Rows.astKnownRow.laid W) (hsh : W.ShapedOpen Tryz.prog) :
    Calls Tryz.prog 9 args W fun e W' => ∃ v, e = .returned v ∧ Rows.astKnownSpec.post enc Tryz.prog Tryz.f9 false true false false W args v W' := by
  have HF := Lib.hid (Wit.facts_of hL hsh)
  clear hL
  have hW' := hW
  obtain ⟨p, q, hA0, hV, rfl, hfz, hnd⟩ := hW
  have hA : DataW.TrodAll enc Tryz.prog W 0 (fun _ => true) true Tryz.f9.params.toList args.toList ds p := hA0
  rw [Tryz.params9] at hA hval
  have hAA := Lib.hid hA
  obtain ⟨hargs, rfl, rfl⟩ := trodAll_nil hA
  obtain rfl : args = #[] := args_of hargs
  obtain ⟨rfl, rfl⟩ := trodVars_none hV
  refine (astKnown_law  W  HF.out).mono ?_
  rintro e W' ⟨rfl, hb⟩
  refine ⟨_, rfl, _, _, _, [], _, [], hW', ?_, below_all (by kernel_rfl) hb (by decide +kernel) hAA.out, rfl, hb.frame _, fun h => by cases h⟩
  exact trodAll_cons_mk (shut_bool Tryz.underlying4 _) trodAll_mk0

theorem reads (os : Os) {H : Type} (enc : TypeId × Value → H) : ∃ places, DataW.whole enc Tryz.prog ((Wit.laidWorld os).forCall (fun _ _ => 0) ⟨#[], #[], []⟩).memory Tryz.f9.params.toList Rows.astKnownSpec.vars false (#[] : Array Value).toList 8 = some ([], [], places) :=
  ⟨[], by kernel_rfl⟩
set_option maxRecDepth 100000 in
theorem lifted (os : Os) (started : os.Started) (H : Type) (enc : TypeId × Value → H) (F : Stop.Interp) :
    ReturnsInHanded {} Tryz.checked os 9 .any ((OpenSpec.ofChange Rows.astKnownSpec).preRow enc Tryz.prog Tryz.f9 Rows.astKnownRow.domain false Rows.astKnownRow.laid) (((OpenSpec.ofChange Rows.astKnownSpec).at F).post enc Tryz.prog Tryz.f9 false true false false) := by
  obtain ⟨places, hx⟩ := reads os enc
  refine returnsInHanded_of_row (C := Tryz.checked) (s := OpenSpec.ofChange Rows.astKnownSpec) Wit.own started (by kernel_rfl) Tryz.func9
    (witness_row_atRef (enc := enc) (C := Tryz.checked) false (Wit.laidWorld os) #[] rfl (Wit.variables_ref os _) (by kernel_rfl) (by kernel_rfl)
      (OpenSpec.preRow_of_cond 8 hx (by kernel_rfl) (fun k hk => by cases hk) (by kernel_rfl) (Wit.laid_met os _))) ?_
  intro W base args ds gs before hval hW _ _ _ hL hsh _
  exact contract H enc W base args ds gs before hval hW hL hsh
theorem j10 : (Rows.astKnownRow.inPlace == Tryz.pinned.checked.prog.inPlace 9) = true := by kernel_rfl
theorem j11 : (Rows.astKnownRow.unfollowed == Tryz.pinned.checked.prog.unfollowed 9) = true := by kernel_rfl
theorem j12 : (Rows.astKnownRow.recurses == Tryz.pinned.checked.prog.recurses 9) = true := by kernel_rfl
theorem j13 : (Rows.astKnownRow.named == Tryz.pinned.checked.prog.varsNamed 9) = true := by kernel_rfl
/-- (SPLIT: what a row must be closed under, part by part: one check of all takes more memory than a build may.) -/
theorem closed : joinedFacts Tryz.pinned.checked.prog 9 Tryz.f9 (OpenSpec.ofChange Rows.astKnownSpec).bare Rows.astKnownRow = true := by
  simp only [joinedFacts, Bool.and_eq_true]
  repeat' apply And.intro
  all_goals first | with_reducible exact j10 | with_reducible exact j11 | with_reducible exact j12 | with_reducible exact j13 | kernel_rfl
theorem said : Rows.AstKnownSaid :=
  OpenClaim.holds_of_cond 9 Tryz.f9 rfl rfl rfl rfl rfl rfl rfl ⟨rfl, rfl, rfl, rfl, rfl⟩ rfl rfl rfl rfl rfl (by kernel_rfl) Tryz.func9 closed
    (of_decide_eq_true (by kernel_rfl)) (by unfold Func.isWrapper; first | (rw [if_pos (by decide +kernel)]; kernel_rfl) | (rw [if_neg (by decide +kernel)]; exact ⟨rfl, rfl⟩))
    (fun os started H enc _ F => by rw [OpenClaim.pre_eq_preRow]; exact lifted os started H enc F)
/-- No parameter wants a stand-in; the program's own looks are on. -/
theorem plain (f : FuncId) (fn : Func) (hf : Tryz.pinned.checked.prog.funcNamed "emend/emendlaw10.AstKnown" = some f) (hfn : Tryz.pinned.checked.prog.funcs[f]? = some fn) :
    true = Tryz.pinned.checked.prog.looks [] ∧ ∀ (j : Nat) t, fn.params[j]? = some t → Tryz.pinned.checked.prog.wantsStandIn t = false := by
  obtain rfl : f = 9 := Option.some.inj ((show Tryz.prog.funcNamed "emend/emendlaw10.AstKnown" = some 9 by kernel_rfl).symm.trans hf) |>.symm
  obtain rfl : fn = Tryz.f9 := (Option.some.inj (Tryz.func9.symm.trans hfn)).symm
  refine ⟨by kernel_rfl, fun j t ht => ?_⟩
  rw [Tryz.params9] at ht
  simp at ht
end AstKnownCard
/-- ████ THE CARD ████ -/
theorem astKnown_card : Rows.AstKnownCardSaid :=
  Claim7.holds_tied_plain_at .later [] _ _ _ _ AstKnownCard.said (fun _ h => by cases h) (by kernel_rfl) (fun _ h => by cases h) astKnown_row_tie rfl ⟨rfl, rfl⟩ (by kernel_rfl) rfl AstKnownCard.plain (by kernel_rfl)
end Go.Proofs.YtcbfohokigamfaaGreatDoor
