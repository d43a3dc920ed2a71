/-
  WHATEVER THE INPUT, LinesRise RETURNS TRUE; the input reads as it did. No condition.
-/
import Derived.Test.YtlgjlfljohapfaaRows
import Derived.Test.YtlgjlfljohapfaaRiseLaw
import Derived.Test.YtlgjlfljohapfaaCardKit2
import Derived.WalkKit
import Derived.ProofKit
import Derived.OpenShut
import Derived.ShutString
import Derived.Lib.SmallJoins
namespace Go.Proofs.Ytlgjlfljohapfaa.linesRise
open Go.ChangeShapes Go.WideShapes Go.ChangeAt Go.RowKit Go.Joins
open Go.ChangeMaps (open_string shut_string)

theorem own : ownKnob Try.prog.godebug = none := by kernel_rfl
theorem args_of {args : Array Value} {l : List Value} (h : args.toList = l) : args = l.toArray := by subst h; simp
theorem wfu16 {a : Int} (h : (Lit.int .u16 a).wf = true) : 0 ≤ a ∧ a ≤ 65535 := by
  unfold Lit.wf at h
  rw [Bool.and_eq_true, decide_eq_true_eq, decide_eq_true_eq] at h
  exact h
set_option maxRecDepth 100000 in
theorem lifted (os : Os) (started : os.Started) (H : Type) (enc : TypeId × Value → H) :
    ReturnsInHanded {} Try.checked os 11 .any (Rows.linesRiseSpec.pre6 enc Try.prog Try.f11 Rows.linesRiseRow.domain false) (Rows.linesRiseSpec.post enc Try.prog Try.f11 false true false false) := by
  refine returnsInHanded_of_change (C := Try.checked) own started (by kernel_rfl) Try.func11
    (ChangeSpec.witness6 (enc := enc) (C := Try.checked) false ⟨#[], #[.string ByteArray.empty, .agg #[.int .u16 0, .int .u16 0], .agg #[.int .u16 0, .int .u16 0]], []⟩ 8 (by kernel_rfl) (by kernel_rfl) (by kernel_rfl) (by kernel_rfl)) ?_
  intro W base args ds gs before hval0 hW hcnd _
  have hval : ∀ (j : Nat) t v, Try.f11.params[j]? = some t → args[j]? = some v → Value.okWide Try.prog W .any base t v := hval0
  have hW' := hW
  obtain ⟨p, q, hA0, hV, rfl, hfz, hnd⟩ := hW
  have hA : DataW.TrodAll enc Try.prog W 0 (fun _ => true) true Try.f11.params.toList args.toList ds p := hA0
  rw [Try.params11] at hA hval
  have hAA := Lib.hid hA
  obtain ⟨v0, vs0, d0, ds0, p0, q0, hargs, rfl, rfl, h0, r0⟩ := trodAll_cons hA
  obtain ⟨v1, vs1, d1, ds1, p1, q1, rfl, rfl, rfl, h1, r1⟩ := trodAll_cons r0
  obtain ⟨v2, vs2, d2, ds2, p2, q2, rfl, rfl, rfl, h2, r2⟩ := trodAll_cons r1
  obtain ⟨rfl, rfl, rfl⟩ := trodAll_nil r2
  obtain rfl : args = #[v0, v1, v2] := args_of hargs
  obtain ⟨rfl, rfl⟩ := trodVars_none hV
  obtain ⟨a0, rfl, rfl, rfl, w0⟩ := open_string Try.underlying9 (hval 0 9 v0 rfl rfl) h0
  obtain ⟨a10, a11, rfl, w10, w11⟩ := open_arr2 Try.underlying76 Try.underlying75 (by kernel_rfl) (by kernel_rfl) (hval 1 76 v1 rfl rfl) h1
  have ba10 := wfu16 w10
  have ba11 := wfu16 w11
  obtain ⟨a20, a21, rfl, w20, w21⟩ := open_arr2 Try.underlying76 Try.underlying75 (by kernel_rfl) (by kernel_rfl) (hval 2 76 v2 rfl rfl) h2
  have ba20 := wfu16 w20
  have ba21 := wfu16 w21
  refine (linesRise_walk a0 a10 a11 a20 a21 ba10.1 ba10.2 ba11.1 ba11.2 ba20.1 ba20.2 ba21.1 ba21.2 W).mono fun e W' ⟨he, hb⟩ => ?_
  subst he
  exact ⟨_, rfl, _, _, _, [], _, [], hW', trodAll_cons_mk (shut_bool Try.underlying4 _) trodAll_mk0, below_all (by kernel_rfl) hb (by decide +kernel) hAA.out, rfl, hb.frame _, fun h => by cases h⟩

theorem over : Rows.linesRiseRow.holds Try.pinned (OpenSpec.ofChange Rows.linesRiseSpec) :=
  OpenClaim.holds_of_wide 11 Try.f11 rfl rfl rfl rfl rfl rfl rfl ⟨rfl, rfl, rfl, rfl, rfl⟩ rfl rfl rfl rfl rfl (by kernel_rfl) Try.func11 (by kernel_rfl)
    (of_decide_eq_true (by kernel_rfl)) (by unfold Func.isWrapper; first | (rw [if_pos (by decide +kernel)]; kernel_rfl) | (rw [if_neg (by decide +kernel)]; exact ⟨rfl, rfl⟩))
    (fun os started H enc _ => lifted os started H enc)

/-- ████ THE STATEMENT ████ -/
theorem proved : Rows.LinesRiseSaid :=
  over
end Go.Proofs.Ytlgjlfljohapfaa.linesRise
