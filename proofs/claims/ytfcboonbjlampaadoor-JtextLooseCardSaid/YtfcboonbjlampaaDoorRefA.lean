/-
  emendref03's is, digit, numbered, hex AT EVERY TEXT of at most 1000000 bytes: what they return; the world is as it was. Condition: the text's length.
-/
import Derived.Test.YtfcboonbjlampaaDoorScan
namespace Go.Proofs.YtfcboonbjlampaaDoor
open Go.RowKit

theorem is1_eq (d c : UInt8) : is1 d c = decide (c.toNat = d.toNat) := by
  unfold is1
  simp only [List.contains_cons, List.contains_nil, Bool.or_false]
  rw [Bool.eq_iff_iff, beq_iff_eq, decide_eq_true_eq]
  exact ⟨fun h => by rw [h], fun h => UInt8.toNat_inj.1 h⟩
theorem is_any (s : ByteArray) (k : Nat) (d : UInt8) (w : World) : Calls Tryd.prog 66 #[.string s, .int .i64 k, .int .u8 (d.toNat : Int)] w fun e w' => e = .returned (.bool (fst (is1 d) (rest s k))) ∧ w = w' := by
  by_cases h : k < s.size
  · rw [fst_at _ s k h, is1_eq]
    have d0 : decide (k < s.size) = true := by simpa using h
    have e : (decide (s[k].toNat = d.toNat)) = (((s[k].toNat : Nat) : Int) == ((d.toNat : Nat) : Int)) := by
      rw [Bool.eq_iff_iff, decide_eq_true_eq, beq_iff_eq]; omega
    rw [e]
    clear e
    generalize (d.toNat : Int) = z at *
    go_enter Tryd.func66, Tryd.ntmps66
    go_wp2_with fail
    go_ret
    exact ⟨rfl, rfl⟩
  · rw [fst_end _ s k h]
    have d0 : decide (k < s.size) = false := by simpa using h
    generalize (d.toNat : Int) = z at *
    go_enter Tryd.func66, Tryd.ntmps66
    go_wp2_with fail
    go_ret
    exact ⟨rfl, rfl⟩
theorem isD_eq (c : UInt8) : isD c = (decide (48 ≤ c.toNat) && decide (c.toNat ≤ 57)) := by
  have : ∀ k : Fin 256, isD (UInt8.ofNat k.val) = (decide (48 ≤ k.val) && decide (k.val ≤ 57)) := by decide +kernel
  have h := this ⟨c.toNat, c.toNat_lt⟩
  simpa using h
theorem digit_any (s : ByteArray) (k : Nat) (w : World) : Calls Tryd.prog 67 #[.string s, .int .i64 k] w fun e w' => e = .returned (.bool (fst isD (rest s k))) ∧ w = w' := by
  by_cases h : k < s.size
  · rw [fst_at _ s k h, isD_eq]
    have d0 : decide (k < s.size) = true := by simpa using h
    by_cases h1 : 48 ≤ s[k].toNat
    · by_cases h2 : s[k].toNat ≤ 57
      · have d1 : decide (48 ≤ (s[k].toNat : Int)) = true := by simp; omega
        have d2 : decide ((s[k].toNat : Int) ≤ 57) = true := by simp; omega
        rw [decide_eq_true h1, decide_eq_true h2]
        go_enter Tryd.func67, Tryd.ntmps67
        go_wp2_with fail
        go_ret
        exact ⟨rfl, rfl⟩
      · have d1 : decide (48 ≤ (s[k].toNat : Int)) = true := by simp; omega
        have d2 : decide ((s[k].toNat : Int) ≤ 57) = false := by simp; omega
        rw [decide_eq_true h1, decide_eq_false h2]
        go_enter Tryd.func67, Tryd.ntmps67
        go_wp2_with fail
        go_ret
        exact ⟨rfl, rfl⟩
    · have d1 : decide (48 ≤ (s[k].toNat : Int)) = false := by simp; omega
      rw [decide_eq_false h1]
      go_enter Tryd.func67, Tryd.ntmps67
      go_wp2_with fail
      go_ret
      exact ⟨rfl, rfl⟩
  · rw [fst_end _ s k h]
    have d0 : decide (k < s.size) = false := by simpa using h
    go_enter Tryd.func67, Tryd.ntmps67
    go_wp2_with fail
    go_ret
    exact ⟨rfl, rfl⟩
end Go.Proofs.YtfcboonbjlampaaDoor
