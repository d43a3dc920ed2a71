/-
  docs' isLetter, isDigit, isName, isReserved AT EVERY TEXT: what they return; no memory turns. Condition: the text's length.
-/
import Derived.Test.YtpphkkelikdhkaaDoorONames
import Derived.Test.YtpphkkelikdhkaaDoorKit
import Derived.Lib.IndexBytes
import Derived.IntWalk
namespace Go.Proofs.YtpphkkelikdhkaaDoor
open Go.RowKit

set_option maxRecDepth 100000 in
theorem letter_any (x : Nat) (w : World) : Calls Tryd.prog 48 #[.int .u8 (x : Int)] w fun e w' => e = .returned (.bool (letB x)) ∧ w = w' := by
  go_enter Tryd.func48, Tryd.ntmps48
  go_wp2_with fail
  all_goals (go_ret; exact ⟨ret_bool (by rw [Bool.eq_iff_iff]; simp [letB]; omega), rfl⟩)
set_option maxRecDepth 100000 in
theorem digit_any (x : Nat) (w : World) : Calls Tryd.prog 49 #[.int .u8 (x : Int)] w fun e w' => e = .returned (.bool (digB x)) ∧ w = w' := by
  go_enter Tryd.func49, Tryd.ntmps49
  go_wp2_with fail
  all_goals (go_ret; exact ⟨ret_bool (by rw [Bool.eq_iff_iff]; simp [digB]; try omega), rfl⟩)
theorem nameB_def (l : List UInt8) : nameB l = (!(l.length == 0) && decide (l.length ≤ 40) && !(l == [95]) && okF 0 l) := by
  unfold nameB
  cases l <;> rfl
set_option maxRecDepth 100000 in
set_option maxHeartbeats 1000000 in
theorem name_any (s : ByteArray) (hs : s.size ≤ 1000000) (w : World) : Calls Tryd.prog 29 #[.string s] w fun e w' => e = .returned (.bool (nameB s.data.toList)) ∧ w = w' := by
  have hget := fun i h => Lib.data_getElem? s i h
  obtain ⟨l, hl⟩ : ∃ l, l = s.data.toList := ⟨_, rfl⟩
  have hsl : s.size = l.length := by rw [hl]; exact Lib.size_eq s
  rw [← hl] at hget ⊢
  have HN := Lib.hid (nameB_def l)
  have HG := Lib.hid hget
  have HL := Lib.hid hsl
  have HLL := Lib.hid hl
  clear hl hget hsl
  have HD := Lib.hid (Lib.toList_data s)
  by_cases h0 : s.toList = []
  · have e : nameB l = false := by
      rw [HN.out]
      have : l = [] := by rw [HLL.out, ← HD.out, h0]
      rw [this]; rfl
    rw [e]
    clear e
    go_enter Tryd.func29, Tryd.ntmps29
    go_wp2_with fail
    go_ret
    exact ⟨rfl, rfl⟩
  have h00 : s.toList.isEmpty = false := by simpa using h0
  by_cases h1 : (s.toList == [95]) = true
  · have e : nameB l = false := by
      rw [HN.out]
      have : l = [95] := by rw [HLL.out, ← HD.out]; simpa using h1
      rw [this]; rfl
    have hz : (s.size : Int) ≤ 40 := by
      have : l = [95] := by rw [HLL.out, ← HD.out]; simpa using h1
      rw [HL.out, this]; decide
    rw [e]
    clear e
    go_enter Tryd.func29, Tryd.ntmps29
    go_wp2_with fail
    go_ret
    exact ⟨rfl, rfl⟩
  have h2 : (s.toList == [95]) = false := by simpa using h1
  clear h1
  by_cases h3 : (s.size : Int) ≤ 40
  · have e : nameB l = okF 0 l := by
      rw [HN.out]
      have a1 : (l.length == 0) = false := by
        have : l ≠ [] := by rw [HLL.out, ← HD.out]; exact h0
        cases l with
        | nil => exact absurd rfl this
        | cons => rfl
      have a2 : decide (l.length ≤ 40) = true := by have := HL.out; simp; omega
      have a3 : (l == [95]) = false := by rw [HLL.out, ← HD.out]; exact h2
      rw [a1, a2, a3]; rfl
    rw [e]
    clear e HN
    go_enter Tryd.func29, Tryd.ntmps29
    go_wp2_with fail
    go_loopw [3, 17] (fun _ n wr => ∃ (i : Nat), n = .int .i64 (i : Int) ∧ i ≤ s.size ∧ wr = w ∧ Hid (okF i (l.drop i) = okF 0 l)) (fun _ n _ => s.size - (intOf n).toNat)
    case atStart => exact ⟨0, rfl, by omega, rfl, Lib.hid (by rw [List.drop_zero])⟩
    case round =>
      obtain ⟨i, rfl, hi, rfl, hi2⟩ := hrel
      by_cases hi3 : i < s.size
      · have hisz : (i : Int) < (s.size : Int) := by omega
        obtain ⟨x, hx⟩ : ∃ x : UInt8, s[i]'(by omega) = x := ⟨_, rfl⟩
        have Hx := Lib.hid (HG.out i (by omega))
        rw [hx] at Hx
        have HO := Lib.hid (okF_step l i x Hx.out)
        by_cases q1 : letB x.toNat = true
        · have HE : Hid (okF (i + 1) (l.drop (i + 1)) = okF 0 l) := Lib.hid (by rw [← hi2.out, HO.out, okAt, q1]; simp)
          clear HO hi2
          go_wp2_with (first | (go_at_call 48; refine (letter_any x.toNat _).mono ?_; rintro e w1 ⟨rfl, rfl⟩; rw [q1]) | (go_at_call 49; refine (digit_any x.toNat _).mono ?_; rintro e w1 ⟨rfl, rfl⟩))
          go_roundw
          case rel => exact ⟨i + 1, by go_num, by omega, trivial, HE⟩
          case measure => simp [intOf]; omega
        · have q1 : letB x.toNat = false := by simpa using q1
          by_cases qi : i = 0
          · subst qi
            have HE : Hid (okF 0 l = false) := Lib.hid (by rw [← hi2.out, HO.out, okAt, q1]; simp)
            clear HO hi2
            go_wp2_with (first | (go_at_call 48; refine (letter_any x.toNat _).mono ?_; rintro e w1 ⟨rfl, rfl⟩; rw [q1]) | (go_at_call 49; refine (digit_any x.toNat _).mono ?_; rintro e w1 ⟨rfl, rfl⟩))
            go_ret
            exact ⟨ret_bool HE.out.symm, rfl⟩
          · have qi2 : ((i : Int) == 0) = false := by simp; omega
            cases q2 : digB x.toNat with
            | true =>
              have HE : Hid (okF (i + 1) (l.drop (i + 1)) = okF 0 l) := Lib.hid (by rw [← hi2.out, HO.out, okAt, q1, q2]; simp [qi])
              clear HO hi2 qi
              go_wp2_with (first | (go_at_call 48; refine (letter_any x.toNat _).mono ?_; rintro e w1 ⟨rfl, rfl⟩; rw [q1]) | (go_at_call 49; refine (digit_any x.toNat _).mono ?_; rintro e w1 ⟨rfl, rfl⟩; rw [q2]))
              go_roundw
              case rel => exact ⟨i + 1, by go_num, by omega, trivial, HE⟩
              case measure => simp [intOf]; omega
            | false =>
              have HE : Hid (okF 0 l = false) := Lib.hid (by rw [← hi2.out, HO.out, okAt, q1, q2]; simp)
              clear HO hi2 qi
              go_wp2_with (first | (go_at_call 48; refine (letter_any x.toNat _).mono ?_; rintro e w1 ⟨rfl, rfl⟩; rw [q1]) | (go_at_call 49; refine (digit_any x.toNat _).mono ?_; rintro e w1 ⟨rfl, rfl⟩; rw [q2]))
              go_ret
              exact ⟨ret_bool HE.out.symm, rfl⟩
      · have hie : ¬ (i : Int) < (s.size : Int) := by omega
        have HE : Hid (okF 0 l = true) := Lib.hid (by rw [← hi2.out]; exact okF_end l i (by have := HL.out; omega))
        clear hi2
        go_wp2_with fail
        go_ret
        exact ⟨ret_bool HE.out.symm, rfl⟩
  · have h4 : 40 < (s.size : Int) := by omega
    have e : nameB l = false := by
      rw [HN.out]
      have a2 : decide (l.length ≤ 40) = false := by have := HL.out; simp; omega
      rw [a2]; simp
    rw [e]
    clear e
    go_enter Tryd.func29, Tryd.ntmps29
    go_wp2_with fail
    go_ret
    exact ⟨rfl, rfl⟩
end Go.Proofs.YtpphkkelikdhkaaDoor
