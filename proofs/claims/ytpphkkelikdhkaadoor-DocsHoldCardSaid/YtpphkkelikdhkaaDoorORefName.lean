/-
  emendref08's Name, Words, Reserved AT EVERY TEXT: what they return; no memory that was there turns. Condition: the text's length.
-/
import Derived.Test.YtpphkkelikdhkaaDoorOName2
import Derived.OwnWalk
namespace Go.Proofs.YtpphkkelikdhkaaDoor
open Go.RowKit

theorem okAt_is {i : Nat} {x : UInt8} (h : x.toNat = 95 ∨ (97 ≤ x.toNat ∧ x.toNat ≤ 122) ∨ (65 ≤ x.toNat ∧ x.toNat ≤ 90) ∨ (¬ i = 0 ∧ 48 ≤ x.toNat ∧ x.toNat ≤ 57)) : okAt i x = true := by
  unfold okAt letB digB
  simp
  omega
theorem okAt_not {i : Nat} {x : UInt8} (h : ¬ (x.toNat = 95 ∨ (97 ≤ x.toNat ∧ x.toNat ≤ 122) ∨ (65 ≤ x.toNat ∧ x.toNat ≤ 90) ∨ (¬ i = 0 ∧ 48 ≤ x.toNat ∧ x.toNat ≤ 57))) : okAt i x = false := by
  cases q : okAt i x with
  | false => rfl
  | true =>
    exfalso
    apply h
    unfold okAt letB digB at q
    simp at q
    omega
set_option maxRecDepth 100000 in
set_option maxHeartbeats 1000000 in
theorem refName_any (s : ByteArray) (hs : s.size ≤ 1000000) (w : World) : Calls Tryd.prog 32 #[.string s] w fun e w' => e = .returned (.bool (nameB s.data.toList)) ∧ w = w' := by
  have hget := fun i h => Lib.data_getElem? s i h
  obtain ⟨l, hl⟩ : ∃ l, l = s.data.toList := ⟨_, rfl⟩
  have hsl : s.size = l.length := by rw [hl]; exact Lib.size_eq s
  rw [← hl] at hget ⊢
  have HN := Lib.hid (nameB_def l)
  have HG := Lib.hid hget
  have HL := Lib.hid hsl
  have HLL := Lib.hid hl
  clear hl hget hsl
  have HD := Lib.hid (Lib.toList_data s)
  by_cases h0 : s.toList = []
  · have len0 : (s.size : Int) = 0 := by
      have : l = [] := by rw [HLL.out, ← HD.out, h0]
      rw [HL.out, this]; rfl
    have e : nameB l = false := by
      rw [HN.out]
      have : l = [] := by rw [HLL.out, ← HD.out, h0]
      rw [this]; rfl
    rw [e]
    clear e
    have hz0 := len0
    clear len0
    go_enter Tryd.func32, Tryd.ntmps32
    go_wp2_with fail
    go_ret
    exact ⟨rfl, rfl⟩
  have h00 : s.toList.isEmpty = false := by simpa using h0
  have hz1 : ¬ (s.size : Int) = 0 := by
    intro h
    apply h0
    rw [HD.out, ← HLL.out]
    apply List.eq_nil_of_length_eq_zero
    have := HL.out
    omega
  have hz2 : ((s.size : Int) == 0) = false := by simpa using hz1
  have hz3 : ¬ s.size = 0 := by omega
  by_cases h1 : (s.toList == [95]) = true
  · have e : nameB l = false := by
      rw [HN.out]
      have : l = [95] := by rw [HLL.out, ← HD.out]; simpa using h1
      rw [this]; rfl
    have hz : (s.size : Int) ≤ 40 := by
      have : l = [95] := by rw [HLL.out, ← HD.out]; simpa using h1
      rw [HL.out, this]; decide
    rw [e]
    clear e
    go_enter Tryd.func32, Tryd.ntmps32
    go_wp2_with fail
    go_ret
    exact ⟨rfl, rfl⟩
  have h2 : (s.toList == [95]) = false := by simpa using h1
  clear h1
  by_cases h3 : (s.size : Int) ≤ 40
  · have e : nameB l = okF 0 l := by
      rw [HN.out]
      have a1 : (l.length == 0) = false := by
        have : l ≠ [] := by rw [HLL.out, ← HD.out]; exact h0
        cases l with
        | nil => exact absurd rfl this
        | cons => rfl
      have a2 : decide (l.length ≤ 40) = true := by have := HL.out; simp; omega
      have a3 : (l == [95]) = false := by rw [HLL.out, ← HD.out]; exact h2
      rw [a1, a2, a3]; rfl
    rw [e]
    clear e HN
    go_enter Tryd.func32, Tryd.ntmps32
    go_wp2_with fail
    go_loopw [3] (fun n wr => ∃ (i : Nat), n = .int .i64 (i : Int) ∧ i ≤ s.size ∧ wr = w ∧ Hid (okF i (l.drop i) = okF 0 l)) (fun n _ => s.size - (intOf n).toNat)
    case atStart => exact ⟨0, rfl, by omega, rfl, Lib.hid (by rw [List.drop_zero])⟩
    case round =>
      obtain ⟨i, rfl, hi, rfl, hi2⟩ := hrel
      by_cases hi3 : i < s.size
      · have hisz : (i : Int) < (s.size : Int) := by omega
        obtain ⟨x, hx⟩ : ∃ x : UInt8, s[i]'(by omega) = x := ⟨_, rfl⟩
        have Hx := Lib.hid (HG.out i (by omega))
        rw [hx] at Hx
        have HO := Lib.hid (okF_step l i x Hx.out)
        have hX := x.toNat_lt
        have hlo : 0 ≤ x.toNat := Nat.zero_le _
        by_cases c47 : x.toNat ≤ 47
        · by_cases qi : i = 0
          · subst qi
            have f0 : (x.toNat : Int) < 65 := by omega
            have f1 : (x.toNat : Int) ≤ 90 := by omega
            have f2 : (x.toNat : Int) < 97 := by omega
            have f3 : (x.toNat : Int) ≤ 122 := by omega
            have f4 : ¬ (x.toNat : Int) = 95 := by omega
            have f5 : (x.toNat : Int) < 48 := by omega
            have f6 : (x.toNat : Int) ≤ 57 := by omega
            have f7 : decide ((x.toNat : Int) ≤ 90) = true := by simp; omega
            have f8 : decide ((x.toNat : Int) ≤ 122) = true := by simp; omega
            have f9 : ((x.toNat : Int) == 95) = false := by simp; omega
            have f10 : decide ((x.toNat : Int) < 48) = true := by simp; omega
            have f11 : decide (57 < (x.toNat : Int)) = false := by simp; omega
            have HE : Hid (okF 0 l = false) := Lib.hid (by rw [← hi2.out, HO.out, okAt_not (i := 0) (x := x) (by omega)]; simp)
            clear HO hi2 hX hlo
            go_wp2_with fail
            go_ret
            exact ⟨ret_bool HE.out.symm, by trivial⟩
          · have qi2 : ((i : Int) == 0) = false := by simp; omega
            have f0 : (x.toNat : Int) < 65 := by omega
            have f1 : (x.toNat : Int) ≤ 90 := by omega
            have f2 : (x.toNat : Int) < 97 := by omega
            have f3 : (x.toNat : Int) ≤ 122 := by omega
            have f4 : ¬ (x.toNat : Int) = 95 := by omega
            have f5 : (x.toNat : Int) < 48 := by omega
            have f6 : (x.toNat : Int) ≤ 57 := by omega
            have f7 : decide ((x.toNat : Int) ≤ 90) = true := by simp; omega
            have f8 : decide ((x.toNat : Int) ≤ 122) = true := by simp; omega
            have f9 : ((x.toNat : Int) == 95) = false := by simp; omega
            have f10 : decide ((x.toNat : Int) < 48) = true := by simp; omega
            have f11 : decide (57 < (x.toNat : Int)) = false := by simp; omega
            have HE : Hid (okF 0 l = false) := Lib.hid (by rw [← hi2.out, HO.out, okAt_not (i := i) (x := x) (by omega)]; simp)
            clear HO hi2 hX hlo
            go_wp2_with fail
            go_ret
            exact ⟨ret_bool HE.out.symm, by trivial⟩
        have hlo : 47 < x.toNat := by omega
        clear c47
        by_cases c57 : x.toNat ≤ 57
        · by_cases qi : i = 0
          · subst qi
            have f0 : (x.toNat : Int) < 65 := by omega
            have f1 : (x.toNat : Int) ≤ 90 := by omega
            have f2 : (x.toNat : Int) < 97 := by omega
            have f3 : (x.toNat : Int) ≤ 122 := by omega
            have f4 : ¬ (x.toNat : Int) = 95 := by omega
            have f5 : 48 ≤ (x.toNat : Int) := by omega
            have f6 : (x.toNat : Int) ≤ 57 := by omega
            have f7 : decide ((x.toNat : Int) ≤ 90) = true := by simp; omega
            have f8 : decide ((x.toNat : Int) ≤ 122) = true := by simp; omega
            have f9 : ((x.toNat : Int) == 95) = false := by simp; omega
            have f10 : decide ((x.toNat : Int) < 48) = false := by simp; omega
            have f11 : decide (57 < (x.toNat : Int)) = false := by simp; omega
            have HE : Hid (okF 0 l = false) := Lib.hid (by rw [← hi2.out, HO.out, okAt_not (i := 0) (x := x) (by omega)]; simp)
            clear HO hi2 hX hlo
            go_wp2_with fail
            go_ret
            exact ⟨ret_bool HE.out.symm, by trivial⟩
          · have qi2 : ((i : Int) == 0) = false := by simp; omega
            have f0 : (x.toNat : Int) < 65 := by omega
            have f1 : (x.toNat : Int) ≤ 90 := by omega
            have f2 : (x.toNat : Int) < 97 := by omega
            have f3 : (x.toNat : Int) ≤ 122 := by omega
            have f4 : ¬ (x.toNat : Int) = 95 := by omega
            have f5 : 48 ≤ (x.toNat : Int) := by omega
            have f6 : (x.toNat : Int) ≤ 57 := by omega
            have f7 : decide ((x.toNat : Int) ≤ 90) = true := by simp; omega
            have f8 : decide ((x.toNat : Int) ≤ 122) = true := by simp; omega
            have f9 : ((x.toNat : Int) == 95) = false := by simp; omega
            have f10 : decide ((x.toNat : Int) < 48) = false := by simp; omega
            have f11 : decide (57 < (x.toNat : Int)) = false := by simp; omega
            have HE : Hid (okF (i + 1) (l.drop (i + 1)) = okF 0 l) := Lib.hid (by rw [← hi2.out, HO.out, okAt_is (i := i) (x := x) (by omega)]; simp)
            clear HO hi2 hX hlo
            go_wp2_with fail
            go_roundw
            case rel => exact ⟨i + 1, by go_num, by omega, by trivial, HE⟩
            case measure => simp [intOf]; omega
        have hlo : 57 < x.toNat := by omega
        clear c57
        by_cases c64 : x.toNat ≤ 64
        · by_cases qi : i = 0
          · subst qi
            have f0 : (x.toNat : Int) < 65 := by omega
            have f1 : (x.toNat : Int) ≤ 90 := by omega
            have f2 : (x.toNat : Int) < 97 := by omega
            have f3 : (x.toNat : Int) ≤ 122 := by omega
            have f4 : ¬ (x.toNat : Int) = 95 := by omega
            have f5 : 48 ≤ (x.toNat : Int) := by omega
            have f6 : 57 < (x.toNat : Int) := by omega
            have f7 : decide ((x.toNat : Int) ≤ 90) = true := by simp; omega
            have f8 : decide ((x.toNat : Int) ≤ 122) = true := by simp; omega
            have f9 : ((x.toNat : Int) == 95) = false := by simp; omega
            have f10 : decide ((x.toNat : Int) < 48) = false := by simp; omega
            have f11 : decide (57 < (x.toNat : Int)) = true := by simp; omega
            have HE : Hid (okF 0 l = false) := Lib.hid (by rw [← hi2.out, HO.out, okAt_not (i := 0) (x := x) (by omega)]; simp)
            clear HO hi2 hX hlo
            go_wp2_with fail
            go_ret
            exact ⟨ret_bool HE.out.symm, by trivial⟩
          · have qi2 : ((i : Int) == 0) = false := by simp; omega
            have f0 : (x.toNat : Int) < 65 := by omega
            have f1 : (x.toNat : Int) ≤ 90 := by omega
            have f2 : (x.toNat : Int) < 97 := by omega
            have f3 : (x.toNat : Int) ≤ 122 := by omega
            have f4 : ¬ (x.toNat : Int) = 95 := by omega
            have f5 : 48 ≤ (x.toNat : Int) := by omega
            have f6 : 57 < (x.toNat : Int) := by omega
            have f7 : decide ((x.toNat : Int) ≤ 90) = true := by simp; omega
            have f8 : decide ((x.toNat : Int) ≤ 122) = true := by simp; omega
            have f9 : ((x.toNat : Int) == 95) = false := by simp; omega
            have f10 : decide ((x.toNat : Int) < 48) = false := by simp; omega
            have f11 : decide (57 < (x.toNat : Int)) = true := by simp; omega
            have HE : Hid (okF 0 l = false) := Lib.hid (by rw [← hi2.out, HO.out, okAt_not (i := i) (x := x) (by omega)]; simp)
            clear HO hi2 hX hlo
            go_wp2_with fail
            go_ret
            exact ⟨ret_bool HE.out.symm, by trivial⟩
        have hlo : 64 < x.toNat := by omega
        clear c64
        by_cases c90 : x.toNat ≤ 90
        · have f0 : 65 ≤ (x.toNat : Int) := by omega
          have f1 : (x.toNat : Int) ≤ 90 := by omega
          have f2 : (x.toNat : Int) < 97 := by omega
          have f3 : (x.toNat : Int) ≤ 122 := by omega
          have f4 : ¬ (x.toNat : Int) = 95 := by omega
          have f5 : 48 ≤ (x.toNat : Int) := by omega
          have f6 : 57 < (x.toNat : Int) := by omega
          have f7 : decide ((x.toNat : Int) ≤ 90) = true := by simp; omega
          have f8 : decide ((x.toNat : Int) ≤ 122) = true := by simp; omega
          have f9 : ((x.toNat : Int) == 95) = false := by simp; omega
          have f10 : decide ((x.toNat : Int) < 48) = false := by simp; omega
          have f11 : decide (57 < (x.toNat : Int)) = true := by simp; omega
          have HE : Hid (okF (i + 1) (l.drop (i + 1)) = okF 0 l) := Lib.hid (by rw [← hi2.out, HO.out, okAt_is (i := i) (x := x) (by omega)]; simp)
          clear HO hi2 hX hlo
          go_wp2_with fail
          go_roundw
          case rel => exact ⟨i + 1, by go_num, by omega, by trivial, HE⟩
          case measure => simp [intOf]; omega
        have hlo : 90 < x.toNat := by omega
        clear c90
        by_cases c94 : x.toNat ≤ 94
        · by_cases qi : i = 0
          · subst qi
            have f0 : 65 ≤ (x.toNat : Int) := by omega
            have f1 : 90 < (x.toNat : Int) := by omega
            have f2 : (x.toNat : Int) < 97 := by omega
            have f3 : (x.toNat : Int) ≤ 122 := by omega
            have f4 : ¬ (x.toNat : Int) = 95 := by omega
            have f5 : 48 ≤ (x.toNat : Int) := by omega
            have f6 : 57 < (x.toNat : Int) := by omega
            have f7 : decide ((x.toNat : Int) ≤ 90) = false := by simp; omega
            have f8 : decide ((x.toNat : Int) ≤ 122) = true := by simp; omega
            have f9 : ((x.toNat : Int) == 95) = false := by simp; omega
            have f10 : decide ((x.toNat : Int) < 48) = false := by simp; omega
            have f11 : decide (57 < (x.toNat : Int)) = true := by simp; omega
            have HE : Hid (okF 0 l = false) := Lib.hid (by rw [← hi2.out, HO.out, okAt_not (i := 0) (x := x) (by omega)]; simp)
            clear HO hi2 hX hlo
            go_wp2_with fail
            go_ret
            exact ⟨ret_bool HE.out.symm, by trivial⟩
          · have qi2 : ((i : Int) == 0) = false := by simp; omega
            have f0 : 65 ≤ (x.toNat : Int) := by omega
            have f1 : 90 < (x.toNat : Int) := by omega
            have f2 : (x.toNat : Int) < 97 := by omega
            have f3 : (x.toNat : Int) ≤ 122 := by omega
            have f4 : ¬ (x.toNat : Int) = 95 := by omega
            have f5 : 48 ≤ (x.toNat : Int) := by omega
            have f6 : 57 < (x.toNat : Int) := by omega
            have f7 : decide ((x.toNat : Int) ≤ 90) = false := by simp; omega
            have f8 : decide ((x.toNat : Int) ≤ 122) = true := by simp; omega
            have f9 : ((x.toNat : Int) == 95) = false := by simp; omega
            have f10 : decide ((x.toNat : Int) < 48) = false := by simp; omega
            have f11 : decide (57 < (x.toNat : Int)) = true := by simp; omega
            have HE : Hid (okF 0 l = false) := Lib.hid (by rw [← hi2.out, HO.out, okAt_not (i := i) (x := x) (by omega)]; simp)
            clear HO hi2 hX hlo
            go_wp2_with fail
            go_ret
            exact ⟨ret_bool HE.out.symm, by trivial⟩
        have hlo : 94 < x.toNat := by omega
        clear c94
        by_cases c95 : x.toNat ≤ 95
        · have f0 : 65 ≤ (x.toNat : Int) := by omega
          have f1 : 90 < (x.toNat : Int) := by omega
          have f2 : (x.toNat : Int) < 97 := by omega
          have f3 : (x.toNat : Int) ≤ 122 := by omega
          have f4 : (x.toNat : Int) = 95 := by omega
          have f5 : 48 ≤ (x.toNat : Int) := by omega
          have f6 : 57 < (x.toNat : Int) := by omega
          have f7 : decide ((x.toNat : Int) ≤ 90) = false := by simp; omega
          have f8 : decide ((x.toNat : Int) ≤ 122) = true := by simp; omega
          have f9 : ((x.toNat : Int) == 95) = true := by simp; omega
          have f10 : decide ((x.toNat : Int) < 48) = false := by simp; omega
          have f11 : decide (57 < (x.toNat : Int)) = true := by simp; omega
          have HE : Hid (okF (i + 1) (l.drop (i + 1)) = okF 0 l) := Lib.hid (by rw [← hi2.out, HO.out, okAt_is (i := i) (x := x) (by omega)]; simp)
          clear HO hi2 hX hlo
          go_wp2_with fail
          go_roundw
          case rel => exact ⟨i + 1, by go_num, by omega, by trivial, HE⟩
          case measure => simp [intOf]; omega
        have hlo : 95 < x.toNat := by omega
        clear c95
        by_cases c96 : x.toNat ≤ 96
        · by_cases qi : i = 0
          · subst qi
            have f0 : 65 ≤ (x.toNat : Int) := by omega
            have f1 : 90 < (x.toNat : Int) := by omega
            have f2 : (x.toNat : Int) < 97 := by omega
            have f3 : (x.toNat : Int) ≤ 122 := by omega
            have f4 : ¬ (x.toNat : Int) = 95 := by omega
            have f5 : 48 ≤ (x.toNat : Int) := by omega
            have f6 : 57 < (x.toNat : Int) := by omega
            have f7 : decide ((x.toNat : Int) ≤ 90) = false := by simp; omega
            have f8 : decide ((x.toNat : Int) ≤ 122) = true := by simp; omega
            have f9 : ((x.toNat : Int) == 95) = false := by simp; omega
            have f10 : decide ((x.toNat : Int) < 48) = false := by simp; omega
            have f11 : decide (57 < (x.toNat : Int)) = true := by simp; omega
            have HE : Hid (okF 0 l = false) := Lib.hid (by rw [← hi2.out, HO.out, okAt_not (i := 0) (x := x) (by omega)]; simp)
            clear HO hi2 hX hlo
            go_wp2_with fail
            go_ret
            exact ⟨ret_bool HE.out.symm, by trivial⟩
          · have qi2 : ((i : Int) == 0) = false := by simp; omega
            have f0 : 65 ≤ (x.toNat : Int) := by omega
            have f1 : 90 < (x.toNat : Int) := by omega
            have f2 : (x.toNat : Int) < 97 := by omega
            have f3 : (x.toNat : Int) ≤ 122 := by omega
            have f4 : ¬ (x.toNat : Int) = 95 := by omega
            have f5 : 48 ≤ (x.toNat : Int) := by omega
            have f6 : 57 < (x.toNat : Int) := by omega
            have f7 : decide ((x.toNat : Int) ≤ 90) = false := by simp; omega
            have f8 : decide ((x.toNat : Int) ≤ 122) = true := by simp; omega
            have f9 : ((x.toNat : Int) == 95) = false := by simp; omega
            have f10 : decide ((x.toNat : Int) < 48) = false := by simp; omega
            have f11 : decide (57 < (x.toNat : Int)) = true := by simp; omega
            have HE : Hid (okF 0 l = false) := Lib.hid (by rw [← hi2.out, HO.out, okAt_not (i := i) (x := x) (by omega)]; simp)
            clear HO hi2 hX hlo
            go_wp2_with fail
            go_ret
            exact ⟨ret_bool HE.out.symm, by trivial⟩
        have hlo : 96 < x.toNat := by omega
        clear c96
        by_cases c122 : x.toNat ≤ 122
        · have f0 : 65 ≤ (x.toNat : Int) := by omega
          have f1 : 90 < (x.toNat : Int) := by omega
          have f2 : 97 ≤ (x.toNat : Int) := by omega
          have f3 : (x.toNat : Int) ≤ 122 := by omega
          have f4 : ¬ (x.toNat : Int) = 95 := by omega
          have f5 : 48 ≤ (x.toNat : Int) := by omega
          have f6 : 57 < (x.toNat : Int) := by omega
          have f7 : decide ((x.toNat : Int) ≤ 90) = false := by simp; omega
          have f8 : decide ((x.toNat : Int) ≤ 122) = true := by simp; omega
          have f9 : ((x.toNat : Int) == 95) = false := by simp; omega
          have f10 : decide ((x.toNat : Int) < 48) = false := by simp; omega
          have f11 : decide (57 < (x.toNat : Int)) = true := by simp; omega
          have HE : Hid (okF (i + 1) (l.drop (i + 1)) = okF 0 l) := Lib.hid (by rw [← hi2.out, HO.out, okAt_is (i := i) (x := x) (by omega)]; simp)
          clear HO hi2 hX hlo
          go_wp2_with fail
          go_roundw
          case rel => exact ⟨i + 1, by go_num, by omega, by trivial, HE⟩
          case measure => simp [intOf]; omega
        have hlo : 122 < x.toNat := by omega
        clear c122
        by_cases qi : i = 0
        · subst qi
          have f0 : 65 ≤ (x.toNat : Int) := by omega
          have f1 : 90 < (x.toNat : Int) := by omega
          have f2 : 97 ≤ (x.toNat : Int) := by omega
          have f3 : 122 < (x.toNat : Int) := by omega
          have f4 : ¬ (x.toNat : Int) = 95 := by omega
          have f5 : 48 ≤ (x.toNat : Int) := by omega
          have f6 : 57 < (x.toNat : Int) := by omega
          have f7 : decide ((x.toNat : Int) ≤ 90) = false := by simp; omega
          have f8 : decide ((x.toNat : Int) ≤ 122) = false := by simp; omega
          have f9 : ((x.toNat : Int) == 95) = false := by simp; omega
          have f10 : decide ((x.toNat : Int) < 48) = false := by simp; omega
          have f11 : decide (57 < (x.toNat : Int)) = true := by simp; omega
          have HE : Hid (okF 0 l = false) := Lib.hid (by rw [← hi2.out, HO.out, okAt_not (i := 0) (x := x) (by omega)]; simp)
          clear HO hi2 hX hlo
          go_wp2_with fail
          go_ret
          exact ⟨ret_bool HE.out.symm, by trivial⟩
        · have qi2 : ((i : Int) == 0) = false := by simp; omega
          have f0 : 65 ≤ (x.toNat : Int) := by omega
          have f1 : 90 < (x.toNat : Int) := by omega
          have f2 : 97 ≤ (x.toNat : Int) := by omega
          have f3 : 122 < (x.toNat : Int) := by omega
          have f4 : ¬ (x.toNat : Int) = 95 := by omega
          have f5 : 48 ≤ (x.toNat : Int) := by omega
          have f6 : 57 < (x.toNat : Int) := by omega
          have f7 : decide ((x.toNat : Int) ≤ 90) = false := by simp; omega
          have f8 : decide ((x.toNat : Int) ≤ 122) = false := by simp; omega
          have f9 : ((x.toNat : Int) == 95) = false := by simp; omega
          have f10 : decide ((x.toNat : Int) < 48) = false := by simp; omega
          have f11 : decide (57 < (x.toNat : Int)) = true := by simp; omega
          have HE : Hid (okF 0 l = false) := Lib.hid (by rw [← hi2.out, HO.out, okAt_not (i := i) (x := x) (by omega)]; simp)
          clear HO hi2 hX hlo
          go_wp2_with fail
          go_ret
          exact ⟨ret_bool HE.out.symm, by trivial⟩
      · have hie : ¬ (i : Int) < (s.size : Int) := by omega
        have HE : Hid (okF 0 l = true) := Lib.hid (by rw [← hi2.out]; exact okF_end l i (by have := HL.out; omega))
        clear hi2
        go_wp2_with fail
        go_ret
        exact ⟨ret_bool HE.out.symm, rfl⟩
  · have h4 : 40 < (s.size : Int) := by omega
    have e : nameB l = false := by
      rw [HN.out]
      have a2 : decide (l.length ≤ 40) = false := by have := HL.out; simp; omega
      rw [a2]; simp
    rw [e]
    clear e
    go_enter Tryd.func32, Tryd.ntmps32
    go_wp2_with fail
    go_ret
    exact ⟨rfl, rfl⟩


def wordsV : List Value := [.string ⟨#[98, 111, 111, 108]⟩, .string ⟨#[98, 114, 101, 97, 107]⟩, .string ⟨#[99, 111, 110, 116, 105, 110, 117, 101]⟩, .string ⟨#[101, 108, 115, 101]⟩, .string ⟨#[102, 97, 108, 115, 101]⟩, .string ⟨#[102, 108, 111, 97, 116, 54, 52]⟩, .string ⟨#[102, 111, 114]⟩, .string ⟨#[102, 117, 110, 99]⟩, .string ⟨#[105, 102]⟩, .string ⟨#[105, 109, 112, 111, 114, 116]⟩, .string ⟨#[105, 110, 116]⟩, .string ⟨#[108, 101, 110]⟩, .string ⟨#[112, 97, 99, 107, 97, 103, 101]⟩, .string ⟨#[112, 97, 110, 105, 99]⟩, .string ⟨#[112, 114, 105, 110, 116]⟩, .string ⟨#[114, 101, 116, 117, 114, 110]⟩, .string ⟨#[115, 116, 114, 105, 110, 103]⟩, .string ⟨#[115, 116, 114, 117, 99, 116]⟩, .string ⟨#[116, 114, 117, 101]⟩, .string ⟨#[116, 121, 112, 101]⟩, .string ⟨#[118, 97, 114]⟩]
theorem words_any (w : World) : Calls Tryd.prog 51 #[] w fun e w' => e = .returned (.slice (some ⟨w.heap.size, 0, none⟩) 21 21) ∧ w' = w.alloc (.cells wordsV.toArray 9) := by
  go_enter Tryd.func51, Tryd.ntmps51
  go_wp2_with fail
  go_ret
  exact ⟨rfl, rfl⟩
end Go.Proofs.YtpphkkelikdhkaaDoor
