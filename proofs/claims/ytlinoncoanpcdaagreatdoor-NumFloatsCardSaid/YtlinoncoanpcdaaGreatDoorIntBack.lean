/-
  num.Int OF num.Text: at every int64 that is not below 0 it is the number, at every other one the error 4. Condition: Facts (the listed variables), the number is an int64.
-/
import Derived.Test.YtlinoncoanpcdaaGreatDoorAwake
import Derived.Test.YtlinoncoanpcdaaGreatDoorLit
namespace Go.Proofs.YtlinoncoanpcdaaGreatDoor
open Go.RowKit Go.Lib

theorem digit_dig (d : Nat) (h : d < 10) : (UInt8.ofNat (48 + d)).toNat = 48 + d := by
  rw [UInt8.toNat_ofNat']
  omega
theorem isDig_digit (d : Nat) (h : d < 10) : isDig (UInt8.ofNat (48 + d)) = true := by
  unfold isDig
  rw [digit_dig d h]
  simp only [decide_eq_true_eq]
  omega
theorem decDigits_dig (u : Nat) : ∀ c ∈ decDigits u, isDig c = true := by
  induction u using Nat.strongRecOn with
  | _ u ih =>
    intro c hc
    rw [decDigits] at hc
    split at hc
    · rename_i h
      simp only [List.mem_singleton] at hc
      rw [hc]
      exact isDig_digit u h
    · rcases List.mem_append.1 hc with h | h
      · exact ih (u / 10) (by omega) c h
      · simp only [List.mem_singleton] at h
        rw [h]
        exact isDig_digit _ (by omega)
theorem decDigits_ne (u : Nat) : decDigits u ≠ [] := by
  rw [decDigits]
  split <;> simp
theorem decDigits_head (u : Nat) (h : 1 ≤ u) : (decDigits u).headD 0 ≠ 48 := by
  induction u using Nat.strongRecOn with
  | _ u ih =>
    rw [decDigits]
    split
    · rename_i hu
      intro e
      have := congrArg UInt8.toNat e
      simp only [List.headD_cons] at this
      rw [digit_dig u hu] at this
      have h48 : (48 : UInt8).toNat = 48 := rfl
      omega
    · have := ih (u / 10) (by omega) (by omega)
      cases hd : decDigits (u / 10) with
      | nil => exact absurd hd (decDigits_ne _)
      | cons c r => rw [hd] at this; simpa using this
theorem takeWhile_all : ∀ (l : List UInt8), (∀ c ∈ l, isDig c = true) → l.takeWhile isDig = l
  | [], _ => rfl
  | c :: l, h => by rw [List.takeWhile_cons, if_pos (h c List.mem_cons_self), takeWhile_all l fun x hx => h x (List.mem_cons_of_mem _ hx)]
theorem past_all (l : List UInt8) (h : ∀ c ∈ l, isDig c = true) : past l 0 = l.length := by
  unfold past
  rw [List.drop_zero, takeWhile_all l h]
  omega
theorem whole_decDigits (u : Nat) : wholeB (decDigits u) = true := by
  have hp := past_all _ (decDigits_dig u)
  have hne := decDigits_ne u
  unfold wholeB wholeEnd
  rw [hp]
  rcases Nat.lt_or_ge u 10 with h | h
  · have hl : decDigits u = [UInt8.ofNat (48 + u)] := by rw [decDigits, dif_pos h]
    rw [hl]
    rfl
  · rw [if_neg (fun hh => decDigits_head u (by omega) hh.2)]
    simp [hne]
theorem not_whole_neg (l : List UInt8) : wholeB (45 :: l) = false := by
  have hp : past (45 :: l) 0 = 0 := by
    unfold past
    rw [List.drop_zero, List.takeWhile_cons, if_neg (by decide)]
    rfl
  unfold wholeB wholeEnd
  rw [hp]
  simp
theorem parseUintM_snoc (M : Nat) (c : UInt8) : ∀ (l : List UInt8) (acc a : Nat), parseUintM M acc l = .ok a → parseUintM M acc (l ++ [c]) = parseUintM M a [c]
  | [], acc, a, h => by
    simp only [parseUintM] at h
    cases h
    rfl
  | x :: l, acc, a, h => by
    rw [List.cons_append]
    unfold parseUintM at h ⊢
    split at h
    · rename_i h1
      rw [if_pos h1]
      split at h
      · cases h
      · rename_i h2
        rw [if_neg h2]
        split at h
        · cases h
        · rename_i h3
          rw [if_neg h3]
          exact parseUintM_snoc M c l _ a h
    · cases h
theorem parse_decDigits (M u : Nat) (hM : M ≤ 18446744073709551615) (hu : u ≤ M) : parseUintM M 0 (decDigits u) = .ok u := by
  induction u using Nat.strongRecOn with
  | _ u ih =>
    rw [decDigits]
    split
    · rename_i h
      have := digit_dig u h
      unfold parseUintM
      rw [this, if_pos (by omega), if_neg (by omega), if_neg (by omega)]
      unfold parseUintM
      congr 1
      omega
    · rename_i h
      rw [parseUintM_snoc M _ _ _ _ (ih (u / 10) (by omega) (by omega))]
      have := digit_dig (u % 10) (by omega)
      unfold parseUintM
      rw [this, if_pos (by omega), if_neg (by omega), if_neg (by omega)]
      unfold parseUintM
      congr 1
      omega
theorem parseInt_decDigits (u : Nat) (hu : u < 9223372036854775808) : parseIntB 64 (decDigits u) = .ok (u : Int) := by
  have hne := decDigits_ne u
  have hd := decDigits_dig u
  have hp := parse_decDigits (2 ^ 64 - 1) u (by decide) (by omega)
  unfold parseIntB
  cases hl : decDigits u with
  | nil => exact absurd hl hne
  | cons c r =>
    have hc := hd c (by rw [hl]; exact List.mem_cons_self)
    unfold isDig at hc
    simp only [decide_eq_true_eq] at hc
    simp only
    rw [if_neg (by omega)]
    unfold parseUintB
    rw [if_neg (by simp), ← hl, hp]
    simp only
    rw [if_neg (by omega), if_neg (by omega), if_neg (by omega)]
theorem int_ok (s : ByteArray) (v : Int) (hs : s.size ≤ 9223372036854775806) (h : wholeB s.data.toList = true) (hp : parseIntB 64 s.data.toList = .ok v) (w : World) :
    Calls Tryz.prog 13 #[.string s] w fun e w' => e = .returned (.tuple #[.int .i64 v, .int .i64 0]) ∧ Below w.heap.size w w' := by
  have HW := Lib.hid (isWhole_any s (by unfold maxLen; omega) w)
  have HP := Lib.hid (Tryz.strconv_ParseInt_10_at64_ok s hs v hp w)
  clear hp hs
  go_enter Tryz.func13, Tryz.ntmps13
  go_wp2_with fail
  refine HW.out.mono ?_
  rintro e w' ⟨rfl, rfl⟩
  rw [h]
  go_wp2_with fail
  refine HP.out.mono ?_
  rintro e w' ⟨rfl, hw⟩
  have hb : Below w.heap.size w w' := by
    rcases hw with rfl | ⟨t, rfl⟩
    · exact Below.refl _ _
    · exact Lib.bytesWorld_below ..
  have HB := Lib.hid hb
  clear hw hb
  go_wp2_with fail
  go_ret2
  exact ⟨rfl, HB.out⟩
theorem int_form (s : ByteArray) (hs : s.size ≤ maxLen) (h : wholeB s.data.toList = false) (w : World) : Calls Tryz.prog 13 #[.string s] w fun e w' => e = .returned (.tuple #[.int .i64 0, .int .i64 4]) ∧ w = w' := by
  have HW := Lib.hid (isWhole_any s hs w)
  clear hs
  go_enter Tryz.func13, Tryz.ntmps13
  go_wp2_with fail
  refine HW.out.mono ?_
  rintro e w' ⟨rfl, rfl⟩
  rw [h]
  go_wp2_with fail
  go_ret2
  exact ⟨rfl, rfl⟩
end Go.Proofs.YtlinoncoanpcdaaGreatDoor
