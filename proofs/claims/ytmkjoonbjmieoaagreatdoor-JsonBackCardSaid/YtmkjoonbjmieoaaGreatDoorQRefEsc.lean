/-
  emendref03.escape AT EVERY TEXT of at most 1000000 bytes, from every place of it: what stands for an escape, and where it ends; no memory that was there turns. Condition: the text's length.
-/
import Derived.Test.YtmkjoonbjmieoaaGreatDoorQRefHex
import Derived.Test.YtmkjoonbjmieoaaGreatDoorQRefPoint
namespace Go.Proofs.YtmkjoonbjmieoaaGreatDoor
open Go.RowKit

/-- What escape hands back. -/
def escS (i : Nat) : Option (Nat × Nat) → Value
  | some (p, k) => .tuple #[.string ⟨(encL p).toArray⟩, .int .i64 ((i + k : Nat) : Int)]
  | none => .tuple #[.string ⟨#[]⟩, .int .i64 0]
theorem escP_letter (s : ByteArray) (i : Nat) (h : i < s.size) (x p : Nat) (hx : s[i].toNat = x) (hp : short x = some p) : escP (rest s i) = some (p, 1) := by
  unfold escP
  rw [if_neg (rest_ne s i h), nth_rest s i h, hx, hp]
theorem one_byte (s : ByteArray) (i : Nat) (h : i < s.size) (x : Nat) (hx : s[i].toNat = x) (h128 : x < 128) : s.extract i (i + 1) = ⟨(encL x).toArray⟩ := by
  apply ByteArray.ext
  have e := extract_take s i 1
  rw [rest_cons s i h] at e
  have e2 : encL x = [s[i]] := by
    unfold encL encN
    rw [if_pos h128]
    show [UInt8.ofNat x] = _
    rw [show UInt8.ofNat x = s[i] from UInt8.toNat_inj.1 (by rw [← hx]; simp)]
  rw [e2]
  show (s.extract i (i + 1)).data = _
  have e3 : (s.extract i (i + 1)).data.toList = [s[i]] := by rw [e]; rfl
  rw [← e3]
set_option maxRecDepth 100000 in
theorem refEsc_34 (s : ByteArray) (i : Nat) (h : i < s.size) (hs : s.size ≤ 1000000) (hx : s[i].toNat = 34) (w : World) : Calls Tryz.prog 132 #[.string s, .int .i64 i] w fun e w' => e = .returned (escS i (escP (rest s i))) ∧ Below w.heap.size w w' := by
  rw [escP_letter s i h 34 34 hx (by decide)]
  show Calls _ _ _ _ fun e w' => e = .returned (.tuple #[.string ⟨(encL 34).toArray⟩, .int .i64 ((i + 1 : Nat) : Int)]) ∧ _
  rw [← one_byte s i h 34 hx (by decide)]
  go_enter Tryz.func132, Tryz.ntmps132
  go_wp2_with fail
  go_ret2
  exact ⟨rfl, Below.refl _ _⟩
set_option maxRecDepth 100000 in
theorem refEsc_92 (s : ByteArray) (i : Nat) (h : i < s.size) (hs : s.size ≤ 1000000) (hx : s[i].toNat = 92) (w : World) : Calls Tryz.prog 132 #[.string s, .int .i64 i] w fun e w' => e = .returned (escS i (escP (rest s i))) ∧ Below w.heap.size w w' := by
  rw [escP_letter s i h 92 92 hx (by decide)]
  show Calls _ _ _ _ fun e w' => e = .returned (.tuple #[.string ⟨(encL 92).toArray⟩, .int .i64 ((i + 1 : Nat) : Int)]) ∧ _
  rw [← one_byte s i h 92 hx (by decide)]
  go_enter Tryz.func132, Tryz.ntmps132
  go_wp2_with fail
  go_ret2
  exact ⟨rfl, Below.refl _ _⟩
set_option maxRecDepth 100000 in
theorem refEsc_47 (s : ByteArray) (i : Nat) (h : i < s.size) (hs : s.size ≤ 1000000) (hx : s[i].toNat = 47) (w : World) : Calls Tryz.prog 132 #[.string s, .int .i64 i] w fun e w' => e = .returned (escS i (escP (rest s i))) ∧ Below w.heap.size w w' := by
  rw [escP_letter s i h 47 47 hx (by decide)]
  show Calls _ _ _ _ fun e w' => e = .returned (.tuple #[.string ⟨(encL 47).toArray⟩, .int .i64 ((i + 1 : Nat) : Int)]) ∧ _
  rw [← one_byte s i h 47 hx (by decide)]
  go_enter Tryz.func132, Tryz.ntmps132
  go_wp2_with fail
  go_ret2
  exact ⟨rfl, Below.refl _ _⟩
set_option maxRecDepth 100000 in
theorem refEsc_98 (s : ByteArray) (i : Nat) (h : i < s.size) (hs : s.size ≤ 1000000) (hx : s[i].toNat = 98) (w : World) : Calls Tryz.prog 132 #[.string s, .int .i64 i] w fun e w' => e = .returned (escS i (escP (rest s i))) ∧ Below w.heap.size w w' := by
  rw [escP_letter s i h 98 8 hx (by decide)]
  show Calls _ _ _ _ fun e w' => e = .returned (.tuple #[.string ⟨#[8]⟩, .int .i64 ((i + 1 : Nat) : Int)]) ∧ _
  go_enter Tryz.func132, Tryz.ntmps132
  go_wp2_with fail
  go_ret2
  exact ⟨rfl, Below.refl _ _⟩
set_option maxRecDepth 100000 in
theorem refEsc_102 (s : ByteArray) (i : Nat) (h : i < s.size) (hs : s.size ≤ 1000000) (hx : s[i].toNat = 102) (w : World) : Calls Tryz.prog 132 #[.string s, .int .i64 i] w fun e w' => e = .returned (escS i (escP (rest s i))) ∧ Below w.heap.size w w' := by
  rw [escP_letter s i h 102 12 hx (by decide)]
  show Calls _ _ _ _ fun e w' => e = .returned (.tuple #[.string ⟨#[12]⟩, .int .i64 ((i + 1 : Nat) : Int)]) ∧ _
  go_enter Tryz.func132, Tryz.ntmps132
  go_wp2_with fail
  go_ret2
  exact ⟨rfl, Below.refl _ _⟩
set_option maxRecDepth 100000 in
theorem refEsc_110 (s : ByteArray) (i : Nat) (h : i < s.size) (hs : s.size ≤ 1000000) (hx : s[i].toNat = 110) (w : World) : Calls Tryz.prog 132 #[.string s, .int .i64 i] w fun e w' => e = .returned (escS i (escP (rest s i))) ∧ Below w.heap.size w w' := by
  rw [escP_letter s i h 110 10 hx (by decide)]
  show Calls _ _ _ _ fun e w' => e = .returned (.tuple #[.string ⟨#[10]⟩, .int .i64 ((i + 1 : Nat) : Int)]) ∧ _
  go_enter Tryz.func132, Tryz.ntmps132
  go_wp2_with fail
  go_ret2
  exact ⟨rfl, Below.refl _ _⟩
set_option maxRecDepth 100000 in
theorem refEsc_114 (s : ByteArray) (i : Nat) (h : i < s.size) (hs : s.size ≤ 1000000) (hx : s[i].toNat = 114) (w : World) : Calls Tryz.prog 132 #[.string s, .int .i64 i] w fun e w' => e = .returned (escS i (escP (rest s i))) ∧ Below w.heap.size w w' := by
  rw [escP_letter s i h 114 13 hx (by decide)]
  show Calls _ _ _ _ fun e w' => e = .returned (.tuple #[.string ⟨#[13]⟩, .int .i64 ((i + 1 : Nat) : Int)]) ∧ _
  go_enter Tryz.func132, Tryz.ntmps132
  go_wp2_with fail
  go_ret2
  exact ⟨rfl, Below.refl _ _⟩
set_option maxRecDepth 100000 in
theorem refEsc_116 (s : ByteArray) (i : Nat) (h : i < s.size) (hs : s.size ≤ 1000000) (hx : s[i].toNat = 116) (w : World) : Calls Tryz.prog 132 #[.string s, .int .i64 i] w fun e w' => e = .returned (escS i (escP (rest s i))) ∧ Below w.heap.size w w' := by
  rw [escP_letter s i h 116 9 hx (by decide)]
  show Calls _ _ _ _ fun e w' => e = .returned (.tuple #[.string ⟨#[9]⟩, .int .i64 ((i + 1 : Nat) : Int)]) ∧ _
  go_enter Tryz.func132, Tryz.ntmps132
  go_wp2_with fail
  go_ret2
  exact ⟨rfl, Below.refl _ _⟩
set_option maxRecDepth 100000 in
set_option maxHeartbeats 2000000 in
theorem refEsc_unit (s : ByteArray) (i : Nat) (h : i < s.size) (hs : s.size ≤ 1000000) (x : Nat) (hx : s[i].toNat = x) (hsh : short x = none) (hne : x ≠ 34 ∧ x ≠ 92 ∧ x ≠ 47 ∧ x ≠ 98 ∧ x ≠ 102 ∧ x ≠ 110 ∧ x ≠ 114 ∧ x ≠ 116) (w : World) : Calls Tryz.prog 132 #[.string s, .int .i64 i] w fun e w' => e = .returned (escS i (escP (rest s i))) ∧ Below w.heap.size w w' := by
  have q34 : (((x : Nat) : Int) == 34) = false := by simp only [beq_eq_false_iff_ne, ne_eq]; omega
  have q92 : (((x : Nat) : Int) == 92) = false := by simp only [beq_eq_false_iff_ne, ne_eq]; omega
  have q47 : (((x : Nat) : Int) == 47) = false := by simp only [beq_eq_false_iff_ne, ne_eq]; omega
  have q98 : (((x : Nat) : Int) == 98) = false := by simp only [beq_eq_false_iff_ne, ne_eq]; omega
  have q102 : (((x : Nat) : Int) == 102) = false := by simp only [beq_eq_false_iff_ne, ne_eq]; omega
  have q110 : (((x : Nat) : Int) == 110) = false := by simp only [beq_eq_false_iff_ne, ne_eq]; omega
  have q114 : (((x : Nat) : Int) == 114) = false := by simp only [beq_eq_false_iff_ne, ne_eq]; omega
  have q116 : (((x : Nat) : Int) == 116) = false := by simp only [beq_eq_false_iff_ne, ne_eq]; omega
  have HU := Lib.hid (fun w => refHex_any s i hs w)
  have h0 : short (nth (rest s i) 0) = none := by rw [nth_rest s i h, hx]; exact hsh
  have hl := rest_ne s i h
  cases hu : unitU (rest s i) with
  | none =>
    have he : escP (rest s i) = none := by unfold escP; rw [if_neg hl, h0]; simp only [hu]
    rw [hu] at HU
    unfold hexV at HU
    rw [he]
    show Calls _ _ _ _ fun e w' => e = .returned (.tuple #[.string ⟨#[]⟩, .int .i64 0]) ∧ _
    clear he h0 hl hsh hu
    go_enter Tryz.func132, Tryz.ntmps132
    go_wp2_with fail
    refine (HU.out _).mono ?_
    rintro e w' ⟨rfl, rfl⟩
    go_wp2_with fail
    go_ret2
    exact ⟨rfl, Below.refl _ _⟩
  | some a =>
    have hua := unitU_lt hu
    rw [rest_len] at hua
    have he : escP (rest s i) = if a < 55296 ∨ 57343 < a then some (a, 5) else if 56320 ≤ a then none
        else if fst (is1 92) (rest s (i + 5)) then
          match unitU (rest s (i + 6)) with
          | none => none
          | some b => if b < 56320 ∨ 57343 < b then none else some (65536 + (a - 55296) * 1024 + (b - 56320), 11)
        else none := by
      unfold escP
      rw [if_neg hl, h0]
      simp only [hu, rest_drop]
      rfl
    rw [hu] at HU
    have hV : hexV (some a) = (a : Int) := rfl
    rw [hV] at HU
    clear h0 hl hsh hu hV
    have d0 : decide ((a : Int) < 0) = false := by simp
    by_cases g1 : a < 55296
    · rw [if_pos (Or.inl g1)] at he
      rw [he]
      show Calls _ _ _ _ fun e w' => e = .returned (.tuple #[.string ⟨(encL a).toArray⟩, .int .i64 ((i + 5 : Nat) : Int)]) ∧ _
      have HP := Lib.hid (fun w => point_any a (by unfold isPt; rw [decide_eq_true_eq]; omega) w)
      have d1 : decide (56320 ≤ (a : Int)) = false := by simp; omega
      have d2 : decide ((a : Int) < 55296) = true := by simp; omega
      generalize encL a = l at *
      clear he hua g1
      generalize (a : Int) = z at *
      go_enter Tryz.func132, Tryz.ntmps132
      go_wp2_with fail
      refine (HU.out _).mono ?_
      rintro e w' ⟨rfl, rfl⟩
      go_wp2_with fail
      refine (HP.out _).mono ?_
      rintro e w1 ⟨rfl, hb⟩
      have HB := Lib.hid hb
      clear hb
      go_wp2_with fail
      go_ret2
      exact ⟨rfl, HB.out⟩
    by_cases g2 : 57343 < a
    · rw [if_pos (Or.inr g2)] at he
      rw [he]
      show Calls _ _ _ _ fun e w' => e = .returned (.tuple #[.string ⟨(encL a).toArray⟩, .int .i64 ((i + 5 : Nat) : Int)]) ∧ _
      have HP := Lib.hid (fun w => point_any a (by unfold isPt; rw [decide_eq_true_eq]; omega) w)
      have d1 : decide (56320 ≤ (a : Int)) = true := by simp; omega
      have d3 : decide ((a : Int) ≤ 57343) = false := by simp; omega
      have d2 : decide ((a : Int) < 55296) = false := by simp; omega
      have d4 : decide (57343 < (a : Int)) = true := by simp; omega
      generalize encL a = l at *
      clear he hua g1 g2
      generalize (a : Int) = z at *
      go_enter Tryz.func132, Tryz.ntmps132
      go_wp2_with fail
      refine (HU.out _).mono ?_
      rintro e w' ⟨rfl, rfl⟩
      go_wp2_with fail
      refine (HP.out _).mono ?_
      rintro e w1 ⟨rfl, hb⟩
      have HB := Lib.hid hb
      clear hb
      go_wp2_with fail
      go_ret2
      exact ⟨rfl, HB.out⟩
    rw [if_neg (by omega)] at he
    by_cases g3 : 56320 ≤ a
    · rw [if_pos g3] at he
      rw [he]
      show Calls _ _ _ _ fun e w' => e = .returned (.tuple #[.string ⟨#[]⟩, .int .i64 0]) ∧ _
      have d1 : decide (56320 ≤ (a : Int)) = true := by simp; omega
      have d3 : decide ((a : Int) ≤ 57343) = true := by simp; omega
      clear he hua g1 g2 g3
      generalize (a : Int) = z at *
      go_enter Tryz.func132, Tryz.ntmps132
      go_wp2_with fail
      refine (HU.out _).mono ?_
      rintro e w' ⟨rfl, rfl⟩
      go_wp2_with fail
      go_ret2
      exact ⟨rfl, Below.refl _ _⟩
    rw [if_neg g3] at he
    have d1 : decide (56320 ≤ (a : Int)) = false := by simp; omega
    have d2 : decide ((a : Int) < 55296) = false := by simp; omega
    have d4 : decide (57343 < (a : Int)) = false := by simp; omega
    have HI : Hid (∀ w, Calls Tryz.prog 133 #[.string s, .int .i64 ((i : Int) + 5), .int .u8 92] w fun e w' => e = .returned (.bool (fst (is1 92) (rest s (i + 5)))) ∧ w = w') := Lib.hid (fun w => is_any s (i + 5) 92 w)
    have H2 : Hid (∀ w, Calls Tryz.prog 146 #[.string s, .int .i64 ((i : Int) + 6)] w fun e w' => e = .returned (.int .i64 (hexV (unitU (rest s (i + 6))))) ∧ w = w') := Lib.hid (fun w => refHex_any s (i + 6) hs w)
    by_cases h5 : fst (is1 92) (rest s (i + 5)) = true
    · rw [if_pos h5] at he
      rw [h5] at HI
      rw [he]
      clear he
      cases hu2 : unitU (rest s (i + 6)) with
      | none =>
        rw [hu2] at H2
        unfold hexV at H2
        show Calls _ _ _ _ fun e w' => e = .returned (.tuple #[.string ⟨#[]⟩, .int .i64 0]) ∧ _
        clear hu2 h5 hua g1 g2 g3
        generalize (a : Int) = z at *
        go_enter Tryz.func132, Tryz.ntmps132
        go_wp2_with fail
        refine (HU.out _).mono ?_
        rintro e w' ⟨rfl, rfl⟩
        go_wp2_with fail
        refine (HI.out _).mono ?_
        rintro e w' ⟨rfl, rfl⟩
        go_wp2_with fail
        refine (H2.out _).mono ?_
        rintro e w' ⟨rfl, rfl⟩
        go_wp2_with fail
        go_ret2
        exact ⟨rfl, Below.refl _ _⟩
      | some b =>
        have hub := (unitU_lt hu2).1
        rw [hu2] at H2
        have hV : hexV (some b) = (b : Int) := rfl
        rw [hV] at H2
        clear hu2 h5 hV
        by_cases g4 : b < 56320
        · simp only [if_pos (Or.inl g4 : b < 56320 ∨ 57343 < b)]
          show Calls _ _ _ _ fun e w' => e = .returned (.tuple #[.string ⟨#[]⟩, .int .i64 0]) ∧ _
          have e1 : decide ((b : Int) < 56320) = true := by simp; omega
          clear hub hua g1 g2 g3 g4
          generalize (a : Int) = z at *
          generalize (b : Int) = y at *
          go_enter Tryz.func132, Tryz.ntmps132
          go_wp2_with fail
          refine (HU.out _).mono ?_
          rintro e w' ⟨rfl, rfl⟩
          go_wp2_with fail
          refine (HI.out _).mono ?_
          rintro e w' ⟨rfl, rfl⟩
          go_wp2_with fail
          refine (H2.out _).mono ?_
          rintro e w' ⟨rfl, rfl⟩
          go_wp2_with fail
          go_ret2
          exact ⟨rfl, Below.refl _ _⟩
        by_cases g5 : 57343 < b
        · simp only [if_pos (Or.inr g5 : b < 56320 ∨ 57343 < b)]
          show Calls _ _ _ _ fun e w' => e = .returned (.tuple #[.string ⟨#[]⟩, .int .i64 0]) ∧ _
          have e1 : decide ((b : Int) < 56320) = false := by simp; omega
          have e2 : decide (57343 < (b : Int)) = true := by simp; omega
          clear hub hua g1 g2 g3 g4 g5
          generalize (a : Int) = z at *
          generalize (b : Int) = y at *
          go_enter Tryz.func132, Tryz.ntmps132
          go_wp2_with fail
          refine (HU.out _).mono ?_
          rintro e w' ⟨rfl, rfl⟩
          go_wp2_with fail
          refine (HI.out _).mono ?_
          rintro e w' ⟨rfl, rfl⟩
          go_wp2_with fail
          refine (H2.out _).mono ?_
          rintro e w' ⟨rfl, rfl⟩
          go_wp2_with fail
          go_ret2
          exact ⟨rfl, Below.refl _ _⟩
        simp only [if_neg (by omega : ¬ (b < 56320 ∨ 57343 < b))]
        have HP : Hid (∀ w, Calls Tryz.prog 147 #[.int .i64 (65536 + 1024 * ((a : Int) - 55296) + (b : Int) - 56320)] w fun e w' => e = .returned (.string ⟨(encL (65536 + (a - 55296) * 1024 + (b - 56320))).toArray⟩) ∧ Below w.heap.size w w') := Lib.hid (fun w => by
          have := point_any (65536 + (a - 55296) * 1024 + (b - 56320)) (by unfold isPt; rw [decide_eq_true_eq]; omega) w
          rwa [show ((65536 + (a - 55296) * 1024 + (b - 56320) : Nat) : Int) = 65536 + 1024 * ((a : Int) - 55296) + (b : Int) - 56320 by omega] at this)
        show Calls _ _ _ _ fun e w' => e = .returned (.tuple #[.string ⟨(encL (65536 + (a - 55296) * 1024 + (b - 56320))).toArray⟩, .int .i64 ((i + 11 : Nat) : Int)]) ∧ _
        generalize encL (65536 + (a - 55296) * 1024 + (b - 56320)) = l at *
        have e1 : decide ((b : Int) < 56320) = false := by simp; omega
        have e2 : decide (57343 < (b : Int)) = false := by simp; omega
        have b1 : 55296 ≤ (a : Int) := by omega
        have b2 : (a : Int) ≤ 56319 := by omega
        have b3 : 56320 ≤ (b : Int) := by omega
        have b4 : (b : Int) ≤ 57343 := by omega
        clear hub hua g1 g2 g3 g4 g5
        generalize (a : Int) = z at *
        generalize (b : Int) = y at *
        go_enter Tryz.func132, Tryz.ntmps132
        go_wp2_with fail
        refine (HU.out _).mono ?_
        rintro e w' ⟨rfl, rfl⟩
        go_wp2_with fail
        refine (HI.out _).mono ?_
        rintro e w' ⟨rfl, rfl⟩
        go_wp2_with fail
        refine (H2.out _).mono ?_
        rintro e w' ⟨rfl, rfl⟩
        go_wp2_with fail
        refine (HP.out _).mono ?_
        rintro e w1 ⟨rfl, hb⟩
        have HB := Lib.hid hb
        clear hb
        go_wp2_with fail
        go_ret2
        exact ⟨rfl, HB.out⟩
    · have h5f : fst (is1 92) (rest s (i + 5)) = false := by simpa using h5
      rw [if_neg h5] at he
      rw [h5f] at HI
      rw [he]
      show Calls _ _ _ _ fun e w' => e = .returned (.tuple #[.string ⟨#[]⟩, .int .i64 0]) ∧ _
      clear he h5 h5f hua g1 g2 g3
      generalize (a : Int) = z at *
      go_enter Tryz.func132, Tryz.ntmps132
      go_wp2_with fail
      refine (HU.out _).mono ?_
      rintro e w' ⟨rfl, rfl⟩
      go_wp2_with fail
      refine (HI.out _).mono ?_
      rintro e w' ⟨rfl, rfl⟩
      go_wp2_with fail
      go_ret2
      exact ⟨rfl, Below.refl _ _⟩
end Go.Proofs.YtmkjoonbjmieoaaGreatDoor
