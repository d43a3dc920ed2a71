/-
  NumBack (P1.7, the stage's theorem): for every two int64 the law returns true and leaves all memory that was there as it was. Condition: Facts (the listed variables), both numbers are int64s.
-/
import Derived.Test.YtlinoncoanpcdaaGreatDoorIntBack
import Derived.Test.YtlinoncoanpcdaaGreatDoorQuot
import Derived.Lib.ItoaLen
namespace Go.Proofs.YtlinoncoanpcdaaGreatDoor
open Go.RowKit Go.Lib

/-- Int of Text, in one call each. -/
theorem back_nonneg (a : Int) (h0 : 0 ≤ a) (h1 : a ≤ 9223372036854775807) (w : World) : Calls Tryz.prog 13 #[.string ⟨(Lib.itoa a).toArray⟩] w fun e w' => e = .returned (.tuple #[.int .i64 a, .int .i64 0]) ∧ Below w.heap.size w w' := by
  obtain ⟨u, rfl⟩ := Int.eq_ofNat_of_zero_le h0
  have hl := Lib.itoa_length_le (u : Int) (by omega) h1
  have hd : (⟨(Lib.itoa (u : Int)).toArray⟩ : ByteArray).data.toList = decDigits u := by simp [Lib.itoa_nonneg]
  refine int_ok _ _ ?_ (by rw [hd]; exact whole_decDigits u) (by rw [hd]; exact parseInt_decDigits u (by omega)) w
  show (Lib.itoa (u : Int)).toArray.size ≤ _
  rw [List.size_toArray]
  omega
theorem back_neg (a : Int) (h0 : a < 0) (hlo : -9223372036854775808 ≤ a) (w : World) : Calls Tryz.prog 13 #[.string ⟨(Lib.itoa a).toArray⟩] w fun e w' => e = .returned (.tuple #[.int .i64 0, .int .i64 4]) ∧ w = w' := by
  have hl := Lib.itoa_length_le a hlo (by omega)
  refine int_form _ ?_ ?_ w
  · show (Lib.itoa a).toArray.size ≤ _
    rw [List.size_toArray]
    unfold maxLen
    omega
  · show wholeB (Lib.itoa a).toArray.toList = false
    unfold Lib.itoa
    rw [if_pos h0]
    exact not_whole_neg _
set_option maxRecDepth 100000 in
set_option maxHeartbeats 1000000 in
theorem back_pz (a : Int) (ha : 0 ≤ a) (ha0 : -9223372036854775808 ≤ a) (ha1 : a ≤ 9223372036854775807) (w : World) (h : Facts w) : Calls Tryz.prog 9 #[.int .i64 a, .int .i64 0] w fun e w' => e = .returned (.bool true) ∧ Below w.heap.size w w' := by
  have HT := Lib.hid (text_any a ha0 ha1 w h)
  have HI := Lib.hid (fun w => back_nonneg a ha ha1 w)
  have HF := Lib.hid h
  clear h
  clear ha0 ha1
  go_enter Tryz.func9, Tryz.ntmps9
  go_wp2_with fail
  refine HT.out.mono ?_
  rintro e w1 ⟨rfl, hb1'⟩
  have HB1 := Lib.hid hb1'
  clear hb1'
  go_wp2_with fail
  refine (HI.out _).mono ?_
  rintro e w2 ⟨rfl, hb2'⟩
  have HB2 := Lib.hid (HB1.out.trans (hb2'.mono HB1.out.size))
  clear hb2' HB1
  go_wp2_with fail
  refine (div_zero _ _).mono ?_
  rintro e w' ⟨rfl, rfl⟩
  go_wp2_with fail
  refine (rem_zero _ _).mono ?_
  rintro e w' ⟨rfl, rfl⟩
  go_wp2_with fail
  refine (awake_any _ (HF.out.below HB2.out)).mono ?_
  rintro e w3 ⟨rfl, hb3'⟩
  have HB3 := Lib.hid (HB2.out.trans (hb3'.mono HB2.out.size))
  clear hb3' HB2
  go_wp2_with fail
  go_ret
  exact ⟨rfl, HB3.out⟩
set_option maxRecDepth 100000 in
set_option maxHeartbeats 1000000 in
theorem back_ppz (a b q r : Int) (ha : 0 ≤ a) (ha0 : -9223372036854775808 ≤ a) (ha1 : a ≤ 9223372036854775807) (hb : 0 < b) (_hb0 : -9223372036854775808 ≤ b) (hb1 : b ≤ 9223372036854775807) (hr : r = 0) (hs : (wAdd (wMul b q) r != a) = false) (hD : Hid (∀ w, Calls Tryz.prog 24 #[.int .i64 a, .int .i64 b] w fun e w' => e = .returned (.tuple #[.int .i64 q, .bool true]) ∧ w = w')) (hR : Hid (∀ w, Calls Tryz.prog 25 #[.int .i64 a, .int .i64 b] w fun e w' => e = .returned (.tuple #[.int .i64 r, .bool true]) ∧ w = w')) (w : World) (h : Facts w) : Calls Tryz.prog 9 #[.int .i64 a, .int .i64 b] w fun e w' => e = .returned (.bool true) ∧ Below w.heap.size w w' := by
  subst hr
  have hbn : (b != 0) = true := by simp only [bne_iff_ne, ne_eq]; omega
  have HT := Lib.hid (text_any a ha0 ha1 w h)
  have HI := Lib.hid (fun w => back_nonneg a ha ha1 w)
  have HF := Lib.hid h
  clear h
  go_enter Tryz.func9, Tryz.ntmps9
  go_wp2_with fail
  refine HT.out.mono ?_
  rintro e w1 ⟨rfl, hb1'⟩
  have HB1 := Lib.hid hb1'
  clear hb1'
  go_wp2_with fail
  refine (HI.out _).mono ?_
  rintro e w2 ⟨rfl, hb2'⟩
  have HB2 := Lib.hid (HB1.out.trans (hb2'.mono HB1.out.size))
  clear hb2' HB1
  go_wp2_with fail
  refine (hD.out _).mono ?_
  rintro e w' ⟨rfl, rfl⟩
  go_wp2_with fail
  refine (hR.out _).mono ?_
  rintro e w' ⟨rfl, rfl⟩
  go_wp2_with fail
  refine (mul_any _ _ _).mono ?_
  rintro e w' ⟨rfl, rfl⟩
  go_wp2_with fail
  refine (add_any _ _ _).mono ?_
  rintro e w' ⟨rfl, rfl⟩
  go_wp2_with fail
  refine (awake_any _ (HF.out.below HB2.out)).mono ?_
  rintro e w3 ⟨rfl, hb3'⟩
  have HB3 := Lib.hid (HB2.out.trans (hb3'.mono HB2.out.size))
  clear hb3' HB2
  go_wp2_with fail
  go_ret
  exact ⟨rfl, HB3.out⟩
set_option maxRecDepth 100000 in
set_option maxHeartbeats 1000000 in
theorem back_ppp (a b q r : Int) (ha : 0 ≤ a) (ha0 : -9223372036854775808 ≤ a) (ha1 : a ≤ 9223372036854775807) (hb : 0 < b) (_hb0 : -9223372036854775808 ≤ b) (hb1 : b ≤ 9223372036854775807) (hr : 0 < r) (hrb : r < b) (hs : (wAdd (wMul b q) r != a) = false) (hD : Hid (∀ w, Calls Tryz.prog 24 #[.int .i64 a, .int .i64 b] w fun e w' => e = .returned (.tuple #[.int .i64 q, .bool true]) ∧ w = w')) (hR : Hid (∀ w, Calls Tryz.prog 25 #[.int .i64 a, .int .i64 b] w fun e w' => e = .returned (.tuple #[.int .i64 r, .bool true]) ∧ w = w')) (w : World) (h : Facts w) : Calls Tryz.prog 9 #[.int .i64 a, .int .i64 b] w fun e w' => e = .returned (.bool true) ∧ Below w.heap.size w w' := by
  have hbn : (b != 0) = true := by simp only [bne_iff_ne, ne_eq]; omega
  have hrn : (r != 0) = true := by simp only [bne_iff_ne, ne_eq]; omega
  have hd1 : decide (r < 0) = false := by simp only [decide_eq_false_iff_not]; omega
  have hd2 : decide (a < 0) = false := by simp only [decide_eq_false_iff_not]; omega
  have HT := Lib.hid (text_any a ha0 ha1 w h)
  have HI := Lib.hid (fun w => back_nonneg a ha ha1 w)
  have HF := Lib.hid h
  clear h
  go_enter Tryz.func9, Tryz.ntmps9
  go_wp2_with fail
  refine HT.out.mono ?_
  rintro e w1 ⟨rfl, hb1'⟩
  have HB1 := Lib.hid hb1'
  clear hb1'
  go_wp2_with fail
  refine (HI.out _).mono ?_
  rintro e w2 ⟨rfl, hb2'⟩
  have HB2 := Lib.hid (HB1.out.trans (hb2'.mono HB1.out.size))
  clear hb2' HB1
  go_wp2_with fail
  refine (hD.out _).mono ?_
  rintro e w' ⟨rfl, rfl⟩
  go_wp2_with fail
  refine (hR.out _).mono ?_
  rintro e w' ⟨rfl, rfl⟩
  go_wp2_with fail
  refine (mul_any _ _ _).mono ?_
  rintro e w' ⟨rfl, rfl⟩
  go_wp2_with fail
  refine (add_any _ _ _).mono ?_
  rintro e w' ⟨rfl, rfl⟩
  go_wp2_with fail
  refine (awake_any _ (HF.out.below HB2.out)).mono ?_
  rintro e w3 ⟨rfl, hb3'⟩
  have HB3 := Lib.hid (HB2.out.trans (hb3'.mono HB2.out.size))
  clear hb3' HB2
  go_wp2_with fail
  go_ret
  exact ⟨rfl, HB3.out⟩
set_option maxRecDepth 100000 in
set_option maxHeartbeats 1000000 in
theorem back_pnz (a b q r : Int) (ha : 0 ≤ a) (ha0 : -9223372036854775808 ≤ a) (ha1 : a ≤ 9223372036854775807) (hb : b < 0) (hb0 : -9223372036854775808 ≤ b) (_hb1 : b ≤ 9223372036854775807) (hr : r = 0) (hs : (wAdd (wMul b q) r != a) = false) (hD : Hid (∀ w, Calls Tryz.prog 24 #[.int .i64 a, .int .i64 b] w fun e w' => e = .returned (.tuple #[.int .i64 q, .bool true]) ∧ w = w')) (hR : Hid (∀ w, Calls Tryz.prog 25 #[.int .i64 a, .int .i64 b] w fun e w' => e = .returned (.tuple #[.int .i64 r, .bool true]) ∧ w = w')) (w : World) (h : Facts w) : Calls Tryz.prog 9 #[.int .i64 a, .int .i64 b] w fun e w' => e = .returned (.bool true) ∧ Below w.heap.size w w' := by
  subst hr
  have hbn : (b != 0) = true := by simp only [bne_iff_ne, ne_eq]; omega
  have HT := Lib.hid (text_any a ha0 ha1 w h)
  have HI := Lib.hid (fun w => back_nonneg a ha ha1 w)
  have HF := Lib.hid h
  clear h
  go_enter Tryz.func9, Tryz.ntmps9
  go_wp2_with fail
  refine HT.out.mono ?_
  rintro e w1 ⟨rfl, hb1'⟩
  have HB1 := Lib.hid hb1'
  clear hb1'
  go_wp2_with fail
  refine (HI.out _).mono ?_
  rintro e w2 ⟨rfl, hb2'⟩
  have HB2 := Lib.hid (HB1.out.trans (hb2'.mono HB1.out.size))
  clear hb2' HB1
  go_wp2_with fail
  refine (hD.out _).mono ?_
  rintro e w' ⟨rfl, rfl⟩
  go_wp2_with fail
  refine (hR.out _).mono ?_
  rintro e w' ⟨rfl, rfl⟩
  go_wp2_with fail
  refine (mul_any _ _ _).mono ?_
  rintro e w' ⟨rfl, rfl⟩
  go_wp2_with fail
  refine (add_any _ _ _).mono ?_
  rintro e w' ⟨rfl, rfl⟩
  go_wp2_with fail
  refine (awake_any _ (HF.out.below HB2.out)).mono ?_
  rintro e w3 ⟨rfl, hb3'⟩
  have HB3 := Lib.hid (HB2.out.trans (hb3'.mono HB2.out.size))
  clear hb3' HB2
  go_wp2_with fail
  go_ret
  exact ⟨rfl, HB3.out⟩
set_option maxRecDepth 100000 in
set_option maxHeartbeats 1000000 in
theorem back_pnp (a b q r : Int) (ha : 0 ≤ a) (ha0 : -9223372036854775808 ≤ a) (ha1 : a ≤ 9223372036854775807) (hb : b < 0) (hb0 : -9223372036854775808 ≤ b) (_hb1 : b ≤ 9223372036854775807) (hr : 0 < r) (hrb : r < -b) (hs : (wAdd (wMul b q) r != a) = false) (hD : Hid (∀ w, Calls Tryz.prog 24 #[.int .i64 a, .int .i64 b] w fun e w' => e = .returned (.tuple #[.int .i64 q, .bool true]) ∧ w = w')) (hR : Hid (∀ w, Calls Tryz.prog 25 #[.int .i64 a, .int .i64 b] w fun e w' => e = .returned (.tuple #[.int .i64 r, .bool true]) ∧ w = w')) (w : World) (h : Facts w) : Calls Tryz.prog 9 #[.int .i64 a, .int .i64 b] w fun e w' => e = .returned (.bool true) ∧ Below w.heap.size w w' := by
  have hbn : (b != 0) = true := by simp only [bne_iff_ne, ne_eq]; omega
  have hrn : (r != 0) = true := by simp only [bne_iff_ne, ne_eq]; omega
  have hd1 : decide (r < 0) = false := by simp only [decide_eq_false_iff_not]; omega
  have hd2 : decide (a < 0) = false := by simp only [decide_eq_false_iff_not]; omega
  have HT := Lib.hid (text_any a ha0 ha1 w h)
  have HI := Lib.hid (fun w => back_nonneg a ha ha1 w)
  have HF := Lib.hid h
  clear h
  go_enter Tryz.func9, Tryz.ntmps9
  go_wp2_with fail
  refine HT.out.mono ?_
  rintro e w1 ⟨rfl, hb1'⟩
  have HB1 := Lib.hid hb1'
  clear hb1'
  go_wp2_with fail
  refine (HI.out _).mono ?_
  rintro e w2 ⟨rfl, hb2'⟩
  have HB2 := Lib.hid (HB1.out.trans (hb2'.mono HB1.out.size))
  clear hb2' HB1
  go_wp2_with fail
  refine (hD.out _).mono ?_
  rintro e w' ⟨rfl, rfl⟩
  go_wp2_with fail
  refine (hR.out _).mono ?_
  rintro e w' ⟨rfl, rfl⟩
  go_wp2_with fail
  refine (mul_any _ _ _).mono ?_
  rintro e w' ⟨rfl, rfl⟩
  go_wp2_with fail
  refine (add_any _ _ _).mono ?_
  rintro e w' ⟨rfl, rfl⟩
  go_wp2_with fail
  refine (awake_any _ (HF.out.below HB2.out)).mono ?_
  rintro e w3 ⟨rfl, hb3'⟩
  have HB3 := Lib.hid (HB2.out.trans (hb3'.mono HB2.out.size))
  clear hb3' HB2
  go_wp2_with fail
  go_ret
  exact ⟨rfl, HB3.out⟩
set_option maxRecDepth 100000 in
set_option maxHeartbeats 1000000 in
theorem back_nz (a : Int) (ha : a < 0) (ha0 : -9223372036854775808 ≤ a) (ha1 : a ≤ 9223372036854775807) (w : World) (h : Facts w) : Calls Tryz.prog 9 #[.int .i64 a, .int .i64 0] w fun e w' => e = .returned (.bool true) ∧ Below w.heap.size w w' := by
  have HT := Lib.hid (text_any a ha0 ha1 w h)
  have HI := Lib.hid (fun w => back_neg a ha ha0 w)
  have HF := Lib.hid h
  clear h
  clear ha0 ha1
  go_enter Tryz.func9, Tryz.ntmps9
  go_wp2_with fail
  refine HT.out.mono ?_
  rintro e w1 ⟨rfl, hb1'⟩
  have HB1 := Lib.hid hb1'
  clear hb1'
  go_wp2_with fail
  refine (HI.out _).mono ?_
  rintro e w2 ⟨rfl, hb2'⟩
  have HB2 := Lib.hid (hb2' ▸ HB1.out)
  clear hb2' HB1
  go_wp2_with fail
  refine (div_zero _ _).mono ?_
  rintro e w' ⟨rfl, rfl⟩
  go_wp2_with fail
  refine (rem_zero _ _).mono ?_
  rintro e w' ⟨rfl, rfl⟩
  go_wp2_with fail
  refine (awake_any _ (HF.out.below HB2.out)).mono ?_
  rintro e w3 ⟨rfl, hb3'⟩
  have HB3 := Lib.hid (HB2.out.trans (hb3'.mono HB2.out.size))
  clear hb3' HB2
  go_wp2_with fail
  go_ret
  exact ⟨rfl, HB3.out⟩
set_option maxRecDepth 100000 in
set_option maxHeartbeats 1000000 in
theorem back_npz (a b q r : Int) (ha : a < 0) (ha0 : -9223372036854775808 ≤ a) (ha1 : a ≤ 9223372036854775807) (hb : 0 < b) (_hb0 : -9223372036854775808 ≤ b) (hb1 : b ≤ 9223372036854775807) (hr : r = 0) (hs : (wAdd (wMul b q) r != a) = false) (hD : Hid (∀ w, Calls Tryz.prog 24 #[.int .i64 a, .int .i64 b] w fun e w' => e = .returned (.tuple #[.int .i64 q, .bool true]) ∧ w = w')) (hR : Hid (∀ w, Calls Tryz.prog 25 #[.int .i64 a, .int .i64 b] w fun e w' => e = .returned (.tuple #[.int .i64 r, .bool true]) ∧ w = w')) (w : World) (h : Facts w) : Calls Tryz.prog 9 #[.int .i64 a, .int .i64 b] w fun e w' => e = .returned (.bool true) ∧ Below w.heap.size w w' := by
  subst hr
  have hbn : (b != 0) = true := by simp only [bne_iff_ne, ne_eq]; omega
  have HT := Lib.hid (text_any a ha0 ha1 w h)
  have HI := Lib.hid (fun w => back_neg a ha ha0 w)
  have HF := Lib.hid h
  clear h
  go_enter Tryz.func9, Tryz.ntmps9
  go_wp2_with fail
  refine HT.out.mono ?_
  rintro e w1 ⟨rfl, hb1'⟩
  have HB1 := Lib.hid hb1'
  clear hb1'
  go_wp2_with fail
  refine (HI.out _).mono ?_
  rintro e w2 ⟨rfl, hb2'⟩
  have HB2 := Lib.hid (hb2' ▸ HB1.out)
  clear hb2' HB1
  go_wp2_with fail
  refine (hD.out _).mono ?_
  rintro e w' ⟨rfl, rfl⟩
  go_wp2_with fail
  refine (hR.out _).mono ?_
  rintro e w' ⟨rfl, rfl⟩
  go_wp2_with fail
  refine (mul_any _ _ _).mono ?_
  rintro e w' ⟨rfl, rfl⟩
  go_wp2_with fail
  refine (add_any _ _ _).mono ?_
  rintro e w' ⟨rfl, rfl⟩
  go_wp2_with fail
  refine (awake_any _ (HF.out.below HB2.out)).mono ?_
  rintro e w3 ⟨rfl, hb3'⟩
  have HB3 := Lib.hid (HB2.out.trans (hb3'.mono HB2.out.size))
  clear hb3' HB2
  go_wp2_with fail
  go_ret
  exact ⟨rfl, HB3.out⟩
set_option maxRecDepth 100000 in
set_option maxHeartbeats 1000000 in
theorem back_npn (a b q r : Int) (ha : a < 0) (ha0 : -9223372036854775808 ≤ a) (ha1 : a ≤ 9223372036854775807) (hb : 0 < b) (_hb0 : -9223372036854775808 ≤ b) (hb1 : b ≤ 9223372036854775807) (hr : r < 0) (hrb : -b < r) (hs : (wAdd (wMul b q) r != a) = false) (hD : Hid (∀ w, Calls Tryz.prog 24 #[.int .i64 a, .int .i64 b] w fun e w' => e = .returned (.tuple #[.int .i64 q, .bool true]) ∧ w = w')) (hR : Hid (∀ w, Calls Tryz.prog 25 #[.int .i64 a, .int .i64 b] w fun e w' => e = .returned (.tuple #[.int .i64 r, .bool true]) ∧ w = w')) (w : World) (h : Facts w) : Calls Tryz.prog 9 #[.int .i64 a, .int .i64 b] w fun e w' => e = .returned (.bool true) ∧ Below w.heap.size w w' := by
  have hbn : (b != 0) = true := by simp only [bne_iff_ne, ne_eq]; omega
  have hrn : (r != 0) = true := by simp only [bne_iff_ne, ne_eq]; omega
  have HT := Lib.hid (text_any a ha0 ha1 w h)
  have HI := Lib.hid (fun w => back_neg a ha ha0 w)
  have HF := Lib.hid h
  clear h
  go_enter Tryz.func9, Tryz.ntmps9
  go_wp2_with fail
  refine HT.out.mono ?_
  rintro e w1 ⟨rfl, hb1'⟩
  have HB1 := Lib.hid hb1'
  clear hb1'
  go_wp2_with fail
  refine (HI.out _).mono ?_
  rintro e w2 ⟨rfl, hb2'⟩
  have HB2 := Lib.hid (hb2' ▸ HB1.out)
  clear hb2' HB1
  go_wp2_with fail
  refine (hD.out _).mono ?_
  rintro e w' ⟨rfl, rfl⟩
  go_wp2_with fail
  refine (hR.out _).mono ?_
  rintro e w' ⟨rfl, rfl⟩
  go_wp2_with fail
  refine (mul_any _ _ _).mono ?_
  rintro e w' ⟨rfl, rfl⟩
  go_wp2_with fail
  refine (add_any _ _ _).mono ?_
  rintro e w' ⟨rfl, rfl⟩
  go_wp2_with fail
  refine (awake_any _ (HF.out.below HB2.out)).mono ?_
  rintro e w3 ⟨rfl, hb3'⟩
  have HB3 := Lib.hid (HB2.out.trans (hb3'.mono HB2.out.size))
  clear hb3' HB2
  go_wp2_with fail
  go_ret
  exact ⟨rfl, HB3.out⟩
set_option maxRecDepth 100000 in
set_option maxHeartbeats 1000000 in
theorem back_nnz (a b q r : Int) (ha : a < 0) (ha0 : -9223372036854775808 ≤ a) (ha1 : a ≤ 9223372036854775807) (hb : b < 0) (hb0 : -9223372036854775808 ≤ b) (_hb1 : b ≤ 9223372036854775807) (hr : r = 0) (hs : (wAdd (wMul b q) r != a) = false) (hD : Hid (∀ w, Calls Tryz.prog 24 #[.int .i64 a, .int .i64 b] w fun e w' => e = .returned (.tuple #[.int .i64 q, .bool true]) ∧ w = w')) (hR : Hid (∀ w, Calls Tryz.prog 25 #[.int .i64 a, .int .i64 b] w fun e w' => e = .returned (.tuple #[.int .i64 r, .bool true]) ∧ w = w')) (w : World) (h : Facts w) : Calls Tryz.prog 9 #[.int .i64 a, .int .i64 b] w fun e w' => e = .returned (.bool true) ∧ Below w.heap.size w w' := by
  subst hr
  have hbn : (b != 0) = true := by simp only [bne_iff_ne, ne_eq]; omega
  have HT := Lib.hid (text_any a ha0 ha1 w h)
  have HI := Lib.hid (fun w => back_neg a ha ha0 w)
  have HF := Lib.hid h
  clear h
  go_enter Tryz.func9, Tryz.ntmps9
  go_wp2_with fail
  refine HT.out.mono ?_
  rintro e w1 ⟨rfl, hb1'⟩
  have HB1 := Lib.hid hb1'
  clear hb1'
  go_wp2_with fail
  refine (HI.out _).mono ?_
  rintro e w2 ⟨rfl, hb2'⟩
  have HB2 := Lib.hid (hb2' ▸ HB1.out)
  clear hb2' HB1
  go_wp2_with fail
  refine (hD.out _).mono ?_
  rintro e w' ⟨rfl, rfl⟩
  go_wp2_with fail
  refine (hR.out _).mono ?_
  rintro e w' ⟨rfl, rfl⟩
  go_wp2_with fail
  refine (mul_any _ _ _).mono ?_
  rintro e w' ⟨rfl, rfl⟩
  go_wp2_with fail
  refine (add_any _ _ _).mono ?_
  rintro e w' ⟨rfl, rfl⟩
  go_wp2_with fail
  refine (awake_any _ (HF.out.below HB2.out)).mono ?_
  rintro e w3 ⟨rfl, hb3'⟩
  have HB3 := Lib.hid (HB2.out.trans (hb3'.mono HB2.out.size))
  clear hb3' HB2
  go_wp2_with fail
  go_ret
  exact ⟨rfl, HB3.out⟩
set_option maxRecDepth 100000 in
set_option maxHeartbeats 1000000 in
theorem back_nnn (a b q r : Int) (ha : a < 0) (ha0 : -9223372036854775808 ≤ a) (ha1 : a ≤ 9223372036854775807) (hb : b < 0) (hb0 : -9223372036854775808 ≤ b) (_hb1 : b ≤ 9223372036854775807) (hr : r < 0) (hrb : b < r) (hs : (wAdd (wMul b q) r != a) = false) (hD : Hid (∀ w, Calls Tryz.prog 24 #[.int .i64 a, .int .i64 b] w fun e w' => e = .returned (.tuple #[.int .i64 q, .bool true]) ∧ w = w')) (hR : Hid (∀ w, Calls Tryz.prog 25 #[.int .i64 a, .int .i64 b] w fun e w' => e = .returned (.tuple #[.int .i64 r, .bool true]) ∧ w = w')) (w : World) (h : Facts w) : Calls Tryz.prog 9 #[.int .i64 a, .int .i64 b] w fun e w' => e = .returned (.bool true) ∧ Below w.heap.size w w' := by
  have hbn : (b != 0) = true := by simp only [bne_iff_ne, ne_eq]; omega
  have hrn : (r != 0) = true := by simp only [bne_iff_ne, ne_eq]; omega
  have HT := Lib.hid (text_any a ha0 ha1 w h)
  have HI := Lib.hid (fun w => back_neg a ha ha0 w)
  have HF := Lib.hid h
  clear h
  go_enter Tryz.func9, Tryz.ntmps9
  go_wp2_with fail
  refine HT.out.mono ?_
  rintro e w1 ⟨rfl, hb1'⟩
  have HB1 := Lib.hid hb1'
  clear hb1'
  go_wp2_with fail
  refine (HI.out _).mono ?_
  rintro e w2 ⟨rfl, hb2'⟩
  have HB2 := Lib.hid (hb2' ▸ HB1.out)
  clear hb2' HB1
  go_wp2_with fail
  refine (hD.out _).mono ?_
  rintro e w' ⟨rfl, rfl⟩
  go_wp2_with fail
  refine (hR.out _).mono ?_
  rintro e w' ⟨rfl, rfl⟩
  go_wp2_with fail
  refine (mul_any _ _ _).mono ?_
  rintro e w' ⟨rfl, rfl⟩
  go_wp2_with fail
  refine (add_any _ _ _).mono ?_
  rintro e w' ⟨rfl, rfl⟩
  go_wp2_with fail
  refine (awake_any _ (HF.out.below HB2.out)).mono ?_
  rintro e w3 ⟨rfl, hb3'⟩
  have HB3 := Lib.hid (HB2.out.trans (hb3'.mono HB2.out.size))
  clear hb3' HB2
  go_wp2_with fail
  go_ret
  exact ⟨rfl, HB3.out⟩
theorem back_walk (a b : Int) (ha0 : -9223372036854775808 ≤ a) (ha1 : a ≤ 9223372036854775807) (hb0 : -9223372036854775808 ≤ b) (hb1 : b ≤ 9223372036854775807) (w : World) (h : Facts w) :
    Calls Tryz.prog 9 #[.int .i64 a, .int .i64 b] w fun e w' => e = .returned (.bool true) ∧ Below w.heap.size w w' := by
  by_cases hz : b = 0
  · subst hz
    rcases (by omega : a < 0 ∨ 0 ≤ a) with ha | ha
    · exact back_nz a ha ha0 ha1 w h
    · exact back_pz a ha ha0 ha1 w h
  · have hD : Hid (∀ w, Calls Tryz.prog 24 #[.int .i64 a, .int .i64 b] w fun e w' => e = .returned (.tuple #[.int .i64 (wDiv a b), .bool true]) ∧ w = w') := Lib.hid fun w => div_any a b hz w
    have hR : Hid (∀ w, Calls Tryz.prog 25 #[.int .i64 a, .int .i64 b] w fun e w' => e = .returned (.tuple #[.int .i64 (wRem a b), .bool true]) ∧ w = w') := Lib.hid fun w => rem_any a b hz w
    have hs : (wAdd (wMul b (wDiv a b)) (wRem a b) != a) = false := by simp [back_sum a b ha0 ha1]
    have he := wRem_eq a b hb0 hb1 hz
    obtain ⟨t1, t2, t3, t4⟩ := tmod_bounds a b hz
    rw [← he] at t1 t2 t3 t4
    generalize wRem a b = r at hR hs t1 t2 t3 t4
    generalize wDiv a b = q at hD hs
    rcases (by omega : a < 0 ∨ 0 ≤ a) with ha | ha
    · rcases (by omega : b < 0 ∨ 0 ≤ b) with hb | hb
      · by_cases hr : r = 0
        · exact back_nnz a b q r ha ha0 ha1 hb hb0 hb1 hr hs hD hR w h
        · exact back_nnn a b q r ha ha0 ha1 hb hb0 hb1 (by omega) (by omega) hs hD hR w h
      · by_cases hr : r = 0
        · exact back_npz a b q r ha ha0 ha1 (by omega) hb0 hb1 hr hs hD hR w h
        · exact back_npn a b q r ha ha0 ha1 (by omega) hb0 hb1 (by omega) (by omega) hs hD hR w h
    · rcases (by omega : b < 0 ∨ 0 ≤ b) with hb | hb
      · by_cases hr : r = 0
        · exact back_pnz a b q r ha ha0 ha1 hb hb0 hb1 hr hs hD hR w h
        · exact back_pnp a b q r ha ha0 ha1 hb hb0 hb1 (by omega) (by omega) hs hD hR w h
      · by_cases hr : r = 0
        · exact back_ppz a b q r ha ha0 ha1 (by omega) hb0 hb1 hr hs hD hR w h
        · exact back_ppp a b q r ha ha0 ha1 (by omega) hb0 hb1 (by omega) (by omega) hs hD hR w h
end Go.Proofs.YtlinoncoanpcdaaGreatDoor
