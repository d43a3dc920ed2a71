/-
  NumRing (P1.7): for every three int64 the law returns true and leaves all memory that was there as it was. Condition: Facts (the listed variables).
-/
import Derived.Test.YtlinoncoanpcdaaGreatDoorAwake
import Derived.Test.YtlinoncoanpcdaaGreatDoorInts
namespace Go.Proofs.YtlinoncoanpcdaaGreatDoor
open Go.RowKit

theorem ring1 (a b : Int) : (wAdd a b != wAdd b a) = false := by unfold wAdd; rw [Int.add_comm]; simp
theorem ring2 (a b : Int) : (wMul a b != wMul b a) = false := by unfold wMul; rw [Int.mul_comm]; simp
theorem ring3 (a b : Int) (h0 : -9223372036854775808 ≤ a) (h1 : a ≤ 9223372036854775807) : (wSub (wAdd a b) b != a) = false := by
  have : wSub (wAdd a b) b = a := by unfold wSub wAdd wrap64; omega
  simp [this]
theorem ring4 (a : Int) : (wAdd a (wNeg a) != 0) = false := by
  have : wAdd a (wNeg a) = 0 := by unfold wNeg wAdd wrap64; omega
  simp [this]
theorem ring5 (a b : Int) : (wSub a b != wAdd a (wNeg b)) = false := by
  have : wSub a b = wAdd a (wNeg b) := by unfold wNeg wAdd wSub wrap64; omega
  simp [this]
theorem ring6 (a b c : Int) : (wAdd (wAdd a b) c == wAdd a (wAdd b c)) = true := by
  have : wAdd (wAdd a b) c = wAdd a (wAdd b c) := by unfold wAdd wrap64; omega
  simp [this]
theorem ring7 (a b c : Int) : (wMul (wMul a b) c == wMul a (wMul b c)) = true := by
  have : wMul (wMul a b) c = wMul a (wMul b c) := by
    unfold wMul
    obtain ⟨q1, h1⟩ := wrap64_mod (a * b)
    obtain ⟨q2, h2⟩ := wrap64_mod (b * c)
    rw [h1, h2]
    refine wrap64_eq (q := q1 * c - a * q2) ?_
    rw [Int.add_mul, Int.mul_add, Int.sub_mul, Int.mul_assoc a b c, Int.mul_right_comm q1 _ c, Int.mul_assoc a q2]
    omega
  simp [this]
theorem ring8 (a b c : Int) : (wMul a (wAdd b c) == wAdd (wMul a b) (wMul a c)) = true := by
  have : wMul a (wAdd b c) = wAdd (wMul a b) (wMul a c) := by
    unfold wMul wAdd
    obtain ⟨q1, h1⟩ := wrap64_mod (b + c)
    obtain ⟨q2, h2⟩ := wrap64_mod (a * b)
    obtain ⟨q3, h3⟩ := wrap64_mod (a * c)
    rw [h1, h2, h3]
    refine wrap64_eq (q := a * q1 - q2 - q3) ?_
    rw [Int.mul_add, Int.mul_add, Int.sub_mul, Int.sub_mul, Int.mul_assoc a q1]
    omega
  simp [this]
theorem ring9 (a : Int) (h0 : -9223372036854775808 ≤ a) (h1 : a ≤ 9223372036854775807) : (wMul a 1 == a) = true := by
  have : wMul a 1 = a := by unfold wMul wrap64; omega
  simp [this]

set_option maxRecDepth 100000 in
set_option maxHeartbeats 1000000 in
theorem ring_walk (a b c : Int) (h0 : -9223372036854775808 ≤ a) (h1 : a ≤ 9223372036854775807) (w : World) (h : Facts w) :
    Calls Tryz.prog 10 #[.int .i64 a, .int .i64 b, .int .i64 c] w fun e w' => e = .returned (.bool true) ∧ Below w.heap.size w w' := by
  have f1 := ring1 a b
  have f2 := ring2 a b
  have f3 := ring3 a b h0 h1
  have f4 := ring4 a
  have f5 := ring5 a b
  have f6 := ring6 a b c
  have f7 := ring7 a b c
  have f8 := ring8 a b c
  have f9 := ring9 a h0 h1
  clear h0 h1
  have HF := Lib.hid h
  clear h
  go_enter Tryz.func10, Tryz.ntmps10
  go_wp2_with (first | (go_at_call 27; refine (add_any _ _ _).mono ?_; rintro e w' ⟨rfl, rfl⟩) | (go_at_call 28; refine (sub_any _ _ _).mono ?_; rintro e w' ⟨rfl, rfl⟩) | (go_at_call 29; refine (neg_any _ _).mono ?_; rintro e w' ⟨rfl, rfl⟩) | (go_at_call 30; refine (mul_any _ _ _).mono ?_; rintro e w' ⟨rfl, rfl⟩) | (go_at_call 18; refine (awake_any _ HF.out).mono ?_; rintro e w1 ⟨rfl, hb⟩; refine Hid.out ?_))
  refine Lib.hid ?_
  have HB := Lib.hid hb
  clear hb
  go_wp2_with fail
  go_ret
  exact ⟨rfl, HB.out⟩
end Go.Proofs.YtlinoncoanpcdaaGreatDoor
