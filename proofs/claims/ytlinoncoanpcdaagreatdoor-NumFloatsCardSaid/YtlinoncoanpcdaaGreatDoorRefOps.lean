/-
  THE DOCUMENT's LOOKS AT A WORD (emendref01's Nan, inf, zero, neg, signed, FNeg) at every word: what they return; nothing in memory turns. No condition but the word's bound.
-/
import Derived.Test.YtlinoncoanpcdaaGreatDoorRefToInt
import Derived.Test.YtlinoncoanpcdaaGreatDoorFracOps
import Derived.Test.YtlinoncoanpcdaaGreatDoorBigSum
namespace Go.Proofs.YtlinoncoanpcdaaGreatDoor
open Go.RowKit Ieee

/-- What kind of word it is. -/
theorem kinds (x : Nat) : nanB x = true ∨ (nanB x = false ∧ rg x = 9218868437227405312) ∨ (nanB x = false ∧ rg x = 0) ∨ (nanB x = false ∧ rg x ≠ 0 ∧ rg x < 9218868437227405312) := by
  rw [nanB_eq]
  unfold rg
  by_cases h : 9218868437227405312 < x % 9223372036854775808
  · exact .inl (by simpa using h)
  · rw [decide_eq_false h]
    simp only [Bool.false_eq_true, false_or, true_and]
    omega
theorem nanC (x : Nat) (v : Bool) (h : nanB x = v) (w : World) : Calls Tryz.prog 67 #[.int .u64 (x : Int)] w fun e w' => e = .returned (.bool v) ∧ w = w' := by
  have := refNan_any x w
  rw [h] at this
  exact this
theorem infC (x : Nat) (v : Bool) (h : decide (rg x = 9218868437227405312) = v) (w : World) : Calls Tryz.prog 70 #[.int .u64 (x : Int)] w fun e w' => e = .returned (.bool v) ∧ w = w' := by
  have := refInf_any x w
  rw [← h]
  exact this
theorem zeroC (x : Nat) (v : Bool) (h : decide (rg x = 0) = v) (w : World) : Calls Tryz.prog 72 #[.int .u64 (x : Int)] w fun e w' => e = .returned (.bool v) ∧ w = w' := by
  subst h
  go_enter Tryz.func72, Tryz.ntmps72
  go_wp2
  go_ret
  refine ⟨ret_bool ?_, rfl⟩
  unfold rg
  rw [Bool.eq_iff_iff, beq_iff_eq, decide_eq_true_iff]
  omega
theorem negC (x : Nat) (hx : x < 18446744073709551616) (v : Bool) (h : sg x = v) (w : World) : Calls Tryz.prog 71 #[.int .u64 (x : Int)] w fun e w' => e = .returned (.bool v) ∧ w = w' := by
  have := refNeg_any x hx w
  rw [← h]
  exact this
/-- A rung with a sign, as a word's number. -/
def signV (m : Bool) (f : Nat) : Int := (f : Int) + (if m then 9223372036854775808 else 0)
theorem signedC (m : Bool) (f : Nat) (hf : f < 9223372036854775808) (w : World) : Calls Tryz.prog 73 #[.bool m, .int .u64 (f : Int)] w fun e w' => e = .returned (.int .u64 (signV m f)) ∧ w = w' := by
  unfold signV
  cases m
  · go_enter Tryz.func73, Tryz.ntmps73
    go_wp2_with fail
    go_ret
    exact ⟨ret_u64 (by simp), rfl⟩
  · go_enter Tryz.func73, Tryz.ntmps73
    go_wp2_with fail
    go_ret
    exact ⟨ret_u64 (by simp), rfl⟩
theorem splitC (x : Nat) (w : World) : Calls Tryz.prog 74 #[.int .u64 (x : Int)] w fun e w' => e = .returned (.tuple #[.int .u64 (sigM (rg x) : Int), .int .i64 (sigE (rg x))]) ∧ w = w' := split_any x w
theorem xor_bne (a b : Bool) : (a ^^ b) = (a != b) := by cases a <;> cases b <;> rfl
/-- What Round takes at most. -/
def most : Nat := 2 ^ 4800
theorem most_eq (n : Nat) (h : n = 4800) : most = 2 ^ n := by rw [h]; rfl
theorem pow_16 (k : Nat) : 65536 ^ k = 2 ^ (16 * k) := by rw [show 65536 = 2 ^ 16 from rfl, ← Nat.pow_mul]
theorem norm_short2 {l : List Nat} (h : Norm l) (k n : Nat) (hk : n = 16 * k) (hv : val l < 2 ^ n) : l.length ≤ k := norm_short h k (by rw [pow_16, ← hk]; exact hv)
theorem small_len {l : List Nat} (h : Norm l) (hv : val l < most) : l.length ≤ 300 ∧ bitsV (val l) ≤ 4800 := by
  obtain ⟨n, hn⟩ : ∃ n, n = 4800 := ⟨_, rfl⟩
  rw [most_eq n hn] at hv
  exact ⟨norm_short2 h 300 n (by omega) hv, by have := bits_few hv; omega⟩
theorem pow_bound {M x k : Nat} (h : M < 2 ^ x) (hk : x + k ≤ 4800) : M * 2 ^ k < most := by
  obtain ⟨n, hn⟩ : ∃ n, n = 4800 := ⟨_, rfl⟩
  rw [most_eq n hn]
  have h1 : M * 2 ^ k < 2 ^ x * 2 ^ k := Nat.mul_lt_mul_of_pos_right h (Nat.two_pow_pos k)
  rw [← Nat.pow_add] at h1
  exact Nat.lt_of_lt_of_le h1 (Nat.pow_le_pow_right (by decide) (by omega))
theorem sigM_53 (r : Nat) : sigM r < 2 ^ 53 := sigM_lt r
theorem nan_told {o : Option Nat} (h : o = none) : ((orNaN o : Nat) : Int) = 9221120237041090561 := by rw [h]; rfl
theorem word_told {o : Option Nat} {s : Bool} {r : Nat} (h : o = some (double.word s r)) : ((orNaN o : Nat) : Int) = signV s r := by
  rw [h]
  exact word_num s r
theorem same_told {o : Option Nat} {x : Nat} (h : o = some x) : ((orNaN o : Nat) : Int) = (x : Int) := by rw [h]; rfl
end Go.Proofs.YtlinoncoanpcdaaGreatDoor
