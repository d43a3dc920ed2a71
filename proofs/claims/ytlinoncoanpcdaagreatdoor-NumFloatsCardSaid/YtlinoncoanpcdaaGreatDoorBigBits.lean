/-
  THE DOCUMENT's NATURAL NUMBERS (emendref01.Bits): how many bits a number has; nothing in memory turns. Condition: the slice reads as digits below 65536.
-/
import Derived.Test.YtlinoncoanpcdaaGreatDoorBigCmp
namespace Go.Proofs.YtlinoncoanpcdaaGreatDoor
open Go.RowKit

/-- How many bits a number has. -/
def bitsV (v : Nat) : Nat := if v = 0 then 0 else v.log2 + 1
/-- A digit of a number. -/
theorem val_digit (l : List Nat) (h : ∀ z ∈ l, z < 65536) (i x : Nat) (hx : l[i]? = some x) : val l / 65536 ^ i % 65536 = x := by
  have hi := (List.getElem?_eq_some_iff.1 hx).1
  have s := val_split l i
  have d := val_step l i
  rw [List.getD, hx] at d
  simp only [Option.getD_some] at d
  have e : (l.take i).length = i := by rw [List.length_take]; omega
  have b := val_lt (l.take i) fun z hz => h z (List.mem_of_mem_take hz)
  rw [e] at s b
  have hxb := h x (List.mem_of_getElem? hx)
  rw [s, Nat.add_mul_div_left _ _ (Nat.pow_pos (by decide)), Nat.div_eq_of_lt b, Nat.zero_add, d]
  omega
/-- A bit of a number. -/
theorem val_bit (l : List Nat) (h : ∀ z ∈ l, z < 65536) (k x : Nat) (hx : l[k / 16]? = some x) : val l / 2 ^ k % 2 = x / 2 ^ (k % 16) % 2 := by
  have hd := val_digit l h (k / 16) x hx
  have e : (2 : Nat) ^ k = 65536 ^ (k / 16) * 2 ^ (k % 16) := by
    rw [show (65536 : Nat) = 2 ^ 16 from rfl, ← Nat.pow_mul, ← Nat.pow_add]
    congr 1
    omega
  rw [e, ← Nat.div_div_eq_div_mul, ← hd]
  generalize val l / 65536 ^ (k / 16) = D
  have hj : k % 16 < 16 := Nat.mod_lt _ (by decide)
  have e2 : (65536 : Nat) = 2 ^ (k % 16) * 2 ^ (16 - k % 16) := by rw [← Nat.pow_add, show k % 16 + (16 - k % 16) = 16 from by omega]
  have e3 : (2 : Nat) ^ (16 - k % 16) = 2 * 2 ^ (15 - k % 16) := by rw [show 16 - k % 16 = (15 - k % 16) + 1 from by omega, Nat.pow_succ, Nat.mul_comm]
  rw [e2, Nat.mod_mul_right_div_self, e3, Nat.mod_mul_right_mod]
theorem bits_top (v k : Nat) (h : v < 2 ^ (k + 1)) (hb : v / 2 ^ k % 2 = 1) : bitsV v = k + 1 := by
  have h1 : 2 ^ k ≤ v := by
    rcases Nat.lt_or_ge v (2 ^ k) with h' | h'
    · rw [Nat.div_eq_of_lt h'] at hb; omega
    · exact h'
  have hv : v ≠ 0 := by have := Nat.two_pow_pos k; omega
  have h2 := (Nat.le_log2 hv).2 h1
  have h3 := (Nat.log2_lt hv).2 h
  unfold bitsV
  rw [if_neg hv]
  omega
theorem bits_less (v k : Nat) (h : v < 2 ^ (k + 1)) (hb : v / 2 ^ k % 2 = 0) : v < 2 ^ k := by
  have h1 : v / 2 ^ k < 2 := Nat.div_lt_of_lt_mul (by rw [← Nat.pow_succ]; exact h)
  have h2 : v / 2 ^ k = 0 := by
    generalize v / 2 ^ k = t at h1 hb
    omega
  exact (Nat.div_eq_zero_iff.1 h2).resolve_left (by have := Nat.two_pow_pos k; omega)
theorem bit_int (x j z : Nat) (h : x / 2 ^ j % 2 = z) : ((x : Int) / 2 ^ j).tmod 2 = (z : Int) := by
  have e : (x : Int) / 2 ^ j = ((x / 2 ^ j : Nat) : Int) := by rw [Int.natCast_ediv, Int.natCast_pow]; rfl
  rw [e, Int.tmod_eq_emod_of_nonneg (Int.natCast_nonneg _), ← h]
  omega
set_option maxRecDepth 100000 in
set_option maxHeartbeats 2000000 in
theorem bits_any (A : Option Addr) (c B : Nat) (l : List Nat) (hl : l.length ≤ 1000000) (w : World) (h : RD w B A l) (h1 : ∀ z ∈ l, z < 65536) :
    Calls Tryz.prog 88 #[.slice A l.length c] w fun e w' => e = .returned (.int .i64 (bitsV (val l) : Int)) ∧ w = w' := by
  have HA := Lib.hid h
  have H1 := Lib.hid h1
  clear h h1
  go_enter Tryz.func88, Tryz.ntmps88
  go_wp2_with fail
  go_loop [3] (fun n => ∃ k : Nat, k ≤ 16 * l.length ∧ n = .int .i64 (k : Int) ∧ Hid (val l < 2 ^ k)) (fun n => (RowKit.intOf n).toNat)
  case atStart => exact ⟨16 * l.length, by omega, by go_num, Lib.hid (by have := val_lt l H1.out; rw [Nat.pow_mul]; exact this)⟩
  case round =>
    obtain ⟨k, hk, rfl, hv⟩ := hrel
    by_cases hk0 : 0 < k
    · obtain ⟨b, o, rfl, hbl, hc⟩ := HA.out (by omega)
      obtain ⟨x, hx⟩ : ∃ x, l[(k - 1) / 16]? = some x := ⟨_, List.getElem?_eq_getElem (by omega)⟩
      have hcx := hc _ _ hx
      have hbit := val_bit l H1.out (k - 1) x hx
      have hk1 : k - 1 + 1 = k := by omega
      rcases Nat.mod_two_eq_zero_or_one (x / 2 ^ ((k - 1) % 16)) with hz | hz
      · have ht := bit_int x ((k - 1) % 16) 0 hz
        have ht' : (((x : Int) / 2 ^ ((k - 1) % 16)).tmod 2 == 0) = true := by rw [ht]; rfl
        have HV : Hid (val l < 2 ^ (k - 1)) := Lib.hid (bits_less _ _ (by rw [hk1]; exact hv.out) (hbit.trans hz))
        clear hbit hk1 ht hz hx hc
        go_wp2
        refine ⟨⟨k - 1, by omega, by go_num, HV⟩, ?_⟩
        simp [RowKit.intOf]
        omega
      · have ht := bit_int x ((k - 1) % 16) 1 hz
        have ht' : (((x : Int) / 2 ^ ((k - 1) % 16)).tmod 2 == 0) = false := by rw [ht]; rfl
        have HV : Hid (bitsV (val l) = k) := Lib.hid (by rw [bits_top _ _ (by rw [hk1]; exact hv.out) (hbit.trans hz)]; exact hk1)
        clear hbit hk1 ht hz hx hc
        go_wp2
        go_ret
        exact ⟨ret_nat HV.out.symm, rfl⟩
    · obtain rfl : k = 0 := by omega
      have HV : Hid (bitsV (val l) = 0) := Lib.hid (by have := hv.out; unfold bitsV; rw [if_pos (by simpa using this)])
      go_wp2
      go_ret
      exact ⟨ret_nat HV.out.symm, rfl⟩
end Go.Proofs.YtlinoncoanpcdaaGreatDoor
