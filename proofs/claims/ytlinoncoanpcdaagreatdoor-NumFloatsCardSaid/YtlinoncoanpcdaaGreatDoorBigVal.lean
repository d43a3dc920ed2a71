/-
  PLAIN FACTS ON DIGITS TO THE BASE 65536, the least first: what a list of them is worth. No condition.
-/
import Derived.Test.YtlinoncoanpcdaaGreatDoorBigTrim
namespace Go.Proofs.YtlinoncoanpcdaaGreatDoor

/-- What digits are worth. -/
def val : List Nat → Nat
  | [] => 0
  | d :: l => d + 65536 * val l
theorem val_append (l r : List Nat) : val (l ++ r) = val l + 65536 ^ l.length * val r := by
  induction l with
  | nil => simp [val]
  | cons d l ih =>
    rw [List.cons_append, val, val, ih, List.length_cons, Nat.pow_succ, Nat.mul_add, Nat.mul_comm (65536 ^ l.length) 65536, Nat.mul_assoc]
    omega
theorem val_set : ∀ (l : List Nat) (j y x : Nat), l[j]? = some y → val (l.set j x) + y * 65536 ^ j = val l + x * 65536 ^ j
  | [], j, y, x, h => by simp at h
  | d :: l, 0, y, x, h => by
    have : d = y := by simpa using h
    subst this
    rw [List.set_cons_zero, val, val]
    simp
    omega
  | d :: l, j + 1, y, x, h => by
    have ih := val_set l j y x (by simpa using h)
    rw [List.set_cons_succ, val, val, Nat.pow_succ]
    have e1 : y * (65536 ^ j * 65536) = 65536 * (y * 65536 ^ j) := by rw [← Nat.mul_assoc, Nat.mul_comm]
    have e2 : x * (65536 ^ j * 65536) = 65536 * (x * 65536 ^ j) := by rw [← Nat.mul_assoc, Nat.mul_comm]
    rw [e1, e2]
    omega
theorem val_replicate (n : Nat) : val (List.replicate n 0) = 0 := by
  induction n with
  | zero => rfl
  | succ n ih => rw [List.replicate_succ, val, ih]
theorem val_take_succ (l : List Nat) (k y : Nat) (h : l[k]? = some y) : val (l.take (k + 1)) = val (l.take k) + y * 65536 ^ k := by
  have hl := (List.getElem?_eq_some_iff.1 h).1
  have he := (List.getElem?_eq_some_iff.1 h).2
  rw [List.take_succ_eq_append_getElem hl, he, val_append, List.length_take, Nat.min_eq_left (by omega)]
  simp [val, Nat.mul_comm]
theorem val_trim (l : List Nat) : val (trimL l) = val l := by
  have h : ∀ r : List Nat, val ((r.dropWhile (· == 0)).reverse) = val r.reverse := by
    intro r
    induction r with
    | nil => rfl
    | cons x r ih =>
      rw [List.dropWhile_cons]
      by_cases hx : x = 0
      · subst hx
        rw [if_pos (by rfl), ih, List.reverse_cons, val_append]
        simp [val]
      · rw [if_neg (by simpa using hx)]
  have := h l.reverse
  rw [List.reverse_reverse] at this
  exact this
theorem val_dl (n : Nat) : ∀ k, val (dl n k) = n % 65536 ^ k
  | 0 => by simp [dl, val, Nat.mod_one]
  | k + 1 => by
    rw [dl, val_append, val_dl n k, dl_length, Nat.pow_succ, Nat.mod_mul]
    simp [val]
/-- One step of the product's inner loop. -/
theorem inner_step (l : List Nat) (i k o x y c V T : Nat) (ho : l[i + k]? = some o) (h : val l + c * 65536 ^ (i + k) = V + x * T * 65536 ^ i) :
    val (l.set (i + k) ((o + x * y + c) % 65536)) + (o + x * y + c) / 65536 * 65536 ^ (i + (k + 1)) = V + x * (T + y * 65536 ^ k) * 65536 ^ i := by
  have hs := val_set l (i + k) o ((o + x * y + c) % 65536) ho
  have hd := Nat.div_add_mod (o + x * y + c) 65536
  generalize hz : o + x * y + c = z at hs hd
  have e1 : z / 65536 * 65536 ^ (i + (k + 1)) = 65536 * (z / 65536) * 65536 ^ (i + k) := by
    rw [← Nat.add_assoc, Nat.pow_succ, ← Nat.mul_assoc, Nat.mul_comm _ 65536, ← Nat.mul_assoc]
  have e2 : x * (T + y * 65536 ^ k) * 65536 ^ i = x * T * 65536 ^ i + x * y * 65536 ^ (i + k) := by
    rw [Nat.mul_add, Nat.add_mul, Nat.pow_add, ← Nat.mul_assoc x y, Nat.mul_assoc (x * y), Nat.mul_comm (65536 ^ k)]
  have e3 : z * 65536 ^ (i + k) = 65536 * (z / 65536) * 65536 ^ (i + k) + z % 65536 * 65536 ^ (i + k) := by rw [← Nat.add_mul, hd]
  have e4 : z * 65536 ^ (i + k) = o * 65536 ^ (i + k) + x * y * 65536 ^ (i + k) + c * 65536 ^ (i + k) := by rw [← hz, Nat.add_mul, Nat.add_mul]
  rw [e1, e2]
  omega
/-- The end of a row of the product. -/
theorem row_end (l : List Nat) (i m x c V Y : Nat) (h0 : l[i + m]? = some 0) (h : val l + c * 65536 ^ (i + m) = V + x * Y * 65536 ^ i) : val (l.set (i + m) c) = V + x * Y * 65536 ^ i := by
  have hs := val_set l (i + m) 0 c h0
  rw [Nat.zero_mul] at hs
  omega
end Go.Proofs.YtlinoncoanpcdaaGreatDoor
