/-
  THE DOCUMENT's NATURAL NUMBERS (emendref01.Cmp): of two numbers without noughts at their end: -1, 0 or 1, as the one is below, equal to, or above the other; nothing in memory turns. Condition: both slices read as such digits.
-/
import Derived.Test.YtlinoncoanpcdaaGreatDoorRefMul
namespace Go.Proofs.YtlinoncoanpcdaaGreatDoor
open Go.RowKit

/-- Digits of a number: below 65536, no nought at the end. -/
def Norm (l : List Nat) : Prop := (∀ z ∈ l, z < 65536) ∧ (l = [] ∨ ∃ x, l[l.length - 1]? = some x ∧ 0 < x)
theorem val_lt (l : List Nat) (h : ∀ z ∈ l, z < 65536) : val l < 65536 ^ l.length := by
  induction l with
  | nil => simp [val]
  | cons d l ih =>
    have h1 := ih fun z hz => h z (List.mem_cons_of_mem _ hz)
    have h2 := h d List.mem_cons_self
    rw [val, List.length_cons, Nat.pow_succ]
    omega
theorem val_split (l : List Nat) (i : Nat) : val l = val (l.take i) + 65536 ^ (l.take i).length * val (l.drop i) := by
  rw [← val_append, List.take_append_drop]
theorem val_ge (l : List Nat) (h : Norm l) (hl : 0 < l.length) : 65536 ^ (l.length - 1) ≤ val l := by
  rcases h.2 with rfl | ⟨x, hx, hp⟩
  · simp at hl
  · have hs := val_split l (l.length - 1)
    have hd := val_step l (l.length - 1)
    rw [List.getD, hx] at hd
    have hx' : val (l.drop (l.length - 1)) = x + 65536 * val (l.drop (l.length - 1 + 1)) := hd
    rw [List.length_take, Nat.min_eq_left (by omega)] at hs
    have : 65536 ^ (l.length - 1) * 1 ≤ 65536 ^ (l.length - 1) * val (l.drop (l.length - 1)) := Nat.mul_le_mul_left _ (by omega)
    omega
/-- How two numbers stand to each other. -/
def cmpV (a b : Nat) : Int := if a < b then -1 else if b < a then 1 else 0
theorem cmp_short (xs ys : List Nat) (hx : Norm xs) (hy : Norm ys) (h : xs.length < ys.length) : val xs < val ys := by
  have h1 := val_lt xs hx.1
  have h2 := val_ge ys hy (by omega)
  have h3 : 65536 ^ xs.length ≤ 65536 ^ (ys.length - 1) := Nat.pow_le_pow_right (by decide) (by omega)
  omega
/-- A digit decides where those above it are equal. -/
theorem cmp_digit (xs ys : List Nat) (i x y : Nat) (hx1 : ∀ z ∈ xs, z < 65536) (hl : xs.length = ys.length) (hx : xs[i]? = some x) (hy : ys[i]? = some y) (ht : xs.drop (i + 1) = ys.drop (i + 1)) (h : x < y) : val xs < val ys := by
  have hi := (List.getElem?_eq_some_iff.1 hx).1
  have s1 := val_split xs i
  have s2 := val_split ys i
  have d1 := val_step xs i
  have d2 := val_step ys i
  rw [List.getD, hx] at d1
  rw [List.getD, hy, ← ht] at d2
  simp only [Option.getD_some] at d1 d2
  have l1 : (xs.take i).length = i := by rw [List.length_take]; omega
  have l2 : (ys.take i).length = i := by rw [List.length_take]; omega
  have b1 := val_lt (xs.take i) fun z hz => hx1 z (List.mem_of_mem_take hz)
  rw [l1] at s1 b1
  rw [l2] at s2
  have : 65536 ^ i * (val (xs.drop i) + 1) ≤ 65536 ^ i * val (ys.drop i) := Nat.mul_le_mul_left _ (by omega)
  rw [Nat.mul_add] at this
  omega
set_option maxRecDepth 100000 in
set_option maxHeartbeats 2000000 in
theorem cmp_any (A C : Option Addr) (ca cc B : Nat) (xs ys : List Nat) (ha : xs.length ≤ 1000000) (_hb : ys.length ≤ 1000000) (w : World) (hA : RD w B A xs) (hC : RD w B C ys) (hx : Norm xs) (hy : Norm ys) :
    Calls Tryz.prog 77 #[.slice A xs.length ca, .slice C ys.length cc] w fun e w' => e = .returned (.int .i64 (cmpV (val xs) (val ys))) ∧ ∃ q, w' = w.drewN q := by
  have HA := Lib.hid hA
  have HC := Lib.hid hC
  have HX := Lib.hid hx
  have HY := Lib.hid hy
  clear hA hC hx hy
  rcases Nat.lt_trichotomy xs.length ys.length with h | h | h
  · have hr : cmpV (val xs) (val ys) = -1 := by unfold cmpV; rw [if_pos (cmp_short xs ys HX.out HY.out h)]
    have hne : ((xs.length : Int) != (ys.length : Int)) = true := by simp only [bne_iff_ne, ne_eq]; omega
    rw [hr]
    go_enter Tryz.func77, Tryz.ntmps77
    go_wp2
    go_ret
    exact ⟨rfl, 0, rfl⟩
  · obtain ⟨R, hR⟩ : ∃ R : Int, R = cmpV (val xs) (val ys) := ⟨_, rfl⟩
    have HR := Lib.hid hR
    rw [← hR]
    clear hR
    have he : ((xs.length : Int) != (ys.length : Int)) = false := by simp only [bne_eq_false_iff_eq]; omega
    have HE := Lib.hid h
    clear h
    go_enter Tryz.func77, Tryz.ntmps77
    go_wp2_with fail
    go_loopw [5] (fun i wr => ∃ (k q : Nat), k ≤ xs.length ∧ i = .int .i64 ((k : Int) - 1) ∧ wr = w.drewN q ∧ Hid (xs.drop k = ys.drop k)) (fun i _ => (RowKit.intOf i + 1).toNat)
    case atStart => exact ⟨xs.length, 0, by omega, rfl, rfl, Lib.hid (by rw [List.drop_length, HE.out, List.drop_length])⟩
    case round =>
      obtain ⟨k, q, hk, rfl, rfl, ht⟩ := hrel
      by_cases hk0 : 0 < k
      · obtain ⟨b, o, rfl, hbl, hc⟩ := HA.out (by omega)
        obtain ⟨b', o', rfl, hbl', hc'⟩ := HC.out (by have := HE.out; omega)
        obtain ⟨x, hx⟩ : ∃ x, xs[k - 1]? = some x := ⟨_, List.getElem?_eq_getElem (by omega)⟩
        obtain ⟨y, hy⟩ : ∃ y, ys[k - 1]? = some y := ⟨_, List.getElem?_eq_getElem (by have := HE.out; omega)⟩
        have hcx := hc _ _ hx
        have hcy := hc' _ _ hy
        have i2 : ((k : Int) - 1).toNat = k - 1 := by omega
        have i3 : 0 ≤ (k : Int) - 1 := by omega
        have i4 : (k : Int) - 1 < (xs.length : Int) := by omega
        have i5 : (k : Int) - 1 < (ys.length : Int) := by have := HE.out; omega
        obtain ⟨X, eX⟩ : ∃ X : Int, X = (x : Int) := ⟨_, rfl⟩
        obtain ⟨Y, eY⟩ : ∃ Y : Int, Y = (y : Int) := ⟨_, rfl⟩
        rw [← eX] at hcx
        rw [← eY] at hcy
        have hd : xs.drop (k - 1 + 1) = ys.drop (k - 1 + 1) := by rw [show k - 1 + 1 = k from by omega]; exact ht.out
        rcases Nat.lt_trichotomy x y with hxy | hxy | hxy
        · have hr : R = -1 := by rw [HR.out]; unfold cmpV; rw [if_pos (cmp_digit xs ys (k - 1) x y HX.out.1 HE.out hx hy hd hxy)]
          have t1 : decide (X < Y) = true := by simp only [decide_eq_true_eq]; omega
          have HRR := Lib.hid hr
          clear hx hy eX eY hc hc' hd hr
          go_wp2_with fail
          go_quiet (fail)
          go_wp2_with fail
          go_ret
          exact ⟨ret_i64 HRR.out.symm, _, drew_drew _ _ _⟩
        · have t1 : decide (X < Y) = false := by simp only [decide_eq_false_iff_not]; omega
          have t2 : decide (Y < X) = false := by simp only [decide_eq_false_iff_not]; omega
          have hn : xs.drop (k - 1) = ys.drop (k - 1) := by
            have e1 := List.drop_eq_getElem_cons (l := xs) (i := k - 1) (by omega)
            have e2 := List.drop_eq_getElem_cons (l := ys) (i := k - 1) (by have := HE.out; omega)
            rw [e1, e2, hd, (List.getElem?_eq_some_iff.1 hx).2, (List.getElem?_eq_some_iff.1 hy).2, hxy]
          have HN := Lib.hid hn
          clear hx hy eX eY hc hc' hd hn hxy
          go_wp2_with fail
          go_quiet (fail)
          rw [drew_drew]
          go_wp2_with fail
          go_quiet (fail)
          rw [drew_drew]
          go_wp2_with fail
          refine ⟨⟨k - 1, _, by omega, ?_, rfl, HN⟩, ?_⟩
          · congr 1; omega
          · simp [RowKit.intOf]; omega
        · have hr : R = 1 := by
            rw [HR.out]
            have := cmp_digit ys xs (k - 1) y x HY.out.1 HE.out.symm hy hx hd.symm hxy
            unfold cmpV
            rw [if_neg (by omega), if_pos this]
          have t1 : decide (X < Y) = false := by simp only [decide_eq_false_iff_not]; omega
          have t2 : decide (Y < X) = true := by simp only [decide_eq_true_eq]; omega
          have HRR := Lib.hid hr
          clear hx hy eX eY hc hc' hd hr
          go_wp2_with fail
          go_quiet (fail)
          rw [drew_drew]
          go_wp2_with fail
          go_quiet (fail)
          rw [drew_drew]
          go_wp2_with fail
          go_ret
          exact ⟨ret_i64 HRR.out.symm, _, rfl⟩
      · obtain rfl : k = 0 := by omega
        have hr : R = 0 := by
          have h1 := ht.out
          rw [List.drop_zero, List.drop_zero] at h1
          rw [HR.out, h1]
          unfold cmpV
          rw [if_neg (by omega), if_neg (by omega)]
        have HRR := Lib.hid hr
        clear hr
        go_wp2_with fail
        go_ret
        exact ⟨ret_i64 HRR.out.symm, _, rfl⟩
  · have hr : cmpV (val xs) (val ys) = 1 := by
      have := cmp_short ys xs HY.out HX.out h
      unfold cmpV
      rw [if_neg (by omega), if_pos this]
    have hne : ((xs.length : Int) != (ys.length : Int)) = true := by simp only [bne_iff_ne, ne_eq]; omega
    rw [hr]
    go_enter Tryz.func77, Tryz.ntmps77
    go_wp2
    go_ret
    exact ⟨rfl, 0, rfl⟩
end Go.Proofs.YtlinoncoanpcdaaGreatDoor
