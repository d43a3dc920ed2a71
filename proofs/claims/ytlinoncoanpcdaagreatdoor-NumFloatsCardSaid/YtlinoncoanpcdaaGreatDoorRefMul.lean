/-
  THE DOCUMENT's PRODUCT OF WHOLE NUMBERS (emendref01.Mul): at every two int64 it is the product, wrapped to 64 bits; new memory alone is made. No condition but the numbers' bounds.
-/
import Derived.Test.YtlinoncoanpcdaaGreatDoorBigTimes
import Derived.Test.YtlinoncoanpcdaaGreatDoorRefText
import Derived.Test.YtlinoncoanpcdaaGreatDoorQuot
namespace Go.Proofs.YtlinoncoanpcdaaGreatDoor
open Go.RowKit

/-- A slice of digits that are worth a number. -/
def Worth (n : Nat) (w : World) (e : Ending) (w' : World) : Prop :=
  ∃ A c l, e = .returned (.slice A l.length c) ∧ RD w' w'.heap.size A l ∧ (∀ z ∈ l, z < 65536) ∧ val l = n ∧ l.length ≤ 4 ∧ Below w.heap.size w w'
theorem dl_below (n : Nat) : ∀ k, ∀ z ∈ dl n k, z < 65536
  | 0, z, h => by simp [dl] at h
  | k + 1, z, h => by
    rw [dl] at h
    rcases List.mem_append.1 h with h1 | h1
    · exact dl_below n k z h1
    · simp only [List.mem_singleton] at h1
      rw [h1]
      exact Nat.mod_lt _ (by decide)
theorem of_worth (n : Nat) (hn : n < 18446744073709551616) (w : World) : Calls Tryz.prog 59 #[.int .u64 (n : Int)] w (Worth n w) := by
  refine (of_any n hn w).mono ?_
  rintro e w' ⟨v, k, rfl, hk, h0, _, hown, hb⟩
  have hl := dl_length n k
  have hv : val (dl n k) = n := by
    rw [val_dl]
    refine Nat.mod_eq_of_lt ?_
    rcases Nat.lt_or_ge n (65536 ^ k) with h | h
    · exact h
    · have := Nat.div_pos h (Nat.pow_pos (by decide))
      omega
  obtain ⟨A, c, rfl⟩ := slice_form hown
  refine ⟨A, c, dl n k, by rw [hl], fun hp => ?_, dl_below n k, hv, by omega, hb⟩
  have hown' := hown
  rcases hown.2 with ⟨_, h1⟩ | ⟨g, cap, cur, e, _, hg, _⟩
  · rw [hl, h1] at hp; omega
  · have eA : A = some ⟨g, 0, none⟩ := by injection e
    subst eA
    have hlt := (World.ownsRow.lt hown' g rfl).2
    refine ⟨g, 0, rfl, hlt, fun i x hx => ?_⟩
    have := World.ownsRow.cells hown' (g := g) rfl i (.int .u64 (x : Int)) (by rw [cellsU, List.getElem?_map, hx]; rfl)
    rwa [Lib.add_plain] at this
/-- The four lowest digits, from above. -/
def hi4 (l : List Nat) : Nat → Nat
  | 0 => 0
  | k + 1 => hi4 l k * 65536 + l.getD (3 - k) 0
theorem getD_below (l : List Nat) (h : ∀ z ∈ l, z < 65536) (i : Nat) : l.getD i 0 < 65536 := by
  rw [List.getD]
  cases hx : l[i]? with
  | none => decide
  | some x => exact h x (List.mem_of_getElem? hx)
theorem hi4_lt (l : List Nat) (h : ∀ z ∈ l, z < 65536) : ∀ k, hi4 l k < 65536 ^ k
  | 0 => by simp [hi4]
  | k + 1 => by
    have h1 := hi4_lt l h k
    have h2 := getD_below l h (3 - k)
    rw [hi4, Nat.pow_succ]
    omega
theorem val_step (l : List Nat) (i : Nat) : val (l.drop i) = l.getD i 0 + 65536 * val (l.drop (i + 1)) := by
  rcases Nat.lt_or_ge i l.length with h | h
  · rw [List.drop_eq_getElem_cons h, val, List.getD, List.getElem?_eq_getElem h]
    rfl
  · rw [List.drop_eq_nil_of_le h, List.drop_eq_nil_of_le (by omega), List.getD, List.getElem?_eq_none h]
    rfl
theorem hi4_val (l : List Nat) (h : ∀ z ∈ l, z < 65536) : hi4 l 4 = val l % 18446744073709551616 := by
  have g0 := getD_below l h 0
  have g1 := getD_below l h 1
  have g2 := getD_below l h 2
  have g3 := getD_below l h 3
  have e : hi4 l 4 = (((0 * 65536 + l.getD 3 0) * 65536 + l.getD 2 0) * 65536 + l.getD 1 0) * 65536 + l.getD 0 0 := rfl
  have v0 := val_step l 0
  have v1 := val_step l 1
  have v2 := val_step l 2
  have v3 := val_step l 3
  rw [List.drop_zero] at v0
  rw [e, v0, v1, v2, v3]
  generalize l.getD 0 0 = a at *
  generalize l.getD 1 0 = b at *
  generalize l.getD 2 0 = c at *
  generalize l.getD 3 0 = d at *
  generalize val (l.drop (3 + 1)) = V at *
  clear v0 v1 v2 v3 e
  omega
theorem RD.keep {w w' : World} {A : Option Addr} {l : List Nat} (h : RD w w.heap.size A l) (hb : Below w.heap.size w w') : RD w' w'.heap.size A l := by
  intro hl
  obtain ⟨b, o, e, hlt, hc⟩ := h hl
  exact ⟨b, o, e, Nat.lt_of_lt_of_le hlt hb.size, fun i x hx => by rw [hb.cell (p := ⟨b, o + i, none⟩) hlt]; exact hc i x hx⟩
theorem ret_i64 {a b : Int} (h : a = b) : Ending.returned (.int .i64 a) = .returned (.int .i64 b) := by rw [h]
theorem wrap_wrap (z : Int) : wrap64 (IntKind.u64.wrap z) = wrap64 z := by
  unfold IntKind.wrap
  simp only [IntKind.signed, IntKind.bits]
  unfold wrap64
  simp
/-- The product's end, by the signs. -/
theorem mul_same (a b : Int) (U : Nat) (hU : U = a.natAbs * b.natAbs % 18446744073709551616) (hs : 0 ≤ a * b) : wrap64 (U : Int) = wMul a b := by
  unfold wMul
  have h1 : ((a.natAbs * b.natAbs : Nat) : Int) = a * b := by rw [← Int.natAbs_mul]; omega
  have h2 := Nat.div_add_mod (a.natAbs * b.natAbs) 18446744073709551616
  refine wrap64_eq (q := -((a.natAbs * b.natAbs / 18446744073709551616 : Nat) : Int)) ?_
  omega
theorem mul_other (a b : Int) (U : Nat) (hU : U = a.natAbs * b.natAbs % 18446744073709551616) (hs : a * b ≤ 0) : wrap64 (-(U : Int)) = wMul a b := by
  unfold wMul
  have h1 : ((a.natAbs * b.natAbs : Nat) : Int) = -(a * b) := by rw [← Int.natAbs_mul]; omega
  have h2 := Nat.div_add_mod (a.natAbs * b.natAbs) 18446744073709551616
  refine wrap64_eq (q := ((a.natAbs * b.natAbs / 18446744073709551616 : Nat) : Int)) ?_
  omega
set_option maxRecDepth 100000 in
set_option maxHeartbeats 1000000 in
theorem refMul_any (a b : Int) (ha0 : -9223372036854775808 ≤ a) (ha1 : a ≤ 9223372036854775807) (hb0 : -9223372036854775808 ≤ b) (hb1 : b ≤ 9223372036854775807) (w : World) :
    Calls Tryz.prog 31 #[.int .i64 a, .int .i64 b] w fun e w' => e = .returned (.int .i64 (wMul a b)) ∧ Below w.heap.size w w' := by
  have HS1 := Lib.hid (fun w => size_any a ha0 ha1 w)
  have HS2 := Lib.hid (fun w => size_any b hb0 hb1 w)
  have HO1 := Lib.hid (fun w => of_worth a.natAbs (by omega) w)
  have HO2 := Lib.hid (fun w => of_worth b.natAbs (by omega) w)
  clear ha0 ha1 hb0 hb1
  go_enter Tryz.func31, Tryz.ntmps31
  go_wp2_with fail
  refine (HS1.out _).mono ?_
  rintro e w' ⟨rfl, rfl⟩
  go_wp2_with fail
  refine (HO1.out _).mono ?_
  rintro e w1 ⟨A, ca, xs, rfl, hA, hx1, hx2, hx3, k1⟩
  have HA := Lib.hid hA
  have HX1 := Lib.hid hx1
  have HX2 := Lib.hid hx2
  have K1 := Lib.hid k1
  clear hA hx1 hx2 k1
  go_wp2_with fail
  refine (HS2.out _).mono ?_
  rintro e w' ⟨rfl, rfl⟩
  go_wp2_with fail
  refine (HO2.out _).mono ?_
  rintro e w2 ⟨C, cc, ys, rfl, hC, hy1, hy2, hy3, k2⟩
  have HA2 := Lib.hid (HA.out.keep k2)
  have K2 := Lib.hid (K1.out.trans (k2.mono K1.out.size))
  have HT := Lib.hid (times_any A C ca cc xs ys (by omega) (by omega) w2 HA2.out hC HX1.out hy1)
  have HY2 := Lib.hid hy2
  clear hC hy1 hy2 k2 HA K1
  go_wp2_with fail
  refine HT.out.mono ?_
  rintro e w3 ⟨D, cd, l, rfl, hD, hl1, hl2, hl3, hl4, k3⟩
  have K3 := Lib.hid (K2.out.trans (k3.mono K2.out.size))
  have HD := Lib.hid hD
  have HL1 := Lib.hid hl1
  have HL2 : Hid (val l = a.natAbs * b.natAbs) := Lib.hid (by rw [hl2, HX2.out, HY2.out])
  clear hD hl1 hl2 k3 HT K2 HA2
  go_wp2_with fail
  go_loop [6, 7] (fun su si => ∃ (k : Nat) (u : Int), k ≤ 4 ∧ 0 ≤ u ∧ Hid (u = (hi4 l k : Int)) ∧ su = .int .u64 u ∧ si = .int .i64 (3 - (k : Int))) (fun _ si => (RowKit.intOf si + 1).toNat)
  case atStart => exact ⟨0, 0, by omega, by omega, Lib.hid rfl, rfl, rfl⟩
  case round =>
    obtain ⟨k, u, hk, u0, hu, rfl, rfl⟩ := hrel
    by_cases hk4 : k < 4
    · have hlt := hi4_lt l HL1.out k
      have hp : 65536 ^ k ≤ 65536 ^ 3 := Nat.pow_le_pow_right (by decide) (by omega)
      have hub : u < 281474976710656 := by rw [hu.out]; omega
      have hi : (3 - (k : Int)).toNat = 3 - k := by omega
      have w1 : IntKind.u64.wrap (u * 65536) = u * 65536 := u64_in (by omega) (by omega)
      clear hlt hp
      by_cases hlen : 3 - k < l.length
      · obtain ⟨b0, o0, rfl, hb0, hc0⟩ := HD.out (by omega)
        obtain ⟨x, hx⟩ : ∃ x, l[3 - k]? = some x := ⟨_, List.getElem?_eq_getElem hlen⟩
        have hcx := hc0 _ _ hx
        obtain ⟨X, eX⟩ : ∃ X : Int, X = (x : Int) := ⟨_, rfl⟩
        rw [← eX] at hcx
        have X0 : 0 ≤ X := by omega
        have X1 : X ≤ 65535 := by have := HL1.out x (List.mem_of_getElem? hx); omega
        have w2 : IntKind.u64.wrap (u * 65536 + X) = u * 65536 + X := u64_in (by omega) (by omega)
        have hn : u * 65536 + X = (hi4 l (k + 1) : Int) := by
          rw [hi4, List.getD, hx, hu.out, eX]
          simp only [Option.getD_some, Int.natCast_add, Int.natCast_mul]
          rfl
        have HN := Lib.hid hn
        clear hn hx hc0 eX
        go_wp2
        refine ⟨⟨k + 1, u * 65536 + X, by omega, by omega, HN, rfl, ?_⟩, ?_⟩
        · congr 1; omega
        · simp [RowKit.intOf]; omega
      · have hn : u * 65536 = (hi4 l (k + 1) : Int) := by
          rw [hi4, List.getD, List.getElem?_eq_none (by omega), hu.out]
          simp only [Option.getD_none, Int.natCast_add, Int.natCast_mul]
          omega
        have HN := Lib.hid hn
        clear hn
        go_wp2
        refine ⟨⟨k + 1, u * 65536, by omega, by omega, HN, rfl, ?_⟩, ?_⟩
        · congr 1; omega
        · simp [RowKit.intOf]; omega
    · obtain rfl : k = 4 := by omega
      have hU : hi4 l 4 = a.natAbs * b.natAbs % 18446744073709551616 := by rw [hi4_val l HL1.out, HL2.out]
      rcases (by omega : a < 0 ∨ 0 ≤ a) with ha | ha
      · rcases (by omega : b < 0 ∨ 0 ≤ b) with hb | hb
        · have da : decide (a < 0) = true := by simpa using ha
          have db : decide (b < 0) = true := by simpa using hb
          have hs : 0 ≤ a * b := by
            have := Int.mul_nonneg (show 0 ≤ -a by omega) (show 0 ≤ -b by omega)
            rwa [Int.neg_mul_neg] at this
          have HR := Lib.hid (mul_same a b _ hU hs)
          clear hU hs
          go_wp2
          go_ret
          exact ⟨ret_i64 (by rw [hu.out]; exact HR.out), K3.out⟩
        · have da : decide (a < 0) = true := by simpa using ha
          have db : decide (b < 0) = false := by simpa using hb
          have hs : a * b ≤ 0 := by
            have := Int.mul_nonneg (show 0 ≤ -a by omega) hb
            rw [Int.neg_mul] at this
            omega
          have HR := Lib.hid (mul_other a b _ hU hs)
          clear hU hs
          go_wp2
          go_ret
          exact ⟨ret_i64 (by rw [hu.out]; exact (wrap_wrap _).trans HR.out), K3.out⟩
      · rcases (by omega : b < 0 ∨ 0 ≤ b) with hb | hb
        · have da : decide (a < 0) = false := by simpa using ha
          have db : decide (b < 0) = true := by simpa using hb
          have hs : a * b ≤ 0 := by
            have := Int.mul_nonneg ha (show 0 ≤ -b by omega)
            rw [Int.mul_neg] at this
            omega
          have HR := Lib.hid (mul_other a b _ hU hs)
          clear hU hs
          go_wp2
          go_ret
          exact ⟨ret_i64 (by rw [hu.out]; exact (wrap_wrap _).trans HR.out), K3.out⟩
        · have da : decide (a < 0) = false := by simpa using ha
          have db : decide (b < 0) = false := by simpa using hb
          have HR := Lib.hid (mul_same a b _ hU (Int.mul_nonneg ha hb))
          clear hU
          go_wp2
          go_ret
          exact ⟨ret_i64 (by rw [hu.out]; exact HR.out), K3.out⟩
end Go.Proofs.YtlinoncoanpcdaaGreatDoor
