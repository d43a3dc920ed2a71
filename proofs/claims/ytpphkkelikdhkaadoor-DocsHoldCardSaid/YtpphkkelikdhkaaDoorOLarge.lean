/-
  emendlaw08.large OF EVERY LIST OF ACTS: what it returns; no memory that was there turns. Condition: the slices read as acts (AR).
-/
import Derived.Test.YtpphkkelikdhkaaDoorOWorks
namespace Go.Proofs.YtpphkkelikdhkaaDoor
open Go.RowKit Go.Maps

/-- An act. -/
structure Ac where
  o : Int
  u : ByteArray
  t : ByteArray
  m : Int
  v : Int
  A : Option Addr
  L : List Chg
  c : Nat
  f : Int
def acV (x : Ac) : Value := .agg #[.int .i64 x.o, .string x.u, .string x.t, .int .i64 x.m, .int .i64 x.v, .slice x.A x.L.length x.c, .int .u8 x.f]
/-- A slice that reads as acts. -/
def AR (W : World) (A : Option Addr) (L : List Ac) : Prop :=
  0 < L.length → ∃ b o, A = some ⟨b, o, none⟩ ∧ ∀ j x, L[j]? = some x → (W.cell? ⟨b, o + j * 7, none⟩ = some (.int .i64 x.o) ∧ W.cell? ⟨b, o + j * 7 + 1, none⟩ = some (.string x.u) ∧ W.cell? ⟨b, o + j * 7 + 2, none⟩ = some (.string x.t) ∧ W.cell? ⟨b, o + j * 7 + 3, none⟩ = some (.int .i64 x.m) ∧ W.cell? ⟨b, o + j * 7 + 4, none⟩ = some (.int .i64 x.v) ∧ W.cell? ⟨b, o + j * 7 + 5, none⟩ = some (.slice x.A x.L.length x.c) ∧ W.cell? ⟨b, o + j * 7 + 6, none⟩ = some (.int .u8 x.f)) ∧ CR W x.A x.L ∧ x.L.length ≤ x.c
theorem AR.keep {W W' : World} {A : Option Addr} {L : List Ac} (h : AR W A L) (hb : Below W.heap.size W W') : AR W' A L := fun h0 => by
  obtain ⟨b, o, e, hc⟩ := h h0
  exact ⟨b, o, e, fun j x hx => by
    obtain ⟨⟨h1, h2, h3, h4, h5, h6, h7⟩, h8, h9⟩ := hc j x hx
    exact ⟨⟨cell_keep hb h1, cell_keep hb h2, cell_keep hb h3, cell_keep hb h4, cell_keep hb h5, cell_keep hb h6, cell_keep hb h7⟩, h8.keep hb, h9⟩⟩
theorem AR.at {W : World} {A : Option Addr} {L : List Ac} (h : AR W A L) {i : Nat} {x : Ac} (hx : L[i]? = some x) : ∃ b o, A = some ⟨b, o, none⟩ ∧ (W.cell? ⟨b, o + i * 7, none⟩ = some (.int .i64 x.o) ∧ W.cell? ⟨b, o + i * 7 + 1, none⟩ = some (.string x.u) ∧ W.cell? ⟨b, o + i * 7 + 2, none⟩ = some (.string x.t) ∧ W.cell? ⟨b, o + i * 7 + 3, none⟩ = some (.int .i64 x.m) ∧ W.cell? ⟨b, o + i * 7 + 4, none⟩ = some (.int .i64 x.v) ∧ W.cell? ⟨b, o + i * 7 + 5, none⟩ = some (.slice x.A x.L.length x.c) ∧ W.cell? ⟨b, o + i * 7 + 6, none⟩ = some (.int .u8 x.f)) ∧ CR W x.A x.L ∧ x.L.length ≤ x.c := by
  obtain ⟨b, o, e, hc⟩ := h (by have := (List.getElem?_eq_some_iff.1 hx).1; omega)
  exact ⟨b, o, e, hc i x hx⟩
def bigC (c : Chg) : Bool := decide (300 < c.s.size)
def largeA (x : Ac) : Bool := decide (300 < x.u.size) || decide (300 < x.t.size) || decide (8 < x.L.length) || x.L.any bigC
def largeB (l : List Ac) : Bool := (l.take 20).any largeA || decide (12 < l.length)
theorem any_take_no {α : Type} {p : α → Bool} {l : List α} {i : Nat} {x : α} (h : (l.take i).any p = false) (hx : l[i]? = some x) (hp : p x = false) : (l.take (i + 1)).any p = false := by
  obtain ⟨hi, rfl⟩ := List.getElem?_eq_some_iff.1 hx
  rw [List.take_succ_eq_append_getElem hi, List.any_append, h]
  simp [hp]
theorem any_yes {α : Type} {p : α → Bool} {l : List α} {i : Nat} {x : α} (hx : l[i]? = some x) (hp : p x = true) : l.any p = true :=
  List.any_eq_true.2 ⟨x, List.mem_of_getElem? hx, hp⟩
theorem large_yes {l : List Ac} {i : Nat} {x : Ac} (hx : l[i]? = some x) (hi : i < 20) (hp : largeA x = true) : largeB l = true := by
  unfold largeB
  rw [any_yes (l := l.take 20) (i := i) (x := x) (by rw [List.getElem?_take, if_pos hi]; exact hx) hp]
  rfl
set_option maxRecDepth 100000 in
set_option maxHeartbeats 2000000 in
theorem large_any (A : Option Addr) (L : List Ac) (c : Nat) (hL : L.length ≤ 1000000000) (w : World) (hA : AR w A L) : Calls Tryd.prog 11 #[.slice A L.length c] w fun e w' => e = .returned (.bool (largeB L)) ∧ Below w.heap.size w w' := by
  have HA := Lib.hid hA
  have HY := Lib.hid (fun i x => large_yes (l := L) (i := i) (x := x))
  have HN : Hid ((L.take 20).any largeA = false → largeB L = decide (12 < L.length)) := Lib.hid (fun h => by unfold largeB; rw [h]; rfl)
  generalize largeB L = R at *
  clear hA
  go_enter Tryd.func11, Tryd.ntmps11
  go_wp2_with fail
  go_loopw [3, 4] (fun v _ wr => ∃ (i : Nat), v = .int .i64 (i : Int) ∧ i ≤ L.length ∧ i ≤ 20 ∧ Hid ((L.take i).any largeA = false) ∧ Hid (Below w.heap.size w wr)) (fun v _ _ => 20 - (intOf v).toNat)
  case atStart => exact ⟨0, rfl, Nat.zero_le _, Nat.zero_le _, Lib.hid rfl, Lib.hid (Below.refl _ _)⟩
  case round =>
    obtain ⟨i, rfl, hi, hi2, hno, hb⟩ := hrel
    by_cases hlt : i < L.length ∧ i < 20
    · obtain ⟨hlt, h20⟩ := hlt
      have q1 : (i : Int) < (L.length : Int) := by omega
      have q2 : (i : Int) < 20 := by omega
      obtain ⟨x, hx⟩ : ∃ x, L[i]? = some x := ⟨_, List.getElem?_eq_getElem hlt⟩
      obtain ⟨b, o, rfl, ⟨d0, d1, d2, d3, d4, d5, d6⟩, hcr, hcap⟩ := (HA.out.keep hb.out).at hx
      have HX := Lib.hid hx
      have HC := Lib.hid hcr
      clear hx hcr d0 d3 d4 d6
      by_cases g1 : 300 < x.u.size
      · have q3 : (300 : Int) < (x.u.size : Int) := by omega
        have HE : Hid (R = true) := Lib.hid (HY.out i x HX.out h20 (by unfold largeA; rw [decide_eq_true g1]; rfl))
        go_wp2_with fail
        go_ret
        exact ⟨ret_bool HE.out.symm, hb.out⟩
      · have q3 : ¬ (300 : Int) < (x.u.size : Int) := by omega
        by_cases g2 : 300 < x.t.size
        · have q4 : (300 : Int) < (x.t.size : Int) := by omega
          have HE : Hid (R = true) := Lib.hid (HY.out i x HX.out h20 (by unfold largeA; rw [decide_eq_true g2]; simp))
          go_wp2_with fail
          go_ret
          exact ⟨ret_bool HE.out.symm, hb.out⟩
        · have q4 : ¬ (300 : Int) < (x.t.size : Int) := by omega
          by_cases g3 : 8 < x.L.length
          · have q5 : (8 : Int) < (x.L.length : Int) := by omega
            have HE : Hid (R = true) := Lib.hid (HY.out i x HX.out h20 (by unfold largeA; rw [decide_eq_true g3]; simp))
            go_wp2_with fail
            go_ret
            exact ⟨ret_bool HE.out.symm, hb.out⟩
          · have q5 : ¬ (8 : Int) < (x.L.length : Int) := by omega
            have HG : Hid (largeA x = x.L.any bigC) := Lib.hid (by unfold largeA; rw [decide_eq_false g1, decide_eq_false g2, decide_eq_false g3]; rfl)
            go_wp2_with fail
            go_loop [4] (fun v => ∃ (k : Nat), v = .int .i64 (k : Int) ∧ k ≤ x.L.length ∧ Hid ((x.L.take k).any bigC = false)) (fun v => x.L.length - (intOf v).toNat)
            case atStart => exact ⟨0, rfl, Nat.zero_le _, Lib.hid rfl⟩
            case round =>
              obtain ⟨k, rfl, hk, hkn⟩ := hrel
              by_cases hk2 : k < x.L.length
              · have q6 : (k : Int) < (x.L.length : Int) := by omega
                obtain ⟨y, hy⟩ : ∃ y, x.L[k]? = some y := ⟨_, List.getElem?_eq_getElem hk2⟩
                obtain ⟨b2, o2, hA2, e0, e1, e2, e3, e4, e5⟩ := HC.out.at hy
                have HYY := Lib.hid hy
                rw [hA2] at d5
                clear hy e0 e1 e2 e3 e4
                by_cases g4 : 300 < y.s.size
                · have q7 : (300 : Int) < (y.s.size : Int) := by omega
                  have HE : Hid (R = true) := Lib.hid (HY.out i x HX.out h20 (by rw [HG.out]; exact any_yes HYY.out (decide_eq_true g4)))
                  clear hA2
                  go_wp2_with fail
                  go_ret
                  exact ⟨ret_bool HE.out.symm, hb.out⟩
                · have q7 : ¬ (300 : Int) < (y.s.size : Int) := by omega
                  have HE := Lib.hid (any_take_no hkn.out HYY.out (show bigC y = false from decide_eq_false g4))
                  clear hA2
                  go_wp2_with fail
                  go_round
                  case rel => exact ⟨k + 1, by go_num, by omega, HE⟩
                  case measure => simp [intOf]; omega
              · have q6 : ¬ (k : Int) < (x.L.length : Int) := by omega
                have HE := Lib.hid (any_take_no hno.out HX.out (by rw [HG.out, ← hkn.out, List.take_of_length_le (by omega)]))
                go_wp2_with fail
                go_roundw
                case rel => exact ⟨i + 1, by go_num, by omega, by omega, HE, hb⟩
                case measure => simp [intOf]; omega
    · have HE : Hid (R = decide (12 < L.length)) := Lib.hid (HN.out (by
        by_cases h1 : i = 20
        · rw [← h1]; exact hno.out
        · have := hno.out
          rw [List.take_of_length_le (by omega)] at this ⊢
          exact this))
      by_cases h1 : i < L.length
      · have q1 : (i : Int) < (L.length : Int) := by omega
        have q2 : ¬ (i : Int) < 20 := by omega
        go_wp2_with fail
        go_ret
        exact ⟨ret_bool (by rw [HE.out]; exact decide_eq_decide.2 (by omega)), hb.out⟩
      · have q1 : ¬ (i : Int) < (L.length : Int) := by omega
        go_wp2_with fail
        go_ret
        exact ⟨ret_bool (by rw [HE.out]; exact decide_eq_decide.2 (by omega)), hb.out⟩
end Go.Proofs.YtpphkkelikdhkaaDoor
