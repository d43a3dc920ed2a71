/-
  emendref07's Fits and kept, edits' growth, AT EVERY LIST of splices. No memory that was there turns. Condition: the list's length; of growth, the splice's numbers.
-/
import Derived.Test.YtlgjlfljohapfaaECheck
import Derived.Deep.QuietTactic
import Derived.BigQuiet
namespace Go.Proofs.Ytlgjlfljohapfaa
open Go.RowKit

theorem keptB_cons (a : Int) (x : Spl) (l : List Spl) : keptB a (x :: l) = (!(decide (x.f ≤ a) && decide (a < x.t)) && keptB a l) := rfl
set_option maxRecDepth 100000 in
set_option maxHeartbeats 1000000 in
theorem kept_any (p : Int) (A : Option Addr) (L : List Spl) (c : Nat) (hL : L.length ≤ 1000000) (w : World) (hS : SR w A L) :
    Calls Try.prog 41 #[.slice A L.length c, .int .i64 p] w fun e w' => e = .returned (.bool (keptB p L)) ∧ w = w' := by
  have HS := Lib.hid hS
  clear hS
  obtain ⟨r, hr⟩ : ∃ r, keptB p L = r := ⟨_, rfl⟩
  rw [hr]
  have HR : Hid (r = keptB p (L.drop 0)) := Lib.hid (by rw [← hr]; rfl)
  clear hr
  go_enter Try.func41, Try.ntmps41
  go_wp2_with fail
  go_loop [5] (fun k => ∃ i : Nat, k = .int .i64 (i : Int) ∧ i ≤ L.length ∧ Hid (r = keptB p (L.drop i))) (fun k => L.length - (intOf k).toNat)
  case atStart => exact ⟨0, rfl, Nat.zero_le _, HR⟩
  case round =>
    obtain ⟨i, rfl, hi, hf⟩ := hrel
    clear HR
    by_cases hlt : i < L.length
    · obtain ⟨x, hx⟩ : ∃ x, L[i]? = some x := ⟨_, List.getElem?_eq_getElem hlt⟩
      obtain ⟨b, o, rfl, c0, c1, c2⟩ := HS.out.at hx
      have hd := drop_at hx
      rw [hd, keptB_cons] at hf
      clear hx hd
      by_cases h1 : x.f ≤ p
      · by_cases h2 : p < x.t
        · have hr : r = false := by rw [hf.out, decide_eq_true h1, decide_eq_true h2]; rfl
          subst hr
          clear hf
          go_wp2_with fail
          go_ret
          exact ⟨rfl, rfl⟩
        · have HF : Hid (r = keptB p (L.drop (i + 1))) := Lib.hid (by rw [hf.out, decide_eq_false h2]; simp)
          clear hf
          go_wp2_with fail
          go_round
          case rel => exact ⟨i + 1, by go_num, by omega, HF⟩
          case measure => simp [intOf]; omega
      · have HF : Hid (r = keptB p (L.drop (i + 1))) := Lib.hid (by rw [hf.out, decide_eq_false h1]; simp)
        clear hf
        go_wp2_with fail
        go_round
        case rel => exact ⟨i + 1, by go_num, by omega, HF⟩
        case measure => simp [intOf]; omega
    · have hr : r = true := by rw [hf.out, List.drop_eq_nil_of_le (by omega)]; rfl
      subst hr
      clear hf
      go_wp2_with fail
      go_ret
      exact ⟨rfl, rfl⟩
set_option maxHeartbeats 1000000 in
theorem growth_any (f t : Int) (s : ByteArray) (h1 : 0 ≤ f) (h2 : f ≤ t) (h3 : t ≤ 9223372036854775807) (hs : s.size ≤ 1000000) (w : World) :
    Calls Try.prog 43 #[.agg #[.int .i64 f, .int .i64 t, .string s]] w fun e w' => e = .returned (.int .i64 (s.size - (t - f))) ∧ Below w.heap.size w w' := by
  go_enter Try.func43, Try.ntmps43
  go_wp2_with fail
  go_ret
  exact ⟨rfl, alloc_below w _⟩
set_option maxRecDepth 100000 in
set_option maxHeartbeats 2000000 in
theorem refFits_any (n : Int) (A : Option Addr) (L : List Spl) (c : Nat) (hL : L.length ≤ 1000000) (w : World) (hS : SR w A L) :
    Calls Try.prog 22 #[.int .i64 n, .slice A L.length c] w fun e w' => e = .returned (.bool (fits n L)) ∧ Below w.heap.size w w' := by
  have HS := Lib.hid hS
  clear hS
  by_cases hn : n < 0
  · have hr : fits n L = false := by unfold fits; rw [decide_eq_false (by omega)]; rfl
    rw [hr]
    clear hr
    go_enter Try.func22, Try.ntmps22
    go_wp2_with fail
    go_ret
    exact ⟨rfl, Below.refl _ _⟩
  · have hr0 : fits n L = fitsF n 0 L := by unfold fits; rw [decide_eq_true (by omega)]; rfl
    obtain ⟨r, hr⟩ : ∃ r, fits n L = r := ⟨_, rfl⟩
    rw [hr]
    have HR : Hid (r = fitsF n 0 (L.drop 0)) := Lib.hid (by rw [← hr, hr0]; rfl)
    clear hr hr0
    go_enter Try.func22, Try.ntmps22
    go_wp2_with fail
    go_loopw [5] (fun k wr => ∃ (i : Nat) (fr : Int), k = .int .i64 (i : Int) ∧ i ≤ L.length ∧ 0 ≤ fr ∧ (i = 0 → fr ≤ 0) ∧ Hid (∀ y, 0 < i → L[i - 1]? = some y → fr = y.t) ∧ Hid (r = fitsF n fr (L.drop i)) ∧ Hid (Below w.heap.size w wr)) (fun k _ => L.length - (intOf k).toNat)
    case atStart => exact ⟨0, 0, rfl, Nat.zero_le _, Int.le_refl _, fun _ => Int.le_refl _, Lib.hid (fun y h => by omega), HR, Lib.hid (Below.refl _ _)⟩
    case round =>
      obtain ⟨i, fr, rfl, hi, hfr, hf0, hfy, hf, hb⟩ := hrel
      clear HR
      by_cases hlt : i < L.length
      · obtain ⟨x, hx⟩ : ∃ x, L[i]? = some x := ⟨_, List.getElem?_eq_getElem hlt⟩
        obtain ⟨b, o, rfl, d0, d1, d2⟩ := HS.out.at hx
        have hbw := cell_lt d0
        have c0 := cell_keep2 hb.out d0 hbw
        have c1 := cell_keep2 hb.out d1 hbw
        have HX := Lib.hid hx
        have hd := drop_at hx
        rw [hd] at hf
        have q : decide ((i : Int) < (L.length : Int)) = true := by simpa using hlt
        have q2 : decide (i < L.length) = true := by simpa using hlt
        clear hx hd d0 d1 d2
        by_cases h0 : x.f < 0
        · have e0 : decide (x.f < 0) = true := by simpa using h0
          clear hfy HX
          have hr : r = false := by rw [hf.out, fitsF_no (by omega)]
          subst hr
          clear hf
          go_wp2_with fail
          go_quiet (fail)
          go_wp2_with fail
          go_ret
          exact ⟨rfl, drewN_below hb.out _⟩
        · by_cases h1 : x.t < x.f
          · have e0 : decide (x.f < 0) = false := by simpa using h0
            have e1 : decide (x.t < x.f) = true := by simpa using h1
            clear hfy HX
            have hr : r = false := by rw [hf.out, fitsF_no (by omega)]
            subst hr
            clear hf
            go_wp2_with fail
            go_quiet (fail)
            go_wp2_with fail
            go_ret
            exact ⟨rfl, drewN_below hb.out _⟩
          · by_cases h2 : n < x.t
            · have e0 : decide (x.f < 0) = false := by simpa using h0
              have e1 : decide (x.t < x.f) = false := by simpa using h1
              have e2 : decide (n < x.t) = true := by simpa using h2
              clear hfy HX
              have hr : r = false := by rw [hf.out, fitsF_no (by omega)]
              subst hr
              clear hf
              go_wp2_with fail
              go_quiet (fail)
              go_wp2_with fail
              go_ret
              exact ⟨rfl, drewN_below hb.out _⟩
            · rcases Nat.eq_zero_or_pos i with hz | hz
              · subst hz
                have e0 : decide (x.f < 0) = false := by simpa using h0
                have e1 : decide (x.t < x.f) = false := by simpa using h1
                have e2 : decide (n < x.t) = false := by simpa using h2
                have HF : Hid (r = fitsF n x.t (L.drop (0 + 1))) := Lib.hid (by rw [hf.out, fitsF_yes (by omega) (by omega) (by omega)])
                have HY : Hid (∀ z, L[0]? = some z → x.t = z.t) := Lib.hid (fun z hz => by have := HX.out; rw [hz] at this; cases this; rfl)
                simp only [Nat.zero_mul, Nat.add_zero] at c0 c1
                clear hf hfy HX
                have q3 : (0 : Int) < (L.length : Int) := by omega
                go_wp2_with fail
                go_quiet (fail)
                go_wp2_with fail
                go_roundw
                case rel => exact ⟨1, x.t, by go_num, by omega, by omega, by omega, Lib.hid (fun z _ hz => HY.out z hz), HF, Lib.hid (drewN_below hb.out _)⟩
                case measure => simp [intOf]; omega
              · obtain ⟨y, hy⟩ : ∃ y, L[i - 1]? = some y := ⟨_, List.getElem?_eq_getElem (show i - 1 < L.length by omega)⟩
                obtain ⟨b', o', e', _, p1, _⟩ := HS.out.at hy
                cases e'
                have c3 := cell_keep2 hb.out p1 hbw
                have hyt := hfy.out y hz hy
                subst hyt
                clear hy p1
                have e0 : decide (x.f < 0) = false := by simpa using h0
                have e1 : decide (x.t < x.f) = false := by simpa using h1
                have e2 : decide (n < x.t) = false := by simpa using h2
                have e4 : decide ((0 : Int) < (i : Int)) = true := by simpa using hz
                have e5 : decide (0 < i) = true := by simpa using hz
                by_cases h3 : x.f < y.t
                · have e3 : decide (x.f < y.t) = true := by simpa using h3
                  clear hfy HX
                  have hr : r = false := by rw [hf.out, fitsF_no (by omega)]
                  subst hr
                  clear hf
                  go_wp2_with fail
                  go_quiet (fail)
                  go_wp2_with fail
                  go_ret
                  exact ⟨rfl, drewN_below hb.out _⟩
                · have e3 : decide (x.f < y.t) = false := by simpa using h3
                  have HF : Hid (r = fitsF n x.t (L.drop (i + 1))) := Lib.hid (by rw [hf.out, fitsF_yes (by omega) (by omega) (by omega)])
                  have HY : Hid (∀ z, L[i]? = some z → x.t = z.t) := Lib.hid (fun z hz => by have := HX.out; rw [hz] at this; cases this; rfl)
                  clear hf hfy HX
                  go_wp2_with fail
                  go_quiet (fail)
                  go_wp2_with fail
                  go_roundw
                  case rel => exact ⟨i + 1, x.t, by go_num, by omega, by omega, by omega, Lib.hid (fun z _ hz => HY.out z hz), HF, Lib.hid (drewN_below hb.out _)⟩
                  case measure => simp [intOf]; omega
      · have hr : r = true := by rw [hf.out, List.drop_eq_nil_of_le (by omega)]; rfl
        subst hr
        clear hf
        go_wp2_with fail
        go_ret
        exact ⟨rfl, hb.out⟩
end Go.Proofs.Ytlgjlfljohapfaa
