/-
  edits' Moved and emendref07's, AT EVERY LIST of 30 splices at most: where a place stands, or that it is not kept. No memory that was there turns. Conditions: the list's length, the texts' lengths, the numbers' bounds.
-/
import Derived.Test.YtlgjlfljohapfaaEMoves
import Derived.Test.YtlgjlfljohapfaaEPlain2
import Derived.IntWalk
namespace Go.Proofs.Ytlgjlfljohapfaa
open Go.RowKit

def movE (L : List Spl) (p : Int) : Ending := .returned (.tuple #[.int .i64 (movV L p), .bool (movOk L p)])
theorem movE_no {L : List Spl} {p : Int} (h : movOk L p = false) : movE L p = .returned (.tuple #[.int .i64 0, .bool false]) := by
  unfold movE movV; rw [h]; rfl
theorem movE_yes {L : List Spl} {p : Int} (h : movOk L p = true) : movE L p = .returned (.tuple #[.int .i64 (p + movD p L), .bool true]) := by
  unfold movE movV; rw [h]; rfl
theorem movR {a b : Int} (h : a = b) : Ending.returned (.tuple #[.int .i64 a, .bool true]) = .returned (.tuple #[.int .i64 b, .bool true]) := by rw [h]
theorem movD_cons (p : Int) (x : Spl) (l : List Spl) : movD p (x :: l) = (if x.t ≤ p then grow x else 0) + movD p l := rfl
set_option maxRecDepth 100000 in
set_option maxHeartbeats 2000000 in
theorem moved_any (p : Int) (A : Option Addr) (L : List Spl) (c : Nat) (hL : L.length ≤ 100) (hO : ∀ x ∈ L, okS x) (w : World) (hS : SR w A L) :
    Calls Try.prog 24 #[.slice A L.length c, .int .i64 p] w fun e w' => e = movE L p ∧ Below w.heap.size w w' := by
  have HS := Lib.hid hS
  have HO := Lib.hid hO
  clear hO
  by_cases h0 : p < 0
  · rw [movE_no (by unfold movOk; rw [decide_eq_false (by omega)]; rfl)]
    go_enter Try.func24, Try.ntmps24
    go_wp2_with fail
    go_ret2
    exact ⟨rfl, Below.refl _ _⟩
  by_cases h1 : far < p
  · rw [movE_no (by unfold movOk; rw [decide_eq_false (p := p ≤ far) (by omega)]; simp)]
    unfold far at h1
    go_enter Try.func24, Try.ntmps24
    go_wp2_with fail
    go_ret2
    exact ⟨rfl, Below.refl _ _⟩
  have HC := Lib.hid (check_any big A L c (by omega) w hS)
  unfold chkE at HC
  by_cases h2 : fits big L = true
  · rw [h2] at HC
    have hq0 : movOk L p = keptB p L := by unfold movOk; rw [decide_eq_true (by omega), decide_eq_true (p := p ≤ far) (by omega), h2]; simp
    have hf0 : fitsF big 0 L = true := by unfold fits at h2; rw [Bool.and_eq_true] at h2; exact h2.2
    obtain ⟨ee, hee⟩ : ∃ ee, movE L p = ee := ⟨_, rfl⟩
    rw [hee]
    have HY : Hid (keptB p (L.drop 0) = true → ee = .returned (.tuple #[.int .i64 (p + movD p (L.drop 0)), .bool true])) := Lib.hid (fun h => by rw [← hee, movE_yes (by rw [hq0]; exact h)]; rfl)
    have HN : Hid (keptB p (L.drop 0) = false → ee = .returned (.tuple #[.int .i64 0, .bool false])) := Lib.hid (fun h => by rw [← hee, movE_no (by rw [hq0]; exact h)])
    have HF : Hid (fitsF big 0 (L.drop 0) = true) := Lib.hid hf0
    clear hee hq0 hf0 h2 hS
    unfold far at h1
    unfold big at HC
    go_enter Try.func24, Try.ntmps24
    go_wp2_with fail
    refine HC.out.mono ?_
    rintro e w1 ⟨rfl, hb1⟩
    have HB1 := Lib.hid hb1
    clear hb1 HC
    go_wp2_with fail
    go_loopw [6, 23] (fun v k wr => ∃ (i : Nat) (fr z : Int), v = .int .i64 z ∧ k = .int .i64 (i : Int) ∧ i ≤ L.length ∧ 0 ≤ fr ∧ 0 ≤ z ∧ p - fr ≤ z ∧ z ≤ p + 300 * i ∧ Hid (fitsF big fr (L.drop i) = true) ∧
      Hid (keptB p (L.drop i) = true → ee = .returned (.tuple #[.int .i64 (z + movD p (L.drop i)), .bool true])) ∧ Hid (keptB p (L.drop i) = false → ee = .returned (.tuple #[.int .i64 0, .bool false])) ∧ Hid (Below w.heap.size w wr)) (fun _ k _ => L.length - (intOf k).toNat)
    case atStart => exact ⟨0, 0, p, rfl, rfl, Nat.zero_le _, Int.le_refl _, by omega, by omega, by omega, HF, HY, HN, HB1⟩
    case round =>
      clear HF HY HN
      obtain ⟨i, fr, z, rfl, rfl, hi, hfr, hz0, hz1, hz2, HF, HY, HN, hb⟩ := hrel
      by_cases hlt : i < L.length
      · obtain ⟨x, hx⟩ : ∃ x, L[i]? = some x := ⟨_, List.getElem?_eq_getElem hlt⟩
        obtain ⟨b, o, rfl, d0, d1, d2⟩ := HS.out.at hx
        obtain ⟨ok1, ok2, ok3, ok4, ok5⟩ := HO.out x (List.mem_of_getElem? hx)
        have hbw := cell_lt d0
        have c0 := cell_keep2 hb.out d0 hbw
        have c1 := cell_keep2 hb.out d1 hbw
        have c2 := cell_keep2 hb.out d2 hbw
        have q : decide ((i : Int) < (L.length : Int)) = true := by simpa using hlt
        have HB2 := Lib.hid (hb.out.trans ((alloc_below wr (.cells #[.int .i64 x.f, .int .i64 x.t, .string x.s] 62)).mono hb.out.size))
        have hd := drop_at hx
        rw [hd] at HF HY HN
        rw [keptB_cons] at HY HN
        obtain ⟨f1, f2, f3, f4⟩ := fitsF_step HF.out
        have HF2 := Lib.hid f4
        clear hx hd d0 d1 d2 f4 HF
        by_cases h3 : x.t ≤ p
        · have HY2 : Hid (keptB p (L.drop (i + 1)) = true → ee = .returned (.tuple #[.int .i64 (z + (x.s.size - (x.t - x.f)) + movD p (L.drop (i + 1))), .bool true])) := Lib.hid (fun h => by
            have := HY.out (by rw [decide_eq_false (p := p < x.t) (by omega), h]; simp)
            exact this.trans (movR (by rw [movD_cons, if_pos h3]; unfold grow; omega)))
          have HN2 : Hid (keptB p (L.drop (i + 1)) = false → ee = .returned (.tuple #[.int .i64 0, .bool false])) := Lib.hid (fun h => HN.out (by rw [h]; simp))
          have HG := Lib.hid (fun W => growth_any x.f x.t x.s (by omega) f2 ok4 (by omega) W)
          clear HY HN
          go_wp2_with fail
          refine (HG.out _).mono ?_
          rintro e w2 ⟨rfl, hb2⟩
          have HB3 := Lib.hid (HB2.out.trans (hb2.mono HB2.out.size))
          clear hb2 HB2 HG
          go_wp2_with fail
          go_roundw
          case rel => exact ⟨i + 1, x.t, z + (x.s.size - (x.t - x.f)), by go_num, by go_num, by omega, by omega, by omega, by omega, by omega, HF2, HY2, HN2, HB3⟩
          case measure => simp [intOf]; omega
        · by_cases h4 : x.f ≤ p
          · have he := HN.out (by rw [decide_eq_true h4, decide_eq_true (p := p < x.t) (by omega)]; rfl)
            subst he
            clear HY HN
            go_wp2_with fail
            go_ret2
            exact ⟨rfl, HB2.out⟩
          · have HY2 : Hid (keptB p (L.drop (i + 1)) = true → ee = .returned (.tuple #[.int .i64 (z + movD p (L.drop (i + 1))), .bool true])) := Lib.hid (fun h => by
              have := HY.out (by rw [decide_eq_false (p := x.f ≤ p) (by omega), h]; simp)
              exact this.trans (movR (by rw [movD_cons, if_neg h3]; omega)))
            have HN2 : Hid (keptB p (L.drop (i + 1)) = false → ee = .returned (.tuple #[.int .i64 0, .bool false])) := Lib.hid (fun h => HN.out (by rw [h]; simp))
            clear HY HN
            go_wp2_with fail
            go_roundw
            case rel => exact ⟨i + 1, x.t, z, rfl, by go_num, by omega, by omega, by omega, by omega, by omega, HF2, HY2, HN2, HB2⟩
            case measure => simp [intOf]; omega
      · have he := HY.out (by rw [List.drop_eq_nil_of_le (by omega)]; rfl)
        rw [List.drop_eq_nil_of_le (by omega)] at he
        simp only [movD, Int.add_zero] at he
        subst he
        clear HY HN HF
        have q : decide ((i : Int) < (L.length : Int)) = false := by simp; omega
        go_wp2_with fail
        go_ret2
        exact ⟨rfl, hb.out⟩
  · have h2' : fits big L = false := by simpa using h2
    rw [h2'] at HC
    rw [movE_no (by unfold movOk; rw [h2']; simp)]
    unfold far at h1
    unfold big at HC
    clear h2 h2'
    go_enter Try.func24, Try.ntmps24
    go_wp2_with fail
    refine HC.out.mono ?_
    rintro e w1 ⟨rfl, hb1⟩
    go_wp2_with fail
    go_ret2
    exact ⟨rfl, hb1⟩
end Go.Proofs.Ytlgjlfljohapfaa
