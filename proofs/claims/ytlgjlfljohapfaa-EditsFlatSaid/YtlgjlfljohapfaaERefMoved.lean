/-
  emendref07's Moved AT EVERY LIST of 100 splices at most: where a place stands, or that it is not kept. No memory that was there turns. Conditions: the list's length, the texts' lengths, the numbers' bounds.
-/
import Derived.Test.YtlgjlfljohapfaaEMoved
namespace Go.Proofs.Ytlgjlfljohapfaa
open Go.RowKit

theorem maxT_cons (a : Int) (x : Spl) (l : List Spl) : maxT a (x :: l) = maxT (max a x.t) l := rfl
set_option maxRecDepth 100000 in
set_option maxHeartbeats 4000000 in
theorem refMoved_any (p : Int) (A : Option Addr) (L : List Spl) (c : Nat) (hL : L.length ≤ 100) (hO : ∀ x ∈ L, okS x) (w : World) (hS : SR w A L) :
    Calls Try.prog 25 #[.slice A L.length c, .int .i64 p] w fun e w' => e = movE L p ∧ Below w.heap.size w w' := by
  have HS := Lib.hid hS
  have HO := Lib.hid hO
  have hM0 := maxT_ge L 0
  have hM1 := maxT_le 9223372036854775807 L 0 (by decide) (fun x hx => (hO x hx).2.2.2.1)
  have HM := fits_max L hO
  obtain ⟨M, hM⟩ : ∃ M, maxT 0 L = M := ⟨_, rfl⟩
  rw [hM] at hM0 hM1 HM
  have HM0 : Hid (M = maxT 0 (L.drop 0)) := Lib.hid hM.symm
  clear hM
  obtain ⟨ee, hee⟩ : ∃ ee, movE L p = ee := ⟨_, rfl⟩
  rw [hee]
  have HFm := Lib.hid HM
  have HEE := Lib.hid hee
  clear hO hS HM hee
  go_enter Try.func25, Try.ntmps25
  go_wp2_with fail
  go_loop [6, 7] (fun v k => ∃ (i : Nat) (z : Int), v = .int .i64 z ∧ k = .int .i64 (i : Int) ∧ i ≤ L.length ∧ 0 ≤ z ∧ z ≤ 9223372036854775807 ∧ Hid (M = maxT z (L.drop i))) (fun _ k => L.length - (intOf k).toNat)
  case atStart => exact ⟨0, 0, rfl, rfl, Nat.zero_le _, Int.le_refl _, by omega, HM0⟩
  case round =>
    clear HM0
    obtain ⟨i, z, rfl, rfl, hi, hz0, hz1, hf⟩ := hrel
    by_cases hlt : i < L.length
    · obtain ⟨x, hx⟩ : ∃ x, L[i]? = some x := ⟨_, List.getElem?_eq_getElem hlt⟩
      obtain ⟨b, o, rfl, c0, c1, c2⟩ := HS.out.at hx
      obtain ⟨ok1, ok2, ok3, ok4, ok5⟩ := HO.out x (List.mem_of_getElem? hx)
      have hd := drop_at hx
      rw [hd, maxT_cons] at hf
      clear hx hd
      by_cases hm : x.t ≤ z
      · rw [Int.max_eq_left hm] at hf
        go_wp2_with fail
        go_round
        case rel => exact ⟨i + 1, z, by go_num, by go_num, by omega, hz0, hz1, hf⟩
        case measure => simp [intOf]; omega
      · rw [Int.max_eq_right (by omega)] at hf
        go_wp2_with fail
        go_round
        case rel => exact ⟨i + 1, x.t, by go_num, by go_num, by omega, by omega, ok4, hf⟩
        case measure => simp [intOf]; omega
    · have hzM := hf.out
      rw [List.drop_eq_nil_of_le (by omega)] at hzM
      have hzN : M = z := hzM
      clear hzM
      subst hzN
      have e0 : i = L.length := by omega
      subst e0
      clear hf hz0 hz1 hM0 hM1 hi hlt
      by_cases h0 : p < 0
      · have he : ee = .returned (.tuple #[.int .i64 0, .bool false]) := by rw [← HEE.out, movE_no (by unfold movOk; rw [decide_eq_false (by omega)]; rfl)]
        subst he
        go_wp2_with fail
        go_ret2
        exact ⟨rfl, Below.refl _ _⟩
      by_cases h1 : far < p
      · have he : ee = .returned (.tuple #[.int .i64 0, .bool false]) := by rw [← HEE.out, movE_no (by unfold movOk; rw [decide_eq_false (p := p ≤ far) (by omega)]; simp)]
        subst he
        unfold far at h1
        go_wp2_with fail
        go_ret2
        exact ⟨rfl, Below.refl _ _⟩
      have HC := Lib.hid (refFits_any M A L c (by omega) w HS.out)
      have HK := Lib.hid (fun W (hb : Below w.heap.size w W) => kept_any p A L c (by omega) W (HS.out.keep hb))
      rw [HFm.out] at HC
      by_cases h2 : fits big L = true
      · rw [h2] at HC
        have hq0 : movOk L p = keptB p L := by unfold movOk; rw [decide_eq_true (by omega), decide_eq_true (p := p ≤ far) (by omega), h2]; simp
        have hf0 : fitsF big 0 L = true := by unfold fits at h2; rw [Bool.and_eq_true] at h2; exact h2.2
        cases hk : keptB p L with
        | false =>
          have he : ee = .returned (.tuple #[.int .i64 0, .bool false]) := by rw [← HEE.out, movE_no (by rw [hq0, hk])]
          subst he
          rw [hk] at HK
          clear hq0 hf0 h2 hk HEE HFm
          unfold far at h1
          go_wp2_with fail
          refine HC.out.mono ?_
          rintro e w1 ⟨rfl, hb1⟩
          have HK1 := Lib.hid (HK.out w1 hb1)
          have HB1 := Lib.hid hb1
          clear hb1 HC HK
          go_wp2_with fail
          refine HK1.out.mono ?_
          rintro e w2 ⟨rfl, rfl⟩
          go_wp2_with fail
          go_ret2
          exact ⟨rfl, HB1.out⟩
        | true =>
          have he : ee = .returned (.tuple #[.int .i64 (p + movD p L), .bool true]) := by rw [← HEE.out, movE_yes (by rw [hq0, hk])]
          rw [hk] at HK
          have HY : Hid (ee = .returned (.tuple #[.int .i64 (p + movD p (L.drop 0)), .bool true])) := Lib.hid he
          have HKp : Hid (keptB p (L.drop 0) = true) := Lib.hid hk
          have HF : Hid (fitsF big 0 (L.drop 0) = true) := Lib.hid hf0
          clear hq0 hf0 h2 hk HEE HFm he
          unfold far at h1
          go_wp2_with fail
          refine HC.out.mono ?_
          rintro e w1 ⟨rfl, hb1⟩
          have HK1 := Lib.hid (HK.out w1 hb1)
          have HB1 := Lib.hid hb1
          clear hb1 HC HK
          go_wp2_with fail
          refine HK1.out.mono ?_
          rintro e w2 ⟨rfl, rfl⟩
          clear HK1
          go_wp2_with fail
          go_loopw [8, 9] (fun v k wr => ∃ (i : Nat) (fr z : Int), v = .int .i64 z ∧ k = .int .i64 (i : Int) ∧ i ≤ L.length ∧ 0 ≤ fr ∧ 0 ≤ z ∧ p - fr ≤ z ∧ z ≤ p + 300 * i ∧ Hid (fitsF big fr (L.drop i) = true) ∧ Hid (keptB p (L.drop i) = true) ∧
            Hid (ee = .returned (.tuple #[.int .i64 (z + movD p (L.drop i)), .bool true])) ∧ Hid (Below w.heap.size w wr)) (fun _ k _ => L.length - (intOf k).toNat)
          case atStart => exact ⟨0, 0, p, rfl, rfl, Nat.zero_le _, Int.le_refl _, by omega, by omega, by omega, HF, HKp, HY, HB1⟩
          case round =>
            clear HF HY HKp HB1
            obtain ⟨i, fr, z, rfl, rfl, hi, hfr, hz0, hz1, hz2, HF, HKp, HY, hb⟩ := hrel
            by_cases hlt : i < L.length
            · obtain ⟨x, hx⟩ : ∃ x, L[i]? = some x := ⟨_, List.getElem?_eq_getElem hlt⟩
              obtain ⟨b, o, rfl, d0, d1, d2⟩ := HS.out.at hx
              obtain ⟨ok1, ok2, ok3, ok4, ok5⟩ := HO.out x (List.mem_of_getElem? hx)
              have hbw := cell_lt d0
              have c0 := cell_keep2 hb.out d0 hbw
              have c1 := cell_keep2 hb.out d1 hbw
              have c2 := cell_keep2 hb.out d2 hbw
              have q : decide ((i : Int) < (L.length : Int)) = true := by simpa using hlt
              have q2 : decide (i < L.length) = true := by simpa using hlt
              have hd := drop_at hx
              rw [hd] at HF HY HKp
              rw [keptB_cons] at HKp
              obtain ⟨f1, f2, f3, f4⟩ := fitsF_step HF.out
              have HF2 := Lib.hid f4
              have hkp := HKp.out
              rw [Bool.and_eq_true] at hkp
              have HK2 := Lib.hid hkp.2
              have hkx := hkp.1
              clear hx hd d0 d1 d2 f4 HF HKp hkp
              by_cases h3 : x.t ≤ p
              · have HY2 : Hid (ee = .returned (.tuple #[.int .i64 (z - (x.t - x.f) + x.s.size + movD p (L.drop (i + 1))), .bool true])) := Lib.hid (HY.out.trans (movR (by rw [movD_cons, if_pos h3]; unfold grow; omega)))
                clear HY hkx
                have g0 : 0 ≤ z - (x.t - x.f) := by omega
                have g4 : z - (x.t - x.f) + x.s.size ≤ p + 300 * ((i + 1 : Nat) : Int) := by omega
                have g5 : p - x.t ≤ z - (x.t - x.f) + x.s.size := by omega
                have s1 : IntKind.i64.wrap (x.t - x.f) = x.t - x.f := IntWalk.i64_in _ (by omega)
                have s2 : IntKind.i64.wrap (z - (x.t - x.f)) = z - (x.t - x.f) := IntWalk.i64_in _ (by omega)
                have s3 : IntKind.i64.wrap (z - (x.t - x.f) + x.s.size) = z - (x.t - x.f) + x.s.size := IntWalk.i64_in _ (by omega)
                go_wp2_with fail
                go_quiet (fail)
                go_wp2_with fail
                go_roundw
                case rel => exact ⟨i + 1, x.t, z - (x.t - x.f) + x.s.size, by first | rfl | go_num, by go_num, by omega, by omega, by omega, g5, g4, HF2, HK2, HY2, Lib.hid (drewN_below hb.out _)⟩
                case measure => simp [intOf]; omega
              · have HY2 : Hid (ee = .returned (.tuple #[.int .i64 (z + movD p (L.drop (i + 1))), .bool true])) := Lib.hid (HY.out.trans (movR (by rw [movD_cons, if_neg h3]; omega)))
                clear HY hkx
                go_wp2_with fail
                go_roundw
                case rel => exact ⟨i + 1, x.t, z, rfl, by go_num, by omega, by omega, by omega, by omega, by omega, HF2, HK2, HY2, hb⟩
                case measure => simp [intOf]; omega
            · have he := HY.out
              rw [List.drop_eq_nil_of_le (by omega)] at he
              simp only [movD, Int.add_zero] at he
              subst he
              clear HY HF HKp
              go_wp2_with fail
              go_ret2
              exact ⟨rfl, hb.out⟩
      · have h2' : fits big L = false := by simpa using h2
        rw [h2'] at HC
        have he : ee = .returned (.tuple #[.int .i64 0, .bool false]) := by rw [← HEE.out, movE_no (by unfold movOk; rw [h2']; simp)]
        subst he
        unfold far at h1
        clear h2 h2' HEE HFm
        go_wp2_with fail
        refine HC.out.mono ?_
        rintro e w1 ⟨rfl, hb1⟩
        go_wp2_with fail
        go_ret2
        exact ⟨rfl, hb1⟩
end Go.Proofs.Ytlgjlfljohapfaa
