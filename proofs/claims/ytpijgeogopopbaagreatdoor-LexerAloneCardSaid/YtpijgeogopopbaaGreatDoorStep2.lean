/-
  emendref03.Step, Broken AT EVERY TEXT of at most 1000000 bytes: how many bytes the point has that stands at a place, the first place from which on no point stands; the world is as it was. Condition: the text's length.
-/
import Derived.Test.YtpijgeogopopbaaGreatDoorStep
namespace Go.Proofs.YtpijgeogopopbaaGreatDoor
open Go.RowKit

set_option maxRecDepth 100000 in
theorem step_ascii (s : ByteArray) (k : Nat) (hk : k < s.size) (x : Nat) (hx : s[k].toNat = x) (h : x < 128) (w : World) : Calls Tryz.prog 35 #[.string s, .int .i64 k] w fun e w' => e = .returned (.int .i64 1) ∧ w = w' := by
  have d1 : decide ((x : Int) < 128) = true := by simp; omega
  go_enter Tryz.func35, Tryz.ntmps35
  go_wp2_with fail
  go_ret
  exact ⟨rfl, rfl⟩
set_option maxRecDepth 100000 in
theorem step_mid (s : ByteArray) (k : Nat) (hk : k < s.size) (x : Nat) (hx : s[k].toNat = x) (h : 128 ≤ x ∧ x < 194) (w : World) : Calls Tryz.prog 35 #[.string s, .int .i64 k] w fun e w' => e = .returned (.int .i64 0) ∧ w = w' := by
  have d1 : decide ((x : Int) < 128) = false := by simp; omega
  have g194 : decide (194 ≤ (x : Int)) = false := by simp; omega
  have g224 : decide (224 ≤ (x : Int)) = false := by simp; omega
  have g240 : decide (240 ≤ (x : Int)) = false := by simp; omega
  have q224 : (((x : Nat) : Int) == 224) = false := by simp; omega
  have q237 : (((x : Nat) : Int) == 237) = false := by simp; omega
  have q240 : (((x : Nat) : Int) == 240) = false := by simp; omega
  have q244 : (((x : Nat) : Int) == 244) = false := by simp; omega
  go_enter Tryz.func35, Tryz.ntmps35
  go_wp2_with fail
  go_ret
  exact ⟨rfl, rfl⟩
set_option maxRecDepth 100000 in
theorem step_high (s : ByteArray) (k : Nat) (hk : k < s.size) (x : Nat) (hx : s[k].toNat = x) (h : 244 < x) (h256 : x < 256) (w : World) : Calls Tryz.prog 35 #[.string s, .int .i64 k] w fun e w' => e = .returned (.int .i64 0) ∧ w = w' := by
  have p1 : (x : Int) ≤ 255 := by omega
  have d1 : decide ((x : Int) < 128) = false := by simp; omega
  have g194 : decide (194 ≤ (x : Int)) = true := by simp; omega
  have g224 : decide (224 ≤ (x : Int)) = true := by simp; omega
  have g240 : decide (240 ≤ (x : Int)) = true := by simp; omega
  have l223 : decide ((x : Int) ≤ 223) = false := by simp; omega
  have l239 : decide ((x : Int) ≤ 239) = false := by simp; omega
  have l244 : decide ((x : Int) ≤ 244) = false := by simp; omega
  have q224 : (((x : Nat) : Int) == 224) = false := by simp; omega
  have q237 : (((x : Nat) : Int) == 237) = false := by simp; omega
  have q240 : (((x : Nat) : Int) == 240) = false := by simp; omega
  have q244 : (((x : Nat) : Int) == 244) = false := by simp; omega
  go_enter Tryz.func35, Tryz.ntmps35
  go_wp2_with fail
  go_ret
  exact ⟨rfl, rfl⟩
theorem pt_dec (l : List UInt8) : pt l = (decN (nth l 0) (nth l 1) (nth l 2) (nth l 3)).1 ∧ wd l = (decN (nth l 0) (nth l 1) (nth l 2) (nth l 3)).2 := ⟨rfl, rfl⟩
theorem step1 (l : List UInt8) (h : 194 ≤ nth l 0 ∧ nth l 0 ≤ 223) (P : Nat → Prop) (hP : ∀ j, P j ↔ (if j = 1 then 128 ≤ nth l 1 ∧ nth l 1 ≤ 191 else okc (nth l j) = true)) :
    ((∀ j, 1 ≤ j → j ≤ 1 → P j) → stepL l = 2) ∧ (∀ j, 1 ≤ j → j ≤ 1 → ¬ P j → stepL l = 0) := by
  have hs := step_two (nth l 0) (nth l 1) (nth l 2) (nth l 3) h (nth_lt l 1)
  have h1 := hP 1
  rw [if_pos rfl] at h1
  have ho : okc (nth l 1) = true ↔ (128 ≤ nth l 1 ∧ nth l 1 ≤ 191) := by unfold okc; rw [Bool.and_eq_true, decide_eq_true_eq, decide_eq_true_eq]
  refine ⟨fun ha => step_yes l 2 (hs.1 (ho.2 (h1.1 (ha 1 (by omega) (by omega))))), fun j j1 j2 hn => ?_⟩
  obtain rfl : j = 1 := by omega
  exact step_no l (hs.2 (by rw [Bool.eq_false_iff]; intro hx; exact hn (h1.2 (ho.1 hx))))
theorem step2 (l : List UInt8) (lo hi : Nat) (h : nth l 0 = 224 ∧ lo = 160 ∧ hi = 191 ∨ nth l 0 = 237 ∧ lo = 128 ∧ hi = 159 ∨ 225 ≤ nth l 0 ∧ nth l 0 ≤ 239 ∧ nth l 0 ≠ 237 ∧ lo = 128 ∧ hi = 191) :
    ((∀ j, 1 ≤ j → j ≤ 2 → (if j = 1 then lo ≤ nth l 1 ∧ nth l 1 ≤ hi else okc (nth l j) = true)) → stepL l = 3) ∧ (∀ j, 1 ≤ j → j ≤ 2 → ¬ (if j = 1 then lo ≤ nth l 1 ∧ nth l 1 ≤ hi else okc (nth l j) = true) → stepL l = 0) := by
  have hs := step_three (nth l 0) (nth l 1) (nth l 2) (nth l 3) lo hi h (nth_lt l 1) (nth_lt l 2)
  refine ⟨fun ha => step_yes l 3 (hs.1 ?_), fun j j1 j2 hn => step_no l (hs.2 (fun hx => hn ?_))⟩
  · have a1 := ha 1 (by omega) (by omega)
    have a2 := ha 2 (by omega) (by omega)
    rw [if_pos rfl] at a1
    rw [if_neg (by omega)] at a2
    exact ⟨a1.1, a1.2, a2⟩
  · rcases (show j = 1 ∨ j = 2 by omega) with rfl | rfl
    · rw [if_pos rfl]; exact ⟨hx.1, hx.2.1⟩
    · rw [if_neg (by omega)]; exact hx.2.2
theorem step3 (l : List UInt8) (lo hi : Nat) (h : nth l 0 = 240 ∧ lo = 144 ∧ hi = 191 ∨ nth l 0 = 244 ∧ lo = 128 ∧ hi = 143 ∨ 241 ≤ nth l 0 ∧ nth l 0 ≤ 243 ∧ lo = 128 ∧ hi = 191) :
    ((∀ j, 1 ≤ j → j ≤ 3 → (if j = 1 then lo ≤ nth l 1 ∧ nth l 1 ≤ hi else okc (nth l j) = true)) → stepL l = 4) ∧ (∀ j, 1 ≤ j → j ≤ 3 → ¬ (if j = 1 then lo ≤ nth l 1 ∧ nth l 1 ≤ hi else okc (nth l j) = true) → stepL l = 0) := by
  have hs := step_four (nth l 0) (nth l 1) (nth l 2) (nth l 3) lo hi h (nth_lt l 1) (nth_lt l 2) (nth_lt l 3)
  refine ⟨fun ha => step_yes l 4 (hs.1 ?_), fun j j1 j2 hn => step_no l (hs.2 (fun hx => hn ?_))⟩
  · have a1 := ha 1 (by omega) (by omega)
    have a2 := ha 2 (by omega) (by omega)
    have a3 := ha 3 (by omega) (by omega)
    rw [if_pos rfl] at a1
    rw [if_neg (by omega)] at a2 a3
    exact ⟨a1.1, a1.2, a2, a3⟩
  · rcases (show j = 1 ∨ j = 2 ∨ j = 3 by omega) with rfl | rfl | rfl
    · rw [if_pos rfl]; exact ⟨hx.1, hx.2.1⟩
    · rw [if_neg (by omega)]; exact hx.2.2.1
    · rw [if_neg (by omega)]; exact hx.2.2.2
theorem refStep_any (s : ByteArray) (k : Nat) (hk : k < s.size) (hs : s.size ≤ 1000000) (w : World) :
    Calls Tryz.prog 35 #[.string s, .int .i64 k] w fun e w' => e = .returned (.int .i64 (stepL (rest s k) : Int)) ∧ w = w' := by
  have h0 := nth_rest s k hk
  obtain ⟨x, hx⟩ : ∃ x, s[k].toNat = x := ⟨_, rfl⟩
  have h256 : x < 256 := by rw [← hx]; exact UInt8.toNat_lt _
  rw [hx] at h0
  by_cases a1 : x < 128
  · have e : stepL (rest s k) = 1 := step_yes _ _ (by
      obtain ⟨e1, e2⟩ := pt_dec (rest s k)
      rw [e1, e2, step_low _ _ _ _ (by omega)]; exact ⟨by simp, rfl⟩)
    rw [e]; exact step_ascii s k hk x hx a1 w
  by_cases a2 : x < 194
  · rw [step_no _ (step_none _ _ _ _ (by omega) (nth_lt _ _))]; exact step_mid s k hk x hx (by omega) w
  by_cases a3 : 244 < x
  · rw [step_no _ (step_none _ _ _ _ (by omega) (nth_lt _ _))]; exact step_high s k hk x hx a3 h256 w
  by_cases b1 : x ≤ 223
  · obtain ⟨y, n⟩ := step1 (rest s k) (by omega) _ (fun j => Iff.rfl)
    exact step_c1 s k hk hs x hx (by omega) _ y n w
  by_cases b2 : x = 224
  · obtain ⟨y, n⟩ := step2 (rest s k) 160 191 (by omega)
    exact step_c2 s k hk hs x hx b2 _ y n w
  by_cases b3 : x = 237
  · obtain ⟨y, n⟩ := step2 (rest s k) 128 159 (by omega)
    exact step_c3 s k hk hs x hx b3 _ y n w
  by_cases b4 : x ≤ 236
  · obtain ⟨y, n⟩ := step2 (rest s k) 128 191 (by omega)
    exact step_c4 s k hk hs x hx (by omega) _ y n w
  by_cases b5 : x ≤ 239
  · obtain ⟨y, n⟩ := step2 (rest s k) 128 191 (by omega)
    exact step_c5 s k hk hs x hx (by omega) _ y n w
  by_cases b6 : x = 240
  · obtain ⟨y, n⟩ := step3 (rest s k) 144 191 (by omega)
    exact step_c6 s k hk hs x hx b6 _ y n w
  by_cases b7 : x = 244
  · obtain ⟨y, n⟩ := step3 (rest s k) 128 143 (by omega)
    exact step_c7 s k hk hs x hx b7 _ y n w
  · obtain ⟨y, n⟩ := step3 (rest s k) 128 191 (by omega)
    exact step_c8 s k hk hs x hx (by omega) _ y n w
theorem stepL_good (l : List UInt8) (h : l ≠ []) : (stepL l = 0 → good l = 0) ∧ (stepL l ≠ 0 → good l = stepL l + good (l.drop (stepL l))) := by
  unfold stepL
  by_cases hp : pt l < 0
  · rw [if_pos hp]; exact ⟨fun _ => good_bad l h hp, fun h => absurd rfl h⟩
  · rw [if_neg hp]; exact ⟨fun h0 => by have := wd_pos l; omega, fun _ => good_cons l h hp⟩
/-- What Broken hands back. -/
def brokenV (l : List UInt8) : Int := if good l < l.length then (good l : Int) else -1
set_option maxHeartbeats 1000000 in
theorem broken_any (s : ByteArray) (hs : s.size ≤ 1000000) (w : World) : Calls Tryz.prog 20 #[.string s] w fun e w' => e = .returned (.int .i64 (brokenV s.data.toList)) ∧ w = w' := by
  have hsl : s.data.toList.length = s.size := rfl
  go_enter Tryz.func20, Tryz.ntmps20
  go_wp2_with fail
  go_loop [3] (fun u => ∃ i : Nat, i ≤ s.size ∧ u = .int .i64 i ∧ Hid (i + good (rest s i) = good s.data.toList)) (fun u => s.size - (intOf u).toNat)
  case atStart => exact ⟨0, Nat.zero_le _, rfl, Lib.hid (by rw [rest_zero, Nat.zero_add])⟩
  case round =>
    obtain ⟨i, hi, rfl, hrel⟩ := hrel
    by_cases hlt : i < s.size
    · have hne := rest_ne s i hlt
      have hw := wd_le _ hne
      rw [rest_len] at hw
      have HS := Lib.hid (fun w => refStep_any s i hlt hs w)
      obtain ⟨g0, g1⟩ := stepL_good _ hne
      have hle : stepL (rest s i) ≤ wd (rest s i) := by unfold stepL; split <;> omega
      by_cases h0 : stepL (rest s i) = 0
      · have HG : Hid (i = good s.data.toList) := Lib.hid (by rw [← hrel.out, g0 h0]; rfl)
        rw [h0] at HS
        clear g0 g1 hle h0 hne hw hrel
        go_wp2_with fail
        refine (HS.out _).mono ?_
        rintro e w' ⟨rfl, rfl⟩
        go_wp2_with fail
        go_ret
        exact ⟨ret_i64 (by unfold brokenV; rw [hsl, ← HG.out, if_pos hlt]), rfl⟩
      · have HG : Hid (i + stepL (rest s i) + good (rest s (i + stepL (rest s i))) = good s.data.toList) := Lib.hid (by rw [← hrel.out, g1 h0, rest_drop]; omega)
        generalize stepL (rest s i) = n at *
        have e0 : (((n : Nat) : Int) == 0) = false := by simp only [beq_eq_false_iff_ne, ne_eq]; omega
        clear g0 g1 hne hrel
        go_wp2_with fail
        refine (HS.out _).mono ?_
        rintro e w' ⟨rfl, rfl⟩
        go_wp2_with fail
        go_round
        case rel => exact ⟨i + n, by omega, by go_num, HG⟩
        case measure => simp [intOf]; omega
    · have HG : Hid (good s.data.toList = s.size) := Lib.hid (by rw [← hrel.out, rest_end s i hlt, good_nil]; omega)
      clear hrel
      go_wp2_with fail
      go_ret
      exact ⟨ret_i64 (by unfold brokenV; rw [hsl, HG.out, if_neg (by omega)]), rfl⟩
end Go.Proofs.YtpijgeogopopbaaGreatDoor
