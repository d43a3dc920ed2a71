/-
  emendref03.Step WHERE A POINT OF TWO TO FOUR BYTES MAY STAND, by its first byte: what it returns; the world is as it was. Condition: the text's length.
-/
import Derived.Test.YtpijgeogopopbaaGreatDoorScan
namespace Go.Proofs.YtpijgeogopopbaaGreatDoor
open Go.RowKit

/-- How many bytes the point has that a text begins with; nought: none does. -/
def stepL (l : List UInt8) : Nat := if pt l < 0 then 0 else wd l
def okc (x : Nat) : Bool := decide (128 ≤ x) && decide (x ≤ 191)
theorem step_low (a b c d : Nat) (h : a < 128) : decN a b c d = ((a : Int), 1) := decN_ascii a b c d h
theorem step_none (a b c d : Nat) (h : 128 ≤ a ∧ a < 194 ∨ 244 < a) (ha : a < 256) : (decN a b c d).1 < 0 := by
  unfold decN
  repeat' split
  all_goals first | omega | (simp only; omega)
theorem step_two (a b c d : Nat) (h : 194 ≤ a ∧ a ≤ 223) (hb : b < 256) : (okc b = true → 0 ≤ (decN a b c d).1 ∧ (decN a b c d).2 = 2) ∧ (okc b = false → (decN a b c d).1 < 0) := by
  unfold okc
  rw [Bool.and_eq_true, decide_eq_true_eq, decide_eq_true_eq, Bool.and_eq_false_iff, decide_eq_false_iff_not, decide_eq_false_iff_not]
  refine ⟨fun hh => ?_, fun hh => ?_⟩
  · unfold decN
    repeat' split
    all_goals first | omega | exact ⟨by simp only; omega, rfl⟩ | (simp only; omega)
  · unfold decN
    repeat' split
    all_goals first | omega | (simp only; omega)
theorem step_three (a b c d lo hi : Nat) (h : a = 224 ∧ lo = 160 ∧ hi = 191 ∨ a = 237 ∧ lo = 128 ∧ hi = 159 ∨ 225 ≤ a ∧ a ≤ 239 ∧ a ≠ 237 ∧ lo = 128 ∧ hi = 191) (hb : b < 256) (hc : c < 256) :
    (lo ≤ b ∧ b ≤ hi ∧ okc c = true → 0 ≤ (decN a b c d).1 ∧ (decN a b c d).2 = 3) ∧ (¬ (lo ≤ b ∧ b ≤ hi ∧ okc c = true) → (decN a b c d).1 < 0) := by
  unfold okc
  rw [Bool.and_eq_true, decide_eq_true_eq, decide_eq_true_eq]
  refine ⟨fun hh => ?_, fun hh => ?_⟩
  · unfold decN
    repeat' split
    all_goals first | omega | exact ⟨by simp only; omega, rfl⟩ | (simp only; omega)
  · unfold decN
    repeat' split
    all_goals first | omega | (simp only; omega)
theorem step_four (a b c d lo hi : Nat) (h : a = 240 ∧ lo = 144 ∧ hi = 191 ∨ a = 244 ∧ lo = 128 ∧ hi = 143 ∨ 241 ≤ a ∧ a ≤ 243 ∧ lo = 128 ∧ hi = 191) (hb : b < 256) (hc : c < 256) (hd : d < 256) :
    (lo ≤ b ∧ b ≤ hi ∧ okc c = true ∧ okc d = true → 0 ≤ (decN a b c d).1 ∧ (decN a b c d).2 = 4) ∧ (¬ (lo ≤ b ∧ b ≤ hi ∧ okc c = true ∧ okc d = true) → (decN a b c d).1 < 0) := by
  unfold okc
  rw [Bool.and_eq_true, Bool.and_eq_true, decide_eq_true_eq, decide_eq_true_eq, decide_eq_true_eq, decide_eq_true_eq]
  refine ⟨fun hh => ?_, fun hh => ?_⟩
  · unfold decN
    repeat' split
    all_goals first | omega | exact ⟨by simp only; omega, rfl⟩ | (simp only; omega)
  · unfold decN
    repeat' split
    all_goals first | omega | (simp only; omega)
theorem nth_at (s : ByteArray) (k i : Nat) (h : k + i < s.size) : nth (rest s k) i = (s[k + i]'h).toNat := by
  unfold nth rest
  rw [List.getD_eq_getElem?_getD, List.getElem?_drop, Array.getElem?_toList, Array.getElem?_eq_getElem (show k + i < s.data.size from h)]
  rfl
theorem step_yes (l : List UInt8) (n : Nat) (h : 0 ≤ pt l ∧ wd l = n) : stepL l = n := by unfold stepL; rw [if_neg (by omega)]; exact h.2
theorem step_no (l : List UInt8) (h : pt l < 0) : stepL l = 0 := by unfold stepL; rw [if_pos h]
set_option maxRecDepth 100000 in
set_option maxHeartbeats 2000000 in
theorem step_c1 (s : ByteArray) (k : Nat) (hk : k < s.size) (hs : s.size ≤ 1000000) (x : Nat) (hx : s[k].toNat = x) (hc : 194 ≤ x ∧ x ≤ 223) (R : Nat) (hy : (∀ j, 1 ≤ j → j ≤ 1 → (if j = 1 then 128 ≤ nth (rest s k) 1 ∧ nth (rest s k) 1 ≤ 191 else okc (nth (rest s k) j) = true)) → R = 2) (hn : ∀ j, 1 ≤ j → j ≤ 1 → ¬ (if j = 1 then 128 ≤ nth (rest s k) 1 ∧ nth (rest s k) 1 ≤ 191 else okc (nth (rest s k) j) = true) → R = 0) (w : World) :
    Calls Tryz.prog 35 #[.string s, .int .i64 k] w fun e w' => e = .returned (.int .i64 (R : Int)) ∧ w = w' := by
  have HY := Lib.hid hy
  have HN := Lib.hid hn
  clear hy hn
  have q224 : (((x : Nat) : Int) == 224) = false := by simp; omega
  have q237 : (((x : Nat) : Int) == 237) = false := by simp; omega
  have q240 : (((x : Nat) : Int) == 240) = false := by simp; omega
  have q244 : (((x : Nat) : Int) == 244) = false := by simp; omega
  have g194 : decide (194 ≤ (x : Int)) = true := by simp; omega
  have g224 : decide (224 ≤ (x : Int)) = false := by simp; omega
  have g240 : decide (240 ≤ (x : Int)) = false := by simp; omega
  have l223 : decide ((x : Int) ≤ 223) = true := by simp; omega
  have l239 : decide ((x : Int) ≤ 239) = true := by simp; omega
  have l244 : decide ((x : Int) ≤ 244) = true := by simp; omega
  have d1 : decide ((x : Int) < 128) = false := by simp; omega
  have p1 : (x : Int) ≤ 244 := by omega
  by_cases hend : s.size ≤ k + 1
  · have HR : Hid (R = 0) := Lib.hid (HN.out 1 (by omega) (by omega) (by rw [nth_end _ 1 (by rw [rest_len]; omega)]; decide))
    clear HY HN
    go_enter Tryz.func35, Tryz.ntmps35
    go_wp2_with fail
    go_ret
    exact ⟨ret_i64 (by rw [HR.out]; rfl), rfl⟩
  · have hin : k + 1 < s.size := by omega
    go_enter Tryz.func35, Tryz.ntmps35
    go_wp2_with fail
    go_loop [5, 6, 9] (fun vl vh vk => ∃ m : Nat, 1 ≤ m ∧ m ≤ 2 ∧ vk = .int .i64 m ∧ vl = .int .i64 (if m = 1 then 128 else 128) ∧ vh = .int .i64 (if m = 1 then 191 else 191) ∧ Hid (∀ j, 1 ≤ j → j < m → (if j = 1 then 128 ≤ nth (rest s k) 1 ∧ nth (rest s k) 1 ≤ 191 else okc (nth (rest s k) j) = true))) (fun _ _ vk => 2 - (intOf vk).toNat)
    case atStart => exact ⟨1, by omega, by omega, rfl, rfl, rfl, Lib.hid (fun j h1 h2 => by omega)⟩
    case round =>
      obtain ⟨m, hm1, hm2, rfl, rfl, rfl, hgood⟩ := hrel
      rcases (show m = 1 ∨ m = 2 by omega) with rfl | rfl
      · have hkm : k + 1 < s.size := by omega
        have hny := nth_at s k 1 hkm
        obtain ⟨y, hy⟩ : ∃ y, y = s[k + 1].toNat := ⟨_, rfl⟩
        rw [← hy] at hny
        have hy2 : y < 256 := by rw [hy]; exact UInt8.toNat_lt _
        by_cases h1 : y < 128
        · have HR : Hid (R = 0) := Lib.hid (HN.out 1 (by omega) (by omega) (by rw [hny]; show ¬ (128 ≤ y ∧ y ≤ 191); omega))
          have d2 : decide ((y : Int) < 128) = true := by simp; omega
          clear hgood hny HY HN
          rw [hy] at d2
          go_wp2_with fail
          go_ret
          exact ⟨ret_i64 (by rw [HR.out]; rfl), rfl⟩
        by_cases h2 : 191 < y
        · have HR : Hid (R = 0) := Lib.hid (HN.out 1 (by omega) (by omega) (by rw [hny]; show ¬ (128 ≤ y ∧ y ≤ 191); omega))
          have d2 : decide ((y : Int) < 128) = false := by simp; omega
          have d3 : decide (191 < (y : Int)) = true := by simp; omega
          clear hgood hny HY HN
          rw [hy] at d2 d3
          go_wp2_with fail
          go_ret
          exact ⟨ret_i64 (by rw [HR.out]; rfl), rfl⟩
        · have d2 : decide ((y : Int) < 128) = false := by simp; omega
          have d3 : decide (191 < (y : Int)) = false := by simp; omega
          have HG : Hid (∀ j, 1 ≤ j → j < 1 + 1 → (if j = 1 then 128 ≤ nth (rest s k) 1 ∧ nth (rest s k) 1 ≤ 191 else okc (nth (rest s k) j) = true)) := Lib.hid (fun j j1 j2 => by
            rcases (show j < 1 ∨ j = 1 by omega) with h | h
            · exact hgood.out j j1 h
            · subst h
              rw [hny]
              show 128 ≤ y ∧ y ≤ 191
              omega)
          clear hgood hny
          rw [hy] at d2 d3
          go_wp2_with fail
          go_round
          case rel => exact ⟨1 + 1, by omega, by omega, by go_num, rfl, rfl, HG⟩
          case measure => simp [intOf]
      · have HR : Hid (R = 2) := Lib.hid (HY.out (fun j j1 j2 => hgood.out j j1 (by omega)))
        clear hgood HY HN
        go_wp2_with fail
        go_ret
        exact ⟨ret_i64 (by rw [HR.out]; rfl), rfl⟩
set_option maxRecDepth 100000 in
set_option maxHeartbeats 2000000 in
theorem step_c2 (s : ByteArray) (k : Nat) (hk : k < s.size) (hs : s.size ≤ 1000000) (x : Nat) (hx : s[k].toNat = x) (hc : x = 224) (R : Nat) (hy : (∀ j, 1 ≤ j → j ≤ 2 → (if j = 1 then 160 ≤ nth (rest s k) 1 ∧ nth (rest s k) 1 ≤ 191 else okc (nth (rest s k) j) = true)) → R = 3) (hn : ∀ j, 1 ≤ j → j ≤ 2 → ¬ (if j = 1 then 160 ≤ nth (rest s k) 1 ∧ nth (rest s k) 1 ≤ 191 else okc (nth (rest s k) j) = true) → R = 0) (w : World) :
    Calls Tryz.prog 35 #[.string s, .int .i64 k] w fun e w' => e = .returned (.int .i64 (R : Int)) ∧ w = w' := by
  have HY := Lib.hid hy
  have HN := Lib.hid hn
  clear hy hn
  have q224 : (((x : Nat) : Int) == 224) = true := by simp; omega
  have q237 : (((x : Nat) : Int) == 237) = false := by simp; omega
  have q240 : (((x : Nat) : Int) == 240) = false := by simp; omega
  have q244 : (((x : Nat) : Int) == 244) = false := by simp; omega
  have g194 : decide (194 ≤ (x : Int)) = true := by simp; omega
  have g224 : decide (224 ≤ (x : Int)) = true := by simp; omega
  have g240 : decide (240 ≤ (x : Int)) = false := by simp; omega
  have l223 : decide ((x : Int) ≤ 223) = false := by simp; omega
  have l239 : decide ((x : Int) ≤ 239) = true := by simp; omega
  have l244 : decide ((x : Int) ≤ 244) = true := by simp; omega
  have d1 : decide ((x : Int) < 128) = false := by simp; omega
  have p1 : (x : Int) ≤ 244 := by omega
  by_cases hend : s.size ≤ k + 2
  · have HR : Hid (R = 0) := Lib.hid (HN.out 2 (by omega) (by omega) (by rw [nth_end _ 2 (by rw [rest_len]; omega), if_neg (by omega)]; decide))
    clear HY HN
    go_enter Tryz.func35, Tryz.ntmps35
    go_wp2_with fail
    go_ret
    exact ⟨ret_i64 (by rw [HR.out]; rfl), rfl⟩
  · have hin : k + 2 < s.size := by omega
    go_enter Tryz.func35, Tryz.ntmps35
    go_wp2_with fail
    go_loop [5, 6, 9] (fun vl vh vk => ∃ m : Nat, 1 ≤ m ∧ m ≤ 3 ∧ vk = .int .i64 m ∧ vl = .int .i64 (if m = 1 then 160 else 128) ∧ vh = .int .i64 (if m = 1 then 191 else 191) ∧ Hid (∀ j, 1 ≤ j → j < m → (if j = 1 then 160 ≤ nth (rest s k) 1 ∧ nth (rest s k) 1 ≤ 191 else okc (nth (rest s k) j) = true))) (fun _ _ vk => 3 - (intOf vk).toNat)
    case atStart => exact ⟨1, by omega, by omega, rfl, rfl, rfl, Lib.hid (fun j h1 h2 => by omega)⟩
    case round =>
      obtain ⟨m, hm1, hm2, rfl, rfl, rfl, hgood⟩ := hrel
      rcases (show m = 1 ∨ m = 2 ∨ m = 3 by omega) with rfl | rfl | rfl
      · have hkm : k + 1 < s.size := by omega
        have hny := nth_at s k 1 hkm
        obtain ⟨y, hy⟩ : ∃ y, y = s[k + 1].toNat := ⟨_, rfl⟩
        rw [← hy] at hny
        have hy2 : y < 256 := by rw [hy]; exact UInt8.toNat_lt _
        by_cases h1 : y < 160
        · have HR : Hid (R = 0) := Lib.hid (HN.out 1 (by omega) (by omega) (by rw [hny]; show ¬ (160 ≤ y ∧ y ≤ 191); omega))
          have d2 : decide ((y : Int) < 160) = true := by simp; omega
          clear hgood hny HY HN
          rw [hy] at d2
          go_wp2_with fail
          go_ret
          exact ⟨ret_i64 (by rw [HR.out]; rfl), rfl⟩
        by_cases h2 : 191 < y
        · have HR : Hid (R = 0) := Lib.hid (HN.out 1 (by omega) (by omega) (by rw [hny]; show ¬ (160 ≤ y ∧ y ≤ 191); omega))
          have d2 : decide ((y : Int) < 160) = false := by simp; omega
          have d3 : decide (191 < (y : Int)) = true := by simp; omega
          clear hgood hny HY HN
          rw [hy] at d2 d3
          go_wp2_with fail
          go_ret
          exact ⟨ret_i64 (by rw [HR.out]; rfl), rfl⟩
        · have d2 : decide ((y : Int) < 160) = false := by simp; omega
          have d3 : decide (191 < (y : Int)) = false := by simp; omega
          have HG : Hid (∀ j, 1 ≤ j → j < 1 + 1 → (if j = 1 then 160 ≤ nth (rest s k) 1 ∧ nth (rest s k) 1 ≤ 191 else okc (nth (rest s k) j) = true)) := Lib.hid (fun j j1 j2 => by
            rcases (show j < 1 ∨ j = 1 by omega) with h | h
            · exact hgood.out j j1 h
            · subst h
              rw [hny]
              show 160 ≤ y ∧ y ≤ 191
              omega)
          clear hgood hny
          rw [hy] at d2 d3
          go_wp2_with fail
          go_round
          case rel => exact ⟨1 + 1, by omega, by omega, by go_num, rfl, rfl, HG⟩
          case measure => simp [intOf]
      · have hkm : k + 2 < s.size := by omega
        have hny := nth_at s k 2 hkm
        obtain ⟨y, hy⟩ : ∃ y, y = s[k + 2].toNat := ⟨_, rfl⟩
        rw [← hy] at hny
        have hy2 : y < 256 := by rw [hy]; exact UInt8.toNat_lt _
        by_cases h1 : y < 128
        · have HR : Hid (R = 0) := Lib.hid (HN.out 2 (by omega) (by omega) (by rw [hny]; show ¬ (okc y = true); unfold okc; rw [Bool.and_eq_true, decide_eq_true_eq, decide_eq_true_eq]; omega))
          have d2 : decide ((y : Int) < 128) = true := by simp; omega
          clear hgood hny HY HN
          rw [hy] at d2
          go_wp2_with fail
          go_ret
          exact ⟨ret_i64 (by rw [HR.out]; rfl), rfl⟩
        by_cases h2 : 191 < y
        · have HR : Hid (R = 0) := Lib.hid (HN.out 2 (by omega) (by omega) (by rw [hny]; show ¬ (okc y = true); unfold okc; rw [Bool.and_eq_true, decide_eq_true_eq, decide_eq_true_eq]; omega))
          have d2 : decide ((y : Int) < 128) = false := by simp; omega
          have d3 : decide (191 < (y : Int)) = true := by simp; omega
          clear hgood hny HY HN
          rw [hy] at d2 d3
          go_wp2_with fail
          go_ret
          exact ⟨ret_i64 (by rw [HR.out]; rfl), rfl⟩
        · have d2 : decide ((y : Int) < 128) = false := by simp; omega
          have d3 : decide (191 < (y : Int)) = false := by simp; omega
          have HG : Hid (∀ j, 1 ≤ j → j < 2 + 1 → (if j = 1 then 160 ≤ nth (rest s k) 1 ∧ nth (rest s k) 1 ≤ 191 else okc (nth (rest s k) j) = true)) := Lib.hid (fun j j1 j2 => by
            rcases (show j < 2 ∨ j = 2 by omega) with h | h
            · exact hgood.out j j1 h
            · subst h
              rw [hny]
              show okc y = true
              unfold okc; rw [Bool.and_eq_true, decide_eq_true_eq, decide_eq_true_eq]; omega)
          clear hgood hny
          rw [hy] at d2 d3
          go_wp2_with fail
          go_round
          case rel => exact ⟨2 + 1, by omega, by omega, by go_num, rfl, rfl, HG⟩
          case measure => simp [intOf]
      · have HR : Hid (R = 3) := Lib.hid (HY.out (fun j j1 j2 => hgood.out j j1 (by omega)))
        clear hgood HY HN
        go_wp2_with fail
        go_ret
        exact ⟨ret_i64 (by rw [HR.out]; rfl), rfl⟩
set_option maxRecDepth 100000 in
set_option maxHeartbeats 2000000 in
theorem step_c3 (s : ByteArray) (k : Nat) (hk : k < s.size) (hs : s.size ≤ 1000000) (x : Nat) (hx : s[k].toNat = x) (hc : x = 237) (R : Nat) (hy : (∀ j, 1 ≤ j → j ≤ 2 → (if j = 1 then 128 ≤ nth (rest s k) 1 ∧ nth (rest s k) 1 ≤ 159 else okc (nth (rest s k) j) = true)) → R = 3) (hn : ∀ j, 1 ≤ j → j ≤ 2 → ¬ (if j = 1 then 128 ≤ nth (rest s k) 1 ∧ nth (rest s k) 1 ≤ 159 else okc (nth (rest s k) j) = true) → R = 0) (w : World) :
    Calls Tryz.prog 35 #[.string s, .int .i64 k] w fun e w' => e = .returned (.int .i64 (R : Int)) ∧ w = w' := by
  have HY := Lib.hid hy
  have HN := Lib.hid hn
  clear hy hn
  have q224 : (((x : Nat) : Int) == 224) = false := by simp; omega
  have q237 : (((x : Nat) : Int) == 237) = true := by simp; omega
  have q240 : (((x : Nat) : Int) == 240) = false := by simp; omega
  have q244 : (((x : Nat) : Int) == 244) = false := by simp; omega
  have g194 : decide (194 ≤ (x : Int)) = true := by simp; omega
  have g224 : decide (224 ≤ (x : Int)) = true := by simp; omega
  have g240 : decide (240 ≤ (x : Int)) = false := by simp; omega
  have l223 : decide ((x : Int) ≤ 223) = false := by simp; omega
  have l239 : decide ((x : Int) ≤ 239) = true := by simp; omega
  have l244 : decide ((x : Int) ≤ 244) = true := by simp; omega
  have d1 : decide ((x : Int) < 128) = false := by simp; omega
  have p1 : (x : Int) ≤ 244 := by omega
  by_cases hend : s.size ≤ k + 2
  · have HR : Hid (R = 0) := Lib.hid (HN.out 2 (by omega) (by omega) (by rw [nth_end _ 2 (by rw [rest_len]; omega), if_neg (by omega)]; decide))
    clear HY HN
    go_enter Tryz.func35, Tryz.ntmps35
    go_wp2_with fail
    go_ret
    exact ⟨ret_i64 (by rw [HR.out]; rfl), rfl⟩
  · have hin : k + 2 < s.size := by omega
    go_enter Tryz.func35, Tryz.ntmps35
    go_wp2_with fail
    go_loop [5, 6, 9] (fun vl vh vk => ∃ m : Nat, 1 ≤ m ∧ m ≤ 3 ∧ vk = .int .i64 m ∧ vl = .int .i64 (if m = 1 then 128 else 128) ∧ vh = .int .i64 (if m = 1 then 159 else 191) ∧ Hid (∀ j, 1 ≤ j → j < m → (if j = 1 then 128 ≤ nth (rest s k) 1 ∧ nth (rest s k) 1 ≤ 159 else okc (nth (rest s k) j) = true))) (fun _ _ vk => 3 - (intOf vk).toNat)
    case atStart => exact ⟨1, by omega, by omega, rfl, rfl, rfl, Lib.hid (fun j h1 h2 => by omega)⟩
    case round =>
      obtain ⟨m, hm1, hm2, rfl, rfl, rfl, hgood⟩ := hrel
      rcases (show m = 1 ∨ m = 2 ∨ m = 3 by omega) with rfl | rfl | rfl
      · have hkm : k + 1 < s.size := by omega
        have hny := nth_at s k 1 hkm
        obtain ⟨y, hy⟩ : ∃ y, y = s[k + 1].toNat := ⟨_, rfl⟩
        rw [← hy] at hny
        have hy2 : y < 256 := by rw [hy]; exact UInt8.toNat_lt _
        by_cases h1 : y < 128
        · have HR : Hid (R = 0) := Lib.hid (HN.out 1 (by omega) (by omega) (by rw [hny]; show ¬ (128 ≤ y ∧ y ≤ 159); omega))
          have d2 : decide ((y : Int) < 128) = true := by simp; omega
          clear hgood hny HY HN
          rw [hy] at d2
          go_wp2_with fail
          go_ret
          exact ⟨ret_i64 (by rw [HR.out]; rfl), rfl⟩
        by_cases h2 : 159 < y
        · have HR : Hid (R = 0) := Lib.hid (HN.out 1 (by omega) (by omega) (by rw [hny]; show ¬ (128 ≤ y ∧ y ≤ 159); omega))
          have d2 : decide ((y : Int) < 128) = false := by simp; omega
          have d3 : decide (159 < (y : Int)) = true := by simp; omega
          clear hgood hny HY HN
          rw [hy] at d2 d3
          go_wp2_with fail
          go_ret
          exact ⟨ret_i64 (by rw [HR.out]; rfl), rfl⟩
        · have d2 : decide ((y : Int) < 128) = false := by simp; omega
          have d3 : decide (159 < (y : Int)) = false := by simp; omega
          have HG : Hid (∀ j, 1 ≤ j → j < 1 + 1 → (if j = 1 then 128 ≤ nth (rest s k) 1 ∧ nth (rest s k) 1 ≤ 159 else okc (nth (rest s k) j) = true)) := Lib.hid (fun j j1 j2 => by
            rcases (show j < 1 ∨ j = 1 by omega) with h | h
            · exact hgood.out j j1 h
            · subst h
              rw [hny]
              show 128 ≤ y ∧ y ≤ 159
              omega)
          clear hgood hny
          rw [hy] at d2 d3
          go_wp2_with fail
          go_round
          case rel => exact ⟨1 + 1, by omega, by omega, by go_num, rfl, rfl, HG⟩
          case measure => simp [intOf]
      · have hkm : k + 2 < s.size := by omega
        have hny := nth_at s k 2 hkm
        obtain ⟨y, hy⟩ : ∃ y, y = s[k + 2].toNat := ⟨_, rfl⟩
        rw [← hy] at hny
        have hy2 : y < 256 := by rw [hy]; exact UInt8.toNat_lt _
        by_cases h1 : y < 128
        · have HR : Hid (R = 0) := Lib.hid (HN.out 2 (by omega) (by omega) (by rw [hny]; show ¬ (okc y = true); unfold okc; rw [Bool.and_eq_true, decide_eq_true_eq, decide_eq_true_eq]; omega))
          have d2 : decide ((y : Int) < 128) = true := by simp; omega
          clear hgood hny HY HN
          rw [hy] at d2
          go_wp2_with fail
          go_ret
          exact ⟨ret_i64 (by rw [HR.out]; rfl), rfl⟩
        by_cases h2 : 191 < y
        · have HR : Hid (R = 0) := Lib.hid (HN.out 2 (by omega) (by omega) (by rw [hny]; show ¬ (okc y = true); unfold okc; rw [Bool.and_eq_true, decide_eq_true_eq, decide_eq_true_eq]; omega))
          have d2 : decide ((y : Int) < 128) = false := by simp; omega
          have d3 : decide (191 < (y : Int)) = true := by simp; omega
          clear hgood hny HY HN
          rw [hy] at d2 d3
          go_wp2_with fail
          go_ret
          exact ⟨ret_i64 (by rw [HR.out]; rfl), rfl⟩
        · have d2 : decide ((y : Int) < 128) = false := by simp; omega
          have d3 : decide (191 < (y : Int)) = false := by simp; omega
          have HG : Hid (∀ j, 1 ≤ j → j < 2 + 1 → (if j = 1 then 128 ≤ nth (rest s k) 1 ∧ nth (rest s k) 1 ≤ 159 else okc (nth (rest s k) j) = true)) := Lib.hid (fun j j1 j2 => by
            rcases (show j < 2 ∨ j = 2 by omega) with h | h
            · exact hgood.out j j1 h
            · subst h
              rw [hny]
              show okc y = true
              unfold okc; rw [Bool.and_eq_true, decide_eq_true_eq, decide_eq_true_eq]; omega)
          clear hgood hny
          rw [hy] at d2 d3
          go_wp2_with fail
          go_round
          case rel => exact ⟨2 + 1, by omega, by omega, by go_num, rfl, rfl, HG⟩
          case measure => simp [intOf]
      · have HR : Hid (R = 3) := Lib.hid (HY.out (fun j j1 j2 => hgood.out j j1 (by omega)))
        clear hgood HY HN
        go_wp2_with fail
        go_ret
        exact ⟨ret_i64 (by rw [HR.out]; rfl), rfl⟩
set_option maxRecDepth 100000 in
set_option maxHeartbeats 2000000 in
theorem step_c4 (s : ByteArray) (k : Nat) (hk : k < s.size) (hs : s.size ≤ 1000000) (x : Nat) (hx : s[k].toNat = x) (hc : 225 ≤ x ∧ x ≤ 236) (R : Nat) (hy : (∀ j, 1 ≤ j → j ≤ 2 → (if j = 1 then 128 ≤ nth (rest s k) 1 ∧ nth (rest s k) 1 ≤ 191 else okc (nth (rest s k) j) = true)) → R = 3) (hn : ∀ j, 1 ≤ j → j ≤ 2 → ¬ (if j = 1 then 128 ≤ nth (rest s k) 1 ∧ nth (rest s k) 1 ≤ 191 else okc (nth (rest s k) j) = true) → R = 0) (w : World) :
    Calls Tryz.prog 35 #[.string s, .int .i64 k] w fun e w' => e = .returned (.int .i64 (R : Int)) ∧ w = w' := by
  have HY := Lib.hid hy
  have HN := Lib.hid hn
  clear hy hn
  have q224 : (((x : Nat) : Int) == 224) = false := by simp; omega
  have q237 : (((x : Nat) : Int) == 237) = false := by simp; omega
  have q240 : (((x : Nat) : Int) == 240) = false := by simp; omega
  have q244 : (((x : Nat) : Int) == 244) = false := by simp; omega
  have g194 : decide (194 ≤ (x : Int)) = true := by simp; omega
  have g224 : decide (224 ≤ (x : Int)) = true := by simp; omega
  have g240 : decide (240 ≤ (x : Int)) = false := by simp; omega
  have l223 : decide ((x : Int) ≤ 223) = false := by simp; omega
  have l239 : decide ((x : Int) ≤ 239) = true := by simp; omega
  have l244 : decide ((x : Int) ≤ 244) = true := by simp; omega
  have d1 : decide ((x : Int) < 128) = false := by simp; omega
  have p1 : (x : Int) ≤ 244 := by omega
  by_cases hend : s.size ≤ k + 2
  · have HR : Hid (R = 0) := Lib.hid (HN.out 2 (by omega) (by omega) (by rw [nth_end _ 2 (by rw [rest_len]; omega), if_neg (by omega)]; decide))
    clear HY HN
    go_enter Tryz.func35, Tryz.ntmps35
    go_wp2_with fail
    go_ret
    exact ⟨ret_i64 (by rw [HR.out]; rfl), rfl⟩
  · have hin : k + 2 < s.size := by omega
    go_enter Tryz.func35, Tryz.ntmps35
    go_wp2_with fail
    go_loop [5, 6, 9] (fun vl vh vk => ∃ m : Nat, 1 ≤ m ∧ m ≤ 3 ∧ vk = .int .i64 m ∧ vl = .int .i64 (if m = 1 then 128 else 128) ∧ vh = .int .i64 (if m = 1 then 191 else 191) ∧ Hid (∀ j, 1 ≤ j → j < m → (if j = 1 then 128 ≤ nth (rest s k) 1 ∧ nth (rest s k) 1 ≤ 191 else okc (nth (rest s k) j) = true))) (fun _ _ vk => 3 - (intOf vk).toNat)
    case atStart => exact ⟨1, by omega, by omega, rfl, rfl, rfl, Lib.hid (fun j h1 h2 => by omega)⟩
    case round =>
      obtain ⟨m, hm1, hm2, rfl, rfl, rfl, hgood⟩ := hrel
      rcases (show m = 1 ∨ m = 2 ∨ m = 3 by omega) with rfl | rfl | rfl
      · have hkm : k + 1 < s.size := by omega
        have hny := nth_at s k 1 hkm
        obtain ⟨y, hy⟩ : ∃ y, y = s[k + 1].toNat := ⟨_, rfl⟩
        rw [← hy] at hny
        have hy2 : y < 256 := by rw [hy]; exact UInt8.toNat_lt _
        by_cases h1 : y < 128
        · have HR : Hid (R = 0) := Lib.hid (HN.out 1 (by omega) (by omega) (by rw [hny]; show ¬ (128 ≤ y ∧ y ≤ 191); omega))
          have d2 : decide ((y : Int) < 128) = true := by simp; omega
          clear hgood hny HY HN
          rw [hy] at d2
          go_wp2_with fail
          go_ret
          exact ⟨ret_i64 (by rw [HR.out]; rfl), rfl⟩
        by_cases h2 : 191 < y
        · have HR : Hid (R = 0) := Lib.hid (HN.out 1 (by omega) (by omega) (by rw [hny]; show ¬ (128 ≤ y ∧ y ≤ 191); omega))
          have d2 : decide ((y : Int) < 128) = false := by simp; omega
          have d3 : decide (191 < (y : Int)) = true := by simp; omega
          clear hgood hny HY HN
          rw [hy] at d2 d3
          go_wp2_with fail
          go_ret
          exact ⟨ret_i64 (by rw [HR.out]; rfl), rfl⟩
        · have d2 : decide ((y : Int) < 128) = false := by simp; omega
          have d3 : decide (191 < (y : Int)) = false := by simp; omega
          have HG : Hid (∀ j, 1 ≤ j → j < 1 + 1 → (if j = 1 then 128 ≤ nth (rest s k) 1 ∧ nth (rest s k) 1 ≤ 191 else okc (nth (rest s k) j) = true)) := Lib.hid (fun j j1 j2 => by
            rcases (show j < 1 ∨ j = 1 by omega) with h | h
            · exact hgood.out j j1 h
            · subst h
              rw [hny]
              show 128 ≤ y ∧ y ≤ 191
              omega)
          clear hgood hny
          rw [hy] at d2 d3
          go_wp2_with fail
          go_round
          case rel => exact ⟨1 + 1, by omega, by omega, by go_num, rfl, rfl, HG⟩
          case measure => simp [intOf]
      · have hkm : k + 2 < s.size := by omega
        have hny := nth_at s k 2 hkm
        obtain ⟨y, hy⟩ : ∃ y, y = s[k + 2].toNat := ⟨_, rfl⟩
        rw [← hy] at hny
        have hy2 : y < 256 := by rw [hy]; exact UInt8.toNat_lt _
        by_cases h1 : y < 128
        · have HR : Hid (R = 0) := Lib.hid (HN.out 2 (by omega) (by omega) (by rw [hny]; show ¬ (okc y = true); unfold okc; rw [Bool.and_eq_true, decide_eq_true_eq, decide_eq_true_eq]; omega))
          have d2 : decide ((y : Int) < 128) = true := by simp; omega
          clear hgood hny HY HN
          rw [hy] at d2
          go_wp2_with fail
          go_ret
          exact ⟨ret_i64 (by rw [HR.out]; rfl), rfl⟩
        by_cases h2 : 191 < y
        · have HR : Hid (R = 0) := Lib.hid (HN.out 2 (by omega) (by omega) (by rw [hny]; show ¬ (okc y = true); unfold okc; rw [Bool.and_eq_true, decide_eq_true_eq, decide_eq_true_eq]; omega))
          have d2 : decide ((y : Int) < 128) = false := by simp; omega
          have d3 : decide (191 < (y : Int)) = true := by simp; omega
          clear hgood hny HY HN
          rw [hy] at d2 d3
          go_wp2_with fail
          go_ret
          exact ⟨ret_i64 (by rw [HR.out]; rfl), rfl⟩
        · have d2 : decide ((y : Int) < 128) = false := by simp; omega
          have d3 : decide (191 < (y : Int)) = false := by simp; omega
          have HG : Hid (∀ j, 1 ≤ j → j < 2 + 1 → (if j = 1 then 128 ≤ nth (rest s k) 1 ∧ nth (rest s k) 1 ≤ 191 else okc (nth (rest s k) j) = true)) := Lib.hid (fun j j1 j2 => by
            rcases (show j < 2 ∨ j = 2 by omega) with h | h
            · exact hgood.out j j1 h
            · subst h
              rw [hny]
              show okc y = true
              unfold okc; rw [Bool.and_eq_true, decide_eq_true_eq, decide_eq_true_eq]; omega)
          clear hgood hny
          rw [hy] at d2 d3
          go_wp2_with fail
          go_round
          case rel => exact ⟨2 + 1, by omega, by omega, by go_num, rfl, rfl, HG⟩
          case measure => simp [intOf]
      · have HR : Hid (R = 3) := Lib.hid (HY.out (fun j j1 j2 => hgood.out j j1 (by omega)))
        clear hgood HY HN
        go_wp2_with fail
        go_ret
        exact ⟨ret_i64 (by rw [HR.out]; rfl), rfl⟩
set_option maxRecDepth 100000 in
set_option maxHeartbeats 2000000 in
theorem step_c5 (s : ByteArray) (k : Nat) (hk : k < s.size) (hs : s.size ≤ 1000000) (x : Nat) (hx : s[k].toNat = x) (hc : 238 ≤ x ∧ x ≤ 239) (R : Nat) (hy : (∀ j, 1 ≤ j → j ≤ 2 → (if j = 1 then 128 ≤ nth (rest s k) 1 ∧ nth (rest s k) 1 ≤ 191 else okc (nth (rest s k) j) = true)) → R = 3) (hn : ∀ j, 1 ≤ j → j ≤ 2 → ¬ (if j = 1 then 128 ≤ nth (rest s k) 1 ∧ nth (rest s k) 1 ≤ 191 else okc (nth (rest s k) j) = true) → R = 0) (w : World) :
    Calls Tryz.prog 35 #[.string s, .int .i64 k] w fun e w' => e = .returned (.int .i64 (R : Int)) ∧ w = w' := by
  have HY := Lib.hid hy
  have HN := Lib.hid hn
  clear hy hn
  have q224 : (((x : Nat) : Int) == 224) = false := by simp; omega
  have q237 : (((x : Nat) : Int) == 237) = false := by simp; omega
  have q240 : (((x : Nat) : Int) == 240) = false := by simp; omega
  have q244 : (((x : Nat) : Int) == 244) = false := by simp; omega
  have g194 : decide (194 ≤ (x : Int)) = true := by simp; omega
  have g224 : decide (224 ≤ (x : Int)) = true := by simp; omega
  have g240 : decide (240 ≤ (x : Int)) = false := by simp; omega
  have l223 : decide ((x : Int) ≤ 223) = false := by simp; omega
  have l239 : decide ((x : Int) ≤ 239) = true := by simp; omega
  have l244 : decide ((x : Int) ≤ 244) = true := by simp; omega
  have d1 : decide ((x : Int) < 128) = false := by simp; omega
  have p1 : (x : Int) ≤ 244 := by omega
  by_cases hend : s.size ≤ k + 2
  · have HR : Hid (R = 0) := Lib.hid (HN.out 2 (by omega) (by omega) (by rw [nth_end _ 2 (by rw [rest_len]; omega), if_neg (by omega)]; decide))
    clear HY HN
    go_enter Tryz.func35, Tryz.ntmps35
    go_wp2_with fail
    go_ret
    exact ⟨ret_i64 (by rw [HR.out]; rfl), rfl⟩
  · have hin : k + 2 < s.size := by omega
    go_enter Tryz.func35, Tryz.ntmps35
    go_wp2_with fail
    go_loop [5, 6, 9] (fun vl vh vk => ∃ m : Nat, 1 ≤ m ∧ m ≤ 3 ∧ vk = .int .i64 m ∧ vl = .int .i64 (if m = 1 then 128 else 128) ∧ vh = .int .i64 (if m = 1 then 191 else 191) ∧ Hid (∀ j, 1 ≤ j → j < m → (if j = 1 then 128 ≤ nth (rest s k) 1 ∧ nth (rest s k) 1 ≤ 191 else okc (nth (rest s k) j) = true))) (fun _ _ vk => 3 - (intOf vk).toNat)
    case atStart => exact ⟨1, by omega, by omega, rfl, rfl, rfl, Lib.hid (fun j h1 h2 => by omega)⟩
    case round =>
      obtain ⟨m, hm1, hm2, rfl, rfl, rfl, hgood⟩ := hrel
      rcases (show m = 1 ∨ m = 2 ∨ m = 3 by omega) with rfl | rfl | rfl
      · have hkm : k + 1 < s.size := by omega
        have hny := nth_at s k 1 hkm
        obtain ⟨y, hy⟩ : ∃ y, y = s[k + 1].toNat := ⟨_, rfl⟩
        rw [← hy] at hny
        have hy2 : y < 256 := by rw [hy]; exact UInt8.toNat_lt _
        by_cases h1 : y < 128
        · have HR : Hid (R = 0) := Lib.hid (HN.out 1 (by omega) (by omega) (by rw [hny]; show ¬ (128 ≤ y ∧ y ≤ 191); omega))
          have d2 : decide ((y : Int) < 128) = true := by simp; omega
          clear hgood hny HY HN
          rw [hy] at d2
          go_wp2_with fail
          go_ret
          exact ⟨ret_i64 (by rw [HR.out]; rfl), rfl⟩
        by_cases h2 : 191 < y
        · have HR : Hid (R = 0) := Lib.hid (HN.out 1 (by omega) (by omega) (by rw [hny]; show ¬ (128 ≤ y ∧ y ≤ 191); omega))
          have d2 : decide ((y : Int) < 128) = false := by simp; omega
          have d3 : decide (191 < (y : Int)) = true := by simp; omega
          clear hgood hny HY HN
          rw [hy] at d2 d3
          go_wp2_with fail
          go_ret
          exact ⟨ret_i64 (by rw [HR.out]; rfl), rfl⟩
        · have d2 : decide ((y : Int) < 128) = false := by simp; omega
          have d3 : decide (191 < (y : Int)) = false := by simp; omega
          have HG : Hid (∀ j, 1 ≤ j → j < 1 + 1 → (if j = 1 then 128 ≤ nth (rest s k) 1 ∧ nth (rest s k) 1 ≤ 191 else okc (nth (rest s k) j) = true)) := Lib.hid (fun j j1 j2 => by
            rcases (show j < 1 ∨ j = 1 by omega) with h | h
            · exact hgood.out j j1 h
            · subst h
              rw [hny]
              show 128 ≤ y ∧ y ≤ 191
              omega)
          clear hgood hny
          rw [hy] at d2 d3
          go_wp2_with fail
          go_round
          case rel => exact ⟨1 + 1, by omega, by omega, by go_num, rfl, rfl, HG⟩
          case measure => simp [intOf]
      · have hkm : k + 2 < s.size := by omega
        have hny := nth_at s k 2 hkm
        obtain ⟨y, hy⟩ : ∃ y, y = s[k + 2].toNat := ⟨_, rfl⟩
        rw [← hy] at hny
        have hy2 : y < 256 := by rw [hy]; exact UInt8.toNat_lt _
        by_cases h1 : y < 128
        · have HR : Hid (R = 0) := Lib.hid (HN.out 2 (by omega) (by omega) (by rw [hny]; show ¬ (okc y = true); unfold okc; rw [Bool.and_eq_true, decide_eq_true_eq, decide_eq_true_eq]; omega))
          have d2 : decide ((y : Int) < 128) = true := by simp; omega
          clear hgood hny HY HN
          rw [hy] at d2
          go_wp2_with fail
          go_ret
          exact ⟨ret_i64 (by rw [HR.out]; rfl), rfl⟩
        by_cases h2 : 191 < y
        · have HR : Hid (R = 0) := Lib.hid (HN.out 2 (by omega) (by omega) (by rw [hny]; show ¬ (okc y = true); unfold okc; rw [Bool.and_eq_true, decide_eq_true_eq, decide_eq_true_eq]; omega))
          have d2 : decide ((y : Int) < 128) = false := by simp; omega
          have d3 : decide (191 < (y : Int)) = true := by simp; omega
          clear hgood hny HY HN
          rw [hy] at d2 d3
          go_wp2_with fail
          go_ret
          exact ⟨ret_i64 (by rw [HR.out]; rfl), rfl⟩
        · have d2 : decide ((y : Int) < 128) = false := by simp; omega
          have d3 : decide (191 < (y : Int)) = false := by simp; omega
          have HG : Hid (∀ j, 1 ≤ j → j < 2 + 1 → (if j = 1 then 128 ≤ nth (rest s k) 1 ∧ nth (rest s k) 1 ≤ 191 else okc (nth (rest s k) j) = true)) := Lib.hid (fun j j1 j2 => by
            rcases (show j < 2 ∨ j = 2 by omega) with h | h
            · exact hgood.out j j1 h
            · subst h
              rw [hny]
              show okc y = true
              unfold okc; rw [Bool.and_eq_true, decide_eq_true_eq, decide_eq_true_eq]; omega)
          clear hgood hny
          rw [hy] at d2 d3
          go_wp2_with fail
          go_round
          case rel => exact ⟨2 + 1, by omega, by omega, by go_num, rfl, rfl, HG⟩
          case measure => simp [intOf]
      · have HR : Hid (R = 3) := Lib.hid (HY.out (fun j j1 j2 => hgood.out j j1 (by omega)))
        clear hgood HY HN
        go_wp2_with fail
        go_ret
        exact ⟨ret_i64 (by rw [HR.out]; rfl), rfl⟩
set_option maxRecDepth 100000 in
set_option maxHeartbeats 2000000 in
theorem step_c6 (s : ByteArray) (k : Nat) (hk : k < s.size) (hs : s.size ≤ 1000000) (x : Nat) (hx : s[k].toNat = x) (hc : x = 240) (R : Nat) (hy : (∀ j, 1 ≤ j → j ≤ 3 → (if j = 1 then 144 ≤ nth (rest s k) 1 ∧ nth (rest s k) 1 ≤ 191 else okc (nth (rest s k) j) = true)) → R = 4) (hn : ∀ j, 1 ≤ j → j ≤ 3 → ¬ (if j = 1 then 144 ≤ nth (rest s k) 1 ∧ nth (rest s k) 1 ≤ 191 else okc (nth (rest s k) j) = true) → R = 0) (w : World) :
    Calls Tryz.prog 35 #[.string s, .int .i64 k] w fun e w' => e = .returned (.int .i64 (R : Int)) ∧ w = w' := by
  have HY := Lib.hid hy
  have HN := Lib.hid hn
  clear hy hn
  have q224 : (((x : Nat) : Int) == 224) = false := by simp; omega
  have q237 : (((x : Nat) : Int) == 237) = false := by simp; omega
  have q240 : (((x : Nat) : Int) == 240) = true := by simp; omega
  have q244 : (((x : Nat) : Int) == 244) = false := by simp; omega
  have g194 : decide (194 ≤ (x : Int)) = true := by simp; omega
  have g224 : decide (224 ≤ (x : Int)) = true := by simp; omega
  have g240 : decide (240 ≤ (x : Int)) = true := by simp; omega
  have l223 : decide ((x : Int) ≤ 223) = false := by simp; omega
  have l239 : decide ((x : Int) ≤ 239) = false := by simp; omega
  have l244 : decide ((x : Int) ≤ 244) = true := by simp; omega
  have d1 : decide ((x : Int) < 128) = false := by simp; omega
  have p1 : (x : Int) ≤ 244 := by omega
  by_cases hend : s.size ≤ k + 3
  · have HR : Hid (R = 0) := Lib.hid (HN.out 3 (by omega) (by omega) (by rw [nth_end _ 3 (by rw [rest_len]; omega), if_neg (by omega)]; decide))
    clear HY HN
    go_enter Tryz.func35, Tryz.ntmps35
    go_wp2_with fail
    go_ret
    exact ⟨ret_i64 (by rw [HR.out]; rfl), rfl⟩
  · have hin : k + 3 < s.size := by omega
    go_enter Tryz.func35, Tryz.ntmps35
    go_wp2_with fail
    go_loop [5, 6, 9] (fun vl vh vk => ∃ m : Nat, 1 ≤ m ∧ m ≤ 4 ∧ vk = .int .i64 m ∧ vl = .int .i64 (if m = 1 then 144 else 128) ∧ vh = .int .i64 (if m = 1 then 191 else 191) ∧ Hid (∀ j, 1 ≤ j → j < m → (if j = 1 then 144 ≤ nth (rest s k) 1 ∧ nth (rest s k) 1 ≤ 191 else okc (nth (rest s k) j) = true))) (fun _ _ vk => 4 - (intOf vk).toNat)
    case atStart => exact ⟨1, by omega, by omega, rfl, rfl, rfl, Lib.hid (fun j h1 h2 => by omega)⟩
    case round =>
      obtain ⟨m, hm1, hm2, rfl, rfl, rfl, hgood⟩ := hrel
      rcases (show m = 1 ∨ m = 2 ∨ m = 3 ∨ m = 4 by omega) with rfl | rfl | rfl | rfl
      · have hkm : k + 1 < s.size := by omega
        have hny := nth_at s k 1 hkm
        obtain ⟨y, hy⟩ : ∃ y, y = s[k + 1].toNat := ⟨_, rfl⟩
        rw [← hy] at hny
        have hy2 : y < 256 := by rw [hy]; exact UInt8.toNat_lt _
        by_cases h1 : y < 144
        · have HR : Hid (R = 0) := Lib.hid (HN.out 1 (by omega) (by omega) (by rw [hny]; show ¬ (144 ≤ y ∧ y ≤ 191); omega))
          have d2 : decide ((y : Int) < 144) = true := by simp; omega
          clear hgood hny HY HN
          rw [hy] at d2
          go_wp2_with fail
          go_ret
          exact ⟨ret_i64 (by rw [HR.out]; rfl), rfl⟩
        by_cases h2 : 191 < y
        · have HR : Hid (R = 0) := Lib.hid (HN.out 1 (by omega) (by omega) (by rw [hny]; show ¬ (144 ≤ y ∧ y ≤ 191); omega))
          have d2 : decide ((y : Int) < 144) = false := by simp; omega
          have d3 : decide (191 < (y : Int)) = true := by simp; omega
          clear hgood hny HY HN
          rw [hy] at d2 d3
          go_wp2_with fail
          go_ret
          exact ⟨ret_i64 (by rw [HR.out]; rfl), rfl⟩
        · have d2 : decide ((y : Int) < 144) = false := by simp; omega
          have d3 : decide (191 < (y : Int)) = false := by simp; omega
          have HG : Hid (∀ j, 1 ≤ j → j < 1 + 1 → (if j = 1 then 144 ≤ nth (rest s k) 1 ∧ nth (rest s k) 1 ≤ 191 else okc (nth (rest s k) j) = true)) := Lib.hid (fun j j1 j2 => by
            rcases (show j < 1 ∨ j = 1 by omega) with h | h
            · exact hgood.out j j1 h
            · subst h
              rw [hny]
              show 144 ≤ y ∧ y ≤ 191
              omega)
          clear hgood hny
          rw [hy] at d2 d3
          go_wp2_with fail
          go_round
          case rel => exact ⟨1 + 1, by omega, by omega, by go_num, rfl, rfl, HG⟩
          case measure => simp [intOf]
      · have hkm : k + 2 < s.size := by omega
        have hny := nth_at s k 2 hkm
        obtain ⟨y, hy⟩ : ∃ y, y = s[k + 2].toNat := ⟨_, rfl⟩
        rw [← hy] at hny
        have hy2 : y < 256 := by rw [hy]; exact UInt8.toNat_lt _
        by_cases h1 : y < 128
        · have HR : Hid (R = 0) := Lib.hid (HN.out 2 (by omega) (by omega) (by rw [hny]; show ¬ (okc y = true); unfold okc; rw [Bool.and_eq_true, decide_eq_true_eq, decide_eq_true_eq]; omega))
          have d2 : decide ((y : Int) < 128) = true := by simp; omega
          clear hgood hny HY HN
          rw [hy] at d2
          go_wp2_with fail
          go_ret
          exact ⟨ret_i64 (by rw [HR.out]; rfl), rfl⟩
        by_cases h2 : 191 < y
        · have HR : Hid (R = 0) := Lib.hid (HN.out 2 (by omega) (by omega) (by rw [hny]; show ¬ (okc y = true); unfold okc; rw [Bool.and_eq_true, decide_eq_true_eq, decide_eq_true_eq]; omega))
          have d2 : decide ((y : Int) < 128) = false := by simp; omega
          have d3 : decide (191 < (y : Int)) = true := by simp; omega
          clear hgood hny HY HN
          rw [hy] at d2 d3
          go_wp2_with fail
          go_ret
          exact ⟨ret_i64 (by rw [HR.out]; rfl), rfl⟩
        · have d2 : decide ((y : Int) < 128) = false := by simp; omega
          have d3 : decide (191 < (y : Int)) = false := by simp; omega
          have HG : Hid (∀ j, 1 ≤ j → j < 2 + 1 → (if j = 1 then 144 ≤ nth (rest s k) 1 ∧ nth (rest s k) 1 ≤ 191 else okc (nth (rest s k) j) = true)) := Lib.hid (fun j j1 j2 => by
            rcases (show j < 2 ∨ j = 2 by omega) with h | h
            · exact hgood.out j j1 h
            · subst h
              rw [hny]
              show okc y = true
              unfold okc; rw [Bool.and_eq_true, decide_eq_true_eq, decide_eq_true_eq]; omega)
          clear hgood hny
          rw [hy] at d2 d3
          go_wp2_with fail
          go_round
          case rel => exact ⟨2 + 1, by omega, by omega, by go_num, rfl, rfl, HG⟩
          case measure => simp [intOf]
      · have hkm : k + 3 < s.size := by omega
        have hny := nth_at s k 3 hkm
        obtain ⟨y, hy⟩ : ∃ y, y = s[k + 3].toNat := ⟨_, rfl⟩
        rw [← hy] at hny
        have hy2 : y < 256 := by rw [hy]; exact UInt8.toNat_lt _
        by_cases h1 : y < 128
        · have HR : Hid (R = 0) := Lib.hid (HN.out 3 (by omega) (by omega) (by rw [hny]; show ¬ (okc y = true); unfold okc; rw [Bool.and_eq_true, decide_eq_true_eq, decide_eq_true_eq]; omega))
          have d2 : decide ((y : Int) < 128) = true := by simp; omega
          clear hgood hny HY HN
          rw [hy] at d2
          go_wp2_with fail
          go_ret
          exact ⟨ret_i64 (by rw [HR.out]; rfl), rfl⟩
        by_cases h2 : 191 < y
        · have HR : Hid (R = 0) := Lib.hid (HN.out 3 (by omega) (by omega) (by rw [hny]; show ¬ (okc y = true); unfold okc; rw [Bool.and_eq_true, decide_eq_true_eq, decide_eq_true_eq]; omega))
          have d2 : decide ((y : Int) < 128) = false := by simp; omega
          have d3 : decide (191 < (y : Int)) = true := by simp; omega
          clear hgood hny HY HN
          rw [hy] at d2 d3
          go_wp2_with fail
          go_ret
          exact ⟨ret_i64 (by rw [HR.out]; rfl), rfl⟩
        · have d2 : decide ((y : Int) < 128) = false := by simp; omega
          have d3 : decide (191 < (y : Int)) = false := by simp; omega
          have HG : Hid (∀ j, 1 ≤ j → j < 3 + 1 → (if j = 1 then 144 ≤ nth (rest s k) 1 ∧ nth (rest s k) 1 ≤ 191 else okc (nth (rest s k) j) = true)) := Lib.hid (fun j j1 j2 => by
            rcases (show j < 3 ∨ j = 3 by omega) with h | h
            · exact hgood.out j j1 h
            · subst h
              rw [hny]
              show okc y = true
              unfold okc; rw [Bool.and_eq_true, decide_eq_true_eq, decide_eq_true_eq]; omega)
          clear hgood hny
          rw [hy] at d2 d3
          go_wp2_with fail
          go_round
          case rel => exact ⟨3 + 1, by omega, by omega, by go_num, rfl, rfl, HG⟩
          case measure => simp [intOf]
      · have HR : Hid (R = 4) := Lib.hid (HY.out (fun j j1 j2 => hgood.out j j1 (by omega)))
        clear hgood HY HN
        go_wp2_with fail
        go_ret
        exact ⟨ret_i64 (by rw [HR.out]; rfl), rfl⟩
set_option maxRecDepth 100000 in
set_option maxHeartbeats 2000000 in
theorem step_c7 (s : ByteArray) (k : Nat) (hk : k < s.size) (hs : s.size ≤ 1000000) (x : Nat) (hx : s[k].toNat = x) (hc : x = 244) (R : Nat) (hy : (∀ j, 1 ≤ j → j ≤ 3 → (if j = 1 then 128 ≤ nth (rest s k) 1 ∧ nth (rest s k) 1 ≤ 143 else okc (nth (rest s k) j) = true)) → R = 4) (hn : ∀ j, 1 ≤ j → j ≤ 3 → ¬ (if j = 1 then 128 ≤ nth (rest s k) 1 ∧ nth (rest s k) 1 ≤ 143 else okc (nth (rest s k) j) = true) → R = 0) (w : World) :
    Calls Tryz.prog 35 #[.string s, .int .i64 k] w fun e w' => e = .returned (.int .i64 (R : Int)) ∧ w = w' := by
  have HY := Lib.hid hy
  have HN := Lib.hid hn
  clear hy hn
  have q224 : (((x : Nat) : Int) == 224) = false := by simp; omega
  have q237 : (((x : Nat) : Int) == 237) = false := by simp; omega
  have q240 : (((x : Nat) : Int) == 240) = false := by simp; omega
  have q244 : (((x : Nat) : Int) == 244) = true := by simp; omega
  have g194 : decide (194 ≤ (x : Int)) = true := by simp; omega
  have g224 : decide (224 ≤ (x : Int)) = true := by simp; omega
  have g240 : decide (240 ≤ (x : Int)) = true := by simp; omega
  have l223 : decide ((x : Int) ≤ 223) = false := by simp; omega
  have l239 : decide ((x : Int) ≤ 239) = false := by simp; omega
  have l244 : decide ((x : Int) ≤ 244) = true := by simp; omega
  have d1 : decide ((x : Int) < 128) = false := by simp; omega
  have p1 : (x : Int) ≤ 244 := by omega
  by_cases hend : s.size ≤ k + 3
  · have HR : Hid (R = 0) := Lib.hid (HN.out 3 (by omega) (by omega) (by rw [nth_end _ 3 (by rw [rest_len]; omega), if_neg (by omega)]; decide))
    clear HY HN
    go_enter Tryz.func35, Tryz.ntmps35
    go_wp2_with fail
    go_ret
    exact ⟨ret_i64 (by rw [HR.out]; rfl), rfl⟩
  · have hin : k + 3 < s.size := by omega
    go_enter Tryz.func35, Tryz.ntmps35
    go_wp2_with fail
    go_loop [5, 6, 9] (fun vl vh vk => ∃ m : Nat, 1 ≤ m ∧ m ≤ 4 ∧ vk = .int .i64 m ∧ vl = .int .i64 (if m = 1 then 128 else 128) ∧ vh = .int .i64 (if m = 1 then 143 else 191) ∧ Hid (∀ j, 1 ≤ j → j < m → (if j = 1 then 128 ≤ nth (rest s k) 1 ∧ nth (rest s k) 1 ≤ 143 else okc (nth (rest s k) j) = true))) (fun _ _ vk => 4 - (intOf vk).toNat)
    case atStart => exact ⟨1, by omega, by omega, rfl, rfl, rfl, Lib.hid (fun j h1 h2 => by omega)⟩
    case round =>
      obtain ⟨m, hm1, hm2, rfl, rfl, rfl, hgood⟩ := hrel
      rcases (show m = 1 ∨ m = 2 ∨ m = 3 ∨ m = 4 by omega) with rfl | rfl | rfl | rfl
      · have hkm : k + 1 < s.size := by omega
        have hny := nth_at s k 1 hkm
        obtain ⟨y, hy⟩ : ∃ y, y = s[k + 1].toNat := ⟨_, rfl⟩
        rw [← hy] at hny
        have hy2 : y < 256 := by rw [hy]; exact UInt8.toNat_lt _
        by_cases h1 : y < 128
        · have HR : Hid (R = 0) := Lib.hid (HN.out 1 (by omega) (by omega) (by rw [hny]; show ¬ (128 ≤ y ∧ y ≤ 143); omega))
          have d2 : decide ((y : Int) < 128) = true := by simp; omega
          clear hgood hny HY HN
          rw [hy] at d2
          go_wp2_with fail
          go_ret
          exact ⟨ret_i64 (by rw [HR.out]; rfl), rfl⟩
        by_cases h2 : 143 < y
        · have HR : Hid (R = 0) := Lib.hid (HN.out 1 (by omega) (by omega) (by rw [hny]; show ¬ (128 ≤ y ∧ y ≤ 143); omega))
          have d2 : decide ((y : Int) < 128) = false := by simp; omega
          have d3 : decide (143 < (y : Int)) = true := by simp; omega
          clear hgood hny HY HN
          rw [hy] at d2 d3
          go_wp2_with fail
          go_ret
          exact ⟨ret_i64 (by rw [HR.out]; rfl), rfl⟩
        · have d2 : decide ((y : Int) < 128) = false := by simp; omega
          have d3 : decide (143 < (y : Int)) = false := by simp; omega
          have HG : Hid (∀ j, 1 ≤ j → j < 1 + 1 → (if j = 1 then 128 ≤ nth (rest s k) 1 ∧ nth (rest s k) 1 ≤ 143 else okc (nth (rest s k) j) = true)) := Lib.hid (fun j j1 j2 => by
            rcases (show j < 1 ∨ j = 1 by omega) with h | h
            · exact hgood.out j j1 h
            · subst h
              rw [hny]
              show 128 ≤ y ∧ y ≤ 143
              omega)
          clear hgood hny
          rw [hy] at d2 d3
          go_wp2_with fail
          go_round
          case rel => exact ⟨1 + 1, by omega, by omega, by go_num, rfl, rfl, HG⟩
          case measure => simp [intOf]
      · have hkm : k + 2 < s.size := by omega
        have hny := nth_at s k 2 hkm
        obtain ⟨y, hy⟩ : ∃ y, y = s[k + 2].toNat := ⟨_, rfl⟩
        rw [← hy] at hny
        have hy2 : y < 256 := by rw [hy]; exact UInt8.toNat_lt _
        by_cases h1 : y < 128
        · have HR : Hid (R = 0) := Lib.hid (HN.out 2 (by omega) (by omega) (by rw [hny]; show ¬ (okc y = true); unfold okc; rw [Bool.and_eq_true, decide_eq_true_eq, decide_eq_true_eq]; omega))
          have d2 : decide ((y : Int) < 128) = true := by simp; omega
          clear hgood hny HY HN
          rw [hy] at d2
          go_wp2_with fail
          go_ret
          exact ⟨ret_i64 (by rw [HR.out]; rfl), rfl⟩
        by_cases h2 : 191 < y
        · have HR : Hid (R = 0) := Lib.hid (HN.out 2 (by omega) (by omega) (by rw [hny]; show ¬ (okc y = true); unfold okc; rw [Bool.and_eq_true, decide_eq_true_eq, decide_eq_true_eq]; omega))
          have d2 : decide ((y : Int) < 128) = false := by simp; omega
          have d3 : decide (191 < (y : Int)) = true := by simp; omega
          clear hgood hny HY HN
          rw [hy] at d2 d3
          go_wp2_with fail
          go_ret
          exact ⟨ret_i64 (by rw [HR.out]; rfl), rfl⟩
        · have d2 : decide ((y : Int) < 128) = false := by simp; omega
          have d3 : decide (191 < (y : Int)) = false := by simp; omega
          have HG : Hid (∀ j, 1 ≤ j → j < 2 + 1 → (if j = 1 then 128 ≤ nth (rest s k) 1 ∧ nth (rest s k) 1 ≤ 143 else okc (nth (rest s k) j) = true)) := Lib.hid (fun j j1 j2 => by
            rcases (show j < 2 ∨ j = 2 by omega) with h | h
            · exact hgood.out j j1 h
            · subst h
              rw [hny]
              show okc y = true
              unfold okc; rw [Bool.and_eq_true, decide_eq_true_eq, decide_eq_true_eq]; omega)
          clear hgood hny
          rw [hy] at d2 d3
          go_wp2_with fail
          go_round
          case rel => exact ⟨2 + 1, by omega, by omega, by go_num, rfl, rfl, HG⟩
          case measure => simp [intOf]
      · have hkm : k + 3 < s.size := by omega
        have hny := nth_at s k 3 hkm
        obtain ⟨y, hy⟩ : ∃ y, y = s[k + 3].toNat := ⟨_, rfl⟩
        rw [← hy] at hny
        have hy2 : y < 256 := by rw [hy]; exact UInt8.toNat_lt _
        by_cases h1 : y < 128
        · have HR : Hid (R = 0) := Lib.hid (HN.out 3 (by omega) (by omega) (by rw [hny]; show ¬ (okc y = true); unfold okc; rw [Bool.and_eq_true, decide_eq_true_eq, decide_eq_true_eq]; omega))
          have d2 : decide ((y : Int) < 128) = true := by simp; omega
          clear hgood hny HY HN
          rw [hy] at d2
          go_wp2_with fail
          go_ret
          exact ⟨ret_i64 (by rw [HR.out]; rfl), rfl⟩
        by_cases h2 : 191 < y
        · have HR : Hid (R = 0) := Lib.hid (HN.out 3 (by omega) (by omega) (by rw [hny]; show ¬ (okc y = true); unfold okc; rw [Bool.and_eq_true, decide_eq_true_eq, decide_eq_true_eq]; omega))
          have d2 : decide ((y : Int) < 128) = false := by simp; omega
          have d3 : decide (191 < (y : Int)) = true := by simp; omega
          clear hgood hny HY HN
          rw [hy] at d2 d3
          go_wp2_with fail
          go_ret
          exact ⟨ret_i64 (by rw [HR.out]; rfl), rfl⟩
        · have d2 : decide ((y : Int) < 128) = false := by simp; omega
          have d3 : decide (191 < (y : Int)) = false := by simp; omega
          have HG : Hid (∀ j, 1 ≤ j → j < 3 + 1 → (if j = 1 then 128 ≤ nth (rest s k) 1 ∧ nth (rest s k) 1 ≤ 143 else okc (nth (rest s k) j) = true)) := Lib.hid (fun j j1 j2 => by
            rcases (show j < 3 ∨ j = 3 by omega) with h | h
            · exact hgood.out j j1 h
            · subst h
              rw [hny]
              show okc y = true
              unfold okc; rw [Bool.and_eq_true, decide_eq_true_eq, decide_eq_true_eq]; omega)
          clear hgood hny
          rw [hy] at d2 d3
          go_wp2_with fail
          go_round
          case rel => exact ⟨3 + 1, by omega, by omega, by go_num, rfl, rfl, HG⟩
          case measure => simp [intOf]
      · have HR : Hid (R = 4) := Lib.hid (HY.out (fun j j1 j2 => hgood.out j j1 (by omega)))
        clear hgood HY HN
        go_wp2_with fail
        go_ret
        exact ⟨ret_i64 (by rw [HR.out]; rfl), rfl⟩
set_option maxRecDepth 100000 in
set_option maxHeartbeats 2000000 in
theorem step_c8 (s : ByteArray) (k : Nat) (hk : k < s.size) (hs : s.size ≤ 1000000) (x : Nat) (hx : s[k].toNat = x) (hc : 241 ≤ x ∧ x ≤ 243) (R : Nat) (hy : (∀ j, 1 ≤ j → j ≤ 3 → (if j = 1 then 128 ≤ nth (rest s k) 1 ∧ nth (rest s k) 1 ≤ 191 else okc (nth (rest s k) j) = true)) → R = 4) (hn : ∀ j, 1 ≤ j → j ≤ 3 → ¬ (if j = 1 then 128 ≤ nth (rest s k) 1 ∧ nth (rest s k) 1 ≤ 191 else okc (nth (rest s k) j) = true) → R = 0) (w : World) :
    Calls Tryz.prog 35 #[.string s, .int .i64 k] w fun e w' => e = .returned (.int .i64 (R : Int)) ∧ w = w' := by
  have HY := Lib.hid hy
  have HN := Lib.hid hn
  clear hy hn
  have q224 : (((x : Nat) : Int) == 224) = false := by simp; omega
  have q237 : (((x : Nat) : Int) == 237) = false := by simp; omega
  have q240 : (((x : Nat) : Int) == 240) = false := by simp; omega
  have q244 : (((x : Nat) : Int) == 244) = false := by simp; omega
  have g194 : decide (194 ≤ (x : Int)) = true := by simp; omega
  have g224 : decide (224 ≤ (x : Int)) = true := by simp; omega
  have g240 : decide (240 ≤ (x : Int)) = true := by simp; omega
  have l223 : decide ((x : Int) ≤ 223) = false := by simp; omega
  have l239 : decide ((x : Int) ≤ 239) = false := by simp; omega
  have l244 : decide ((x : Int) ≤ 244) = true := by simp; omega
  have d1 : decide ((x : Int) < 128) = false := by simp; omega
  have p1 : (x : Int) ≤ 244 := by omega
  by_cases hend : s.size ≤ k + 3
  · have HR : Hid (R = 0) := Lib.hid (HN.out 3 (by omega) (by omega) (by rw [nth_end _ 3 (by rw [rest_len]; omega), if_neg (by omega)]; decide))
    clear HY HN
    go_enter Tryz.func35, Tryz.ntmps35
    go_wp2_with fail
    go_ret
    exact ⟨ret_i64 (by rw [HR.out]; rfl), rfl⟩
  · have hin : k + 3 < s.size := by omega
    go_enter Tryz.func35, Tryz.ntmps35
    go_wp2_with fail
    go_loop [5, 6, 9] (fun vl vh vk => ∃ m : Nat, 1 ≤ m ∧ m ≤ 4 ∧ vk = .int .i64 m ∧ vl = .int .i64 (if m = 1 then 128 else 128) ∧ vh = .int .i64 (if m = 1 then 191 else 191) ∧ Hid (∀ j, 1 ≤ j → j < m → (if j = 1 then 128 ≤ nth (rest s k) 1 ∧ nth (rest s k) 1 ≤ 191 else okc (nth (rest s k) j) = true))) (fun _ _ vk => 4 - (intOf vk).toNat)
    case atStart => exact ⟨1, by omega, by omega, rfl, rfl, rfl, Lib.hid (fun j h1 h2 => by omega)⟩
    case round =>
      obtain ⟨m, hm1, hm2, rfl, rfl, rfl, hgood⟩ := hrel
      rcases (show m = 1 ∨ m = 2 ∨ m = 3 ∨ m = 4 by omega) with rfl | rfl | rfl | rfl
      · have hkm : k + 1 < s.size := by omega
        have hny := nth_at s k 1 hkm
        obtain ⟨y, hy⟩ : ∃ y, y = s[k + 1].toNat := ⟨_, rfl⟩
        rw [← hy] at hny
        have hy2 : y < 256 := by rw [hy]; exact UInt8.toNat_lt _
        by_cases h1 : y < 128
        · have HR : Hid (R = 0) := Lib.hid (HN.out 1 (by omega) (by omega) (by rw [hny]; show ¬ (128 ≤ y ∧ y ≤ 191); omega))
          have d2 : decide ((y : Int) < 128) = true := by simp; omega
          clear hgood hny HY HN
          rw [hy] at d2
          go_wp2_with fail
          go_ret
          exact ⟨ret_i64 (by rw [HR.out]; rfl), rfl⟩
        by_cases h2 : 191 < y
        · have HR : Hid (R = 0) := Lib.hid (HN.out 1 (by omega) (by omega) (by rw [hny]; show ¬ (128 ≤ y ∧ y ≤ 191); omega))
          have d2 : decide ((y : Int) < 128) = false := by simp; omega
          have d3 : decide (191 < (y : Int)) = true := by simp; omega
          clear hgood hny HY HN
          rw [hy] at d2 d3
          go_wp2_with fail
          go_ret
          exact ⟨ret_i64 (by rw [HR.out]; rfl), rfl⟩
        · have d2 : decide ((y : Int) < 128) = false := by simp; omega
          have d3 : decide (191 < (y : Int)) = false := by simp; omega
          have HG : Hid (∀ j, 1 ≤ j → j < 1 + 1 → (if j = 1 then 128 ≤ nth (rest s k) 1 ∧ nth (rest s k) 1 ≤ 191 else okc (nth (rest s k) j) = true)) := Lib.hid (fun j j1 j2 => by
            rcases (show j < 1 ∨ j = 1 by omega) with h | h
            · exact hgood.out j j1 h
            · subst h
              rw [hny]
              show 128 ≤ y ∧ y ≤ 191
              omega)
          clear hgood hny
          rw [hy] at d2 d3
          go_wp2_with fail
          go_round
          case rel => exact ⟨1 + 1, by omega, by omega, by go_num, rfl, rfl, HG⟩
          case measure => simp [intOf]
      · have hkm : k + 2 < s.size := by omega
        have hny := nth_at s k 2 hkm
        obtain ⟨y, hy⟩ : ∃ y, y = s[k + 2].toNat := ⟨_, rfl⟩
        rw [← hy] at hny
        have hy2 : y < 256 := by rw [hy]; exact UInt8.toNat_lt _
        by_cases h1 : y < 128
        · have HR : Hid (R = 0) := Lib.hid (HN.out 2 (by omega) (by omega) (by rw [hny]; show ¬ (okc y = true); unfold okc; rw [Bool.and_eq_true, decide_eq_true_eq, decide_eq_true_eq]; omega))
          have d2 : decide ((y : Int) < 128) = true := by simp; omega
          clear hgood hny HY HN
          rw [hy] at d2
          go_wp2_with fail
          go_ret
          exact ⟨ret_i64 (by rw [HR.out]; rfl), rfl⟩
        by_cases h2 : 191 < y
        · have HR : Hid (R = 0) := Lib.hid (HN.out 2 (by omega) (by omega) (by rw [hny]; show ¬ (okc y = true); unfold okc; rw [Bool.and_eq_true, decide_eq_true_eq, decide_eq_true_eq]; omega))
          have d2 : decide ((y : Int) < 128) = false := by simp; omega
          have d3 : decide (191 < (y : Int)) = true := by simp; omega
          clear hgood hny HY HN
          rw [hy] at d2 d3
          go_wp2_with fail
          go_ret
          exact ⟨ret_i64 (by rw [HR.out]; rfl), rfl⟩
        · have d2 : decide ((y : Int) < 128) = false := by simp; omega
          have d3 : decide (191 < (y : Int)) = false := by simp; omega
          have HG : Hid (∀ j, 1 ≤ j → j < 2 + 1 → (if j = 1 then 128 ≤ nth (rest s k) 1 ∧ nth (rest s k) 1 ≤ 191 else okc (nth (rest s k) j) = true)) := Lib.hid (fun j j1 j2 => by
            rcases (show j < 2 ∨ j = 2 by omega) with h | h
            · exact hgood.out j j1 h
            · subst h
              rw [hny]
              show okc y = true
              unfold okc; rw [Bool.and_eq_true, decide_eq_true_eq, decide_eq_true_eq]; omega)
          clear hgood hny
          rw [hy] at d2 d3
          go_wp2_with fail
          go_round
          case rel => exact ⟨2 + 1, by omega, by omega, by go_num, rfl, rfl, HG⟩
          case measure => simp [intOf]
      · have hkm : k + 3 < s.size := by omega
        have hny := nth_at s k 3 hkm
        obtain ⟨y, hy⟩ : ∃ y, y = s[k + 3].toNat := ⟨_, rfl⟩
        rw [← hy] at hny
        have hy2 : y < 256 := by rw [hy]; exact UInt8.toNat_lt _
        by_cases h1 : y < 128
        · have HR : Hid (R = 0) := Lib.hid (HN.out 3 (by omega) (by omega) (by rw [hny]; show ¬ (okc y = true); unfold okc; rw [Bool.and_eq_true, decide_eq_true_eq, decide_eq_true_eq]; omega))
          have d2 : decide ((y : Int) < 128) = true := by simp; omega
          clear hgood hny HY HN
          rw [hy] at d2
          go_wp2_with fail
          go_ret
          exact ⟨ret_i64 (by rw [HR.out]; rfl), rfl⟩
        by_cases h2 : 191 < y
        · have HR : Hid (R = 0) := Lib.hid (HN.out 3 (by omega) (by omega) (by rw [hny]; show ¬ (okc y = true); unfold okc; rw [Bool.and_eq_true, decide_eq_true_eq, decide_eq_true_eq]; omega))
          have d2 : decide ((y : Int) < 128) = false := by simp; omega
          have d3 : decide (191 < (y : Int)) = true := by simp; omega
          clear hgood hny HY HN
          rw [hy] at d2 d3
          go_wp2_with fail
          go_ret
          exact ⟨ret_i64 (by rw [HR.out]; rfl), rfl⟩
        · have d2 : decide ((y : Int) < 128) = false := by simp; omega
          have d3 : decide (191 < (y : Int)) = false := by simp; omega
          have HG : Hid (∀ j, 1 ≤ j → j < 3 + 1 → (if j = 1 then 128 ≤ nth (rest s k) 1 ∧ nth (rest s k) 1 ≤ 191 else okc (nth (rest s k) j) = true)) := Lib.hid (fun j j1 j2 => by
            rcases (show j < 3 ∨ j = 3 by omega) with h | h
            · exact hgood.out j j1 h
            · subst h
              rw [hny]
              show okc y = true
              unfold okc; rw [Bool.and_eq_true, decide_eq_true_eq, decide_eq_true_eq]; omega)
          clear hgood hny
          rw [hy] at d2 d3
          go_wp2_with fail
          go_round
          case rel => exact ⟨3 + 1, by omega, by omega, by go_num, rfl, rfl, HG⟩
          case measure => simp [intOf]
      · have HR : Hid (R = 4) := Lib.hid (HY.out (fun j j1 j2 => hgood.out j j1 (by omega)))
        clear hgood HY HN
        go_wp2_with fail
        go_ret
        exact ⟨ret_i64 (by rw [HR.out]; rfl), rfl⟩
end Go.Proofs.YtpijgeogopopbaaGreatDoor
