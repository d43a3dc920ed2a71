/-
  emendref03's is, digit, numbered, hex AT EVERY TEXT of at most 1000000 bytes: what they return; the world is as it was. Condition: the text's length.
  emendref03.hex AT EVERY TEXT of at most 1000000 bytes: the number of a u and four hex digits, or -1; the world is as it was. Condition: the text's length.
-/
import Derived.Test.YtmkjoonbjmieoaaGreatDoorQScan
namespace Go.Proofs.YtmkjoonbjmieoaaGreatDoor
open Go.RowKit

theorem is1_eq (d c : UInt8) : is1 d c = decide (c.toNat = d.toNat) := by
  unfold is1
  simp only [List.contains_cons, List.contains_nil, Bool.or_false]
  rw [Bool.eq_iff_iff, beq_iff_eq, decide_eq_true_eq]
  exact ⟨fun h => by rw [h], fun h => UInt8.toNat_inj.1 h⟩
theorem is_any (s : ByteArray) (k : Nat) (d : UInt8) (w : World) : Calls Tryz.prog 133 #[.string s, .int .i64 k, .int .u8 (d.toNat : Int)] w fun e w' => e = .returned (.bool (fst (is1 d) (rest s k))) ∧ w = w' := by
  by_cases h : k < s.size
  · rw [fst_at _ s k h, is1_eq]
    have d0 : decide (k < s.size) = true := by simpa using h
    have e : (decide (s[k].toNat = d.toNat)) = (((s[k].toNat : Nat) : Int) == ((d.toNat : Nat) : Int)) := by
      rw [Bool.eq_iff_iff, decide_eq_true_eq, beq_iff_eq]; omega
    rw [e]
    clear e
    generalize (d.toNat : Int) = z at *
    go_enter Tryz.func133, Tryz.ntmps133
    go_wp2_with fail
    go_ret
    exact ⟨rfl, rfl⟩
  · rw [fst_end _ s k h]
    have d0 : decide (k < s.size) = false := by simpa using h
    generalize (d.toNat : Int) = z at *
    go_enter Tryz.func133, Tryz.ntmps133
    go_wp2_with fail
    go_ret
    exact ⟨rfl, rfl⟩
theorem isD_eq (c : UInt8) : isD c = (decide (48 ≤ c.toNat) && decide (c.toNat ≤ 57)) := by
  have : ∀ k : Fin 256, isD (UInt8.ofNat k.val) = (decide (48 ≤ k.val) && decide (k.val ≤ 57)) := by decide +kernel
  have h := this ⟨c.toNat, c.toNat_lt⟩
  simpa using h
theorem digit_any (s : ByteArray) (k : Nat) (w : World) : Calls Tryz.prog 134 #[.string s, .int .i64 k] w fun e w' => e = .returned (.bool (fst isD (rest s k))) ∧ w = w' := by
  by_cases h : k < s.size
  · rw [fst_at _ s k h, isD_eq]
    have d0 : decide (k < s.size) = true := by simpa using h
    by_cases h1 : 48 ≤ s[k].toNat
    · by_cases h2 : s[k].toNat ≤ 57
      · have d1 : decide (48 ≤ (s[k].toNat : Int)) = true := by simp; omega
        have d2 : decide ((s[k].toNat : Int) ≤ 57) = true := by simp; omega
        rw [decide_eq_true h1, decide_eq_true h2]
        go_enter Tryz.func134, Tryz.ntmps134
        go_wp2_with fail
        go_ret
        exact ⟨rfl, rfl⟩
      · have d1 : decide (48 ≤ (s[k].toNat : Int)) = true := by simp; omega
        have d2 : decide ((s[k].toNat : Int) ≤ 57) = false := by simp; omega
        rw [decide_eq_true h1, decide_eq_false h2]
        go_enter Tryz.func134, Tryz.ntmps134
        go_wp2_with fail
        go_ret
        exact ⟨rfl, rfl⟩
    · have d1 : decide (48 ≤ (s[k].toNat : Int)) = false := by simp; omega
      rw [decide_eq_false h1]
      go_enter Tryz.func134, Tryz.ntmps134
      go_wp2_with fail
      go_ret
      exact ⟨rfl, rfl⟩
  · rw [fst_end _ s k h]
    have d0 : decide (k < s.size) = false := by simpa using h
    go_enter Tryz.func134, Tryz.ntmps134
    go_wp2_with fail
    go_ret
    exact ⟨rfl, rfl⟩
end Go.Proofs.YtmkjoonbjmieoaaGreatDoor
namespace Go.Proofs.YtmkjoonbjmieoaaGreatDoor
open Go.RowKit

/-- What hex hands back. -/
def hexV : Option Nat → Int
  | some n => (n : Int)
  | none => -1
theorem hexN_cons_some2 {c : UInt8} {d : Nat} (h : hexD c = some d) (n : Nat) (l : List UInt8) : hexN n (c :: l) = hexN (16 * n + d) l := by rw [hexN, h]
theorem hexN_cons_none2 {c : UInt8} (h : hexD c = none) (n : Nat) (l : List UInt8) : hexN n (c :: l) = none := by rw [hexN, h]
set_option maxRecDepth 100000 in
set_option maxHeartbeats 2000000 in
theorem refHex_any (s : ByteArray) (i : Nat) (hs : s.size ≤ 1000000) (w : World) : Calls Tryz.prog 146 #[.string s, .int .i64 i] w fun e w' => e = .returned (.int .i64 (hexV (unitU (rest s i)))) ∧ w = w' := by
  have HI := Lib.hid (fun w => is_any s i 117 w)
  by_cases hu : fst (is1 117) (rest s i) = true
  · have hlt : i < s.size := by have := fst_len _ _ hu; rw [rest_len] at this; omega
    rw [hu] at HI
    have e0 : unitU (rest s i) = hex4 (rest s (i + 1)) := by unfold unitU; rw [if_pos hu, rest_drop]
    rw [e0]
    by_cases hl : s.size ≤ i + 4
    · have e1 : hex4 (rest s (i + 1)) = none := by unfold hex4; rw [if_pos (by rw [rest_len]; omega)]
      rw [e1]
      show Calls _ _ _ _ fun e w' => e = .returned (.int .i64 (-1)) ∧ _
      clear hu e0 e1
      go_enter Tryz.func146, Tryz.ntmps146
      go_wp2_with fail
      refine (HI.out _).mono ?_
      rintro e w' ⟨rfl, rfl⟩
      go_wp2_with fail
      go_ret
      exact ⟨rfl, rfl⟩
    · obtain ⟨bs, hbs⟩ : ∃ bs, bs = (rest s (i + 1)).take 4 := ⟨_, rfl⟩
      have hbl : bs.length = 4 := by rw [hbs, List.length_take, rest_len]; omega
      have hbg : ∀ j, j < 4 → ∀ h : i + 1 + j < s.size, bs[j]? = some (s[i + 1 + j]) := by
        intro j hj h
        rw [hbs, List.getElem?_take, if_pos hj]
        unfold rest
        rw [List.getElem?_drop, Array.getElem?_toList, Array.getElem?_eq_getElem (show i + 1 + j < s.data.size from h)]
        rfl
      have e1 : hex4 (rest s (i + 1)) = hexN 0 bs := by unfold hex4; rw [if_neg (by rw [rest_len]; omega), hbs]
      rw [e1]
      obtain ⟨V, hV⟩ : ∃ V, V = hexV (hexN 0 bs) := ⟨_, rfl⟩
      rw [← hV]
      have HV := Lib.hid hV
      have HBG := Lib.hid hbg
      have HBL := Lib.hid hbl
      clear hu e0 e1 hbs hV hbg hbl
      go_enter Tryz.func146, Tryz.ntmps146
      go_wp2_with fail
      refine (HI.out _).mono ?_
      rintro e w' ⟨rfl, rfl⟩
      go_wp2_with fail
      go_loop [5, 6] (fun vn vk => ∃ (k acc : Nat), 1 ≤ k ∧ k ≤ 5 ∧ vk = .int .i64 k ∧ vn = .int .i64 acc ∧ Hid (acc < 16 ^ (k - 1)) ∧ Hid (hexN 0 bs = hexN acc (bs.drop (k - 1)))) (fun _ vk => 5 - (intOf vk).toNat)
      case atStart => exact ⟨1, 0, by omega, by omega, rfl, rfl, Lib.hid (by decide), Lib.hid rfl⟩
      case round =>
        obtain ⟨k, acc, hk1, hk5, rfl, rfl, hacc, hrel⟩ := hrel
        by_cases hk : k ≤ 4
        · have hin : i + k < s.size := by omega
          obtain ⟨c, hc⟩ : ∃ c, c = s[i + k] := ⟨_, rfl⟩
          have hg : bs[k - 1]? = some c := by
            have := HBG.out (k - 1) (by omega) (by omega)
            rw [this, hc]
            congr 2
            omega
          have hlt2 : k - 1 < bs.length := by rw [HBL.out]; omega
          have hr := hrel.out
          rw [List.drop_eq_getElem_cons hlt2, show bs[k - 1] = c from by rw [List.getElem?_eq_getElem hlt2] at hg; exact Option.some.inj hg, show k - 1 + 1 = k by omega] at hr
          have hp : acc ≤ 4095 := by
            have h1 := hacc.out
            have : k - 1 = 0 ∨ k - 1 = 1 ∨ k - 1 = 2 ∨ k - 1 = 3 := by omega
            rcases this with h | h | h | h <;> (rw [h] at h1; omega)
          obtain ⟨x, hx⟩ : ∃ x, s[i + k].toNat = x := ⟨_, rfl⟩
          have hx2 : x < 256 := by rw [← hx]; exact UInt8.toNat_lt _
          have hcx : c.toNat = x := by rw [hc]; exact hx
          clear hrel hg hlt2 hc
          have step : ∀ d, hexD c = some d → Hid (16 * acc + d < 16 ^ (k + 1 - 1)) ∧ Hid (hexN 0 bs = hexN (16 * acc + d) (bs.drop (k + 1 - 1))) := fun d hd => by
            have hd16 := (hexD_lt hd).1
            refine ⟨Lib.hid ?_, Lib.hid ?_⟩
            · rw [show k + 1 - 1 = (k - 1) + 1 by omega, Nat.pow_succ]; have := hacc.out; omega
            · rw [hr, hexN_cons_some2 hd, show k + 1 - 1 = k by omega]
          by_cases a1 : 48 ≤ x ∧ x ≤ 57
          · obtain ⟨g1, g2⟩ := step (x - 48) (by unfold hexD; rw [hcx, if_pos a1])
            have d1 : decide (48 ≤ (x : Int)) = true := by simp; omega
            have d2 : decide ((x : Int) ≤ 57) = true := by simp; omega
            clear step hr hacc hcx
            go_wp2_with fail
            go_round
            case rel => exact ⟨k + 1, 16 * acc + (x - 48), by omega, by omega, by go_num, by go_num, g1, g2⟩
            case measure => simp [intOf]; omega
          by_cases a2 : 97 ≤ x ∧ x ≤ 102
          · obtain ⟨g1, g2⟩ := step (x - 87) (by unfold hexD; rw [hcx, if_neg a1, if_pos a2])
            have d1 : decide (48 ≤ (x : Int)) = true := by simp; omega
            have d2 : decide ((x : Int) ≤ 57) = false := by simp; omega
            have d3 : decide (97 ≤ (x : Int)) = true := by simp; omega
            have d4 : decide ((x : Int) ≤ 102) = true := by simp; omega
            clear step hr hacc hcx
            go_wp2_with fail
            go_round
            case rel => exact ⟨k + 1, 16 * acc + (x - 87), by omega, by omega, by go_num, by go_num, g1, g2⟩
            case measure => simp [intOf]; omega
          by_cases a3 : 65 ≤ x ∧ x ≤ 70
          · obtain ⟨g1, g2⟩ := step (x - 55) (by unfold hexD; rw [hcx, if_neg a1, if_neg a2, if_pos a3])
            have d1 : decide (48 ≤ (x : Int)) = true := by simp; omega
            have d2 : decide ((x : Int) ≤ 57) = false := by simp; omega
            have d3 : decide (97 ≤ (x : Int)) = false := by simp; omega
            have d5 : decide (65 ≤ (x : Int)) = true := by simp; omega
            have d6 : decide ((x : Int) ≤ 70) = true := by simp; omega
            clear step hr hacc hcx
            go_wp2_with fail
            go_round
            case rel => exact ⟨k + 1, 16 * acc + (x - 55), by omega, by omega, by go_num, by go_num, g1, g2⟩
            case measure => simp [intOf]; omega
          · have hn : hexD c = none := by unfold hexD; rw [hcx, if_neg a1, if_neg a2, if_neg a3]
            have HN : Hid (V = -1) := Lib.hid (by rw [HV.out, hr, hexN_cons_none2 hn]; rfl)
            clear step hr hacc hcx hn
            rcases (show x < 48 ∨ (57 < x ∧ x < 65) ∨ (70 < x ∧ x < 97) ∨ 102 < x by omega) with h | h | h | h
            · have d0 : decide (48 ≤ (x : Int)) = false := by simp; omega
              have d1 : decide (97 ≤ (x : Int)) = false := by simp; omega
              have d2 : decide (65 ≤ (x : Int)) = false := by simp; omega
              clear a1 a2 a3
              go_wp2_with fail
              go_ret
              exact ⟨ret_i64 (by rw [HN.out]), rfl⟩
            · have d0 : decide (48 ≤ (x : Int)) = true := by simp; omega
              have d1 : decide ((x : Int) ≤ 57) = false := by simp; omega
              have d2 : decide (97 ≤ (x : Int)) = false := by simp; omega
              have d3 : decide (65 ≤ (x : Int)) = false := by simp; omega
              clear a1 a2 a3
              go_wp2_with fail
              go_ret
              exact ⟨ret_i64 (by rw [HN.out]), rfl⟩
            · have d0 : decide (48 ≤ (x : Int)) = true := by simp; omega
              have d1 : decide ((x : Int) ≤ 57) = false := by simp; omega
              have d2 : decide (97 ≤ (x : Int)) = false := by simp; omega
              have d3 : decide (65 ≤ (x : Int)) = true := by simp; omega
              have d4 : decide ((x : Int) ≤ 70) = false := by simp; omega
              clear a1 a2 a3
              go_wp2_with fail
              go_ret
              exact ⟨ret_i64 (by rw [HN.out]), rfl⟩
            · have d0 : decide (48 ≤ (x : Int)) = true := by simp; omega
              have d1 : decide ((x : Int) ≤ 57) = false := by simp; omega
              have d2 : decide (97 ≤ (x : Int)) = true := by simp; omega
              have d3 : decide ((x : Int) ≤ 102) = false := by simp; omega
              have d4 : decide (65 ≤ (x : Int)) = true := by simp; omega
              have d5 : decide ((x : Int) ≤ 70) = false := by simp; omega
              clear a1 a2 a3
              go_wp2_with fail
              go_ret
              exact ⟨ret_i64 (by rw [HN.out]), rfl⟩
        · have HN : Hid (V = (acc : Int)) := Lib.hid (by
            rw [HV.out, hrel.out, List.drop_eq_nil_of_le (by rw [HBL.out]; omega)]; rfl)
          clear hrel hacc
          go_wp2_with fail
          go_ret
          exact ⟨ret_i64 HN.out.symm, rfl⟩
  · have hu2 : fst (is1 117) (rest s i) = false := by simpa using hu
    have e0 : unitU (rest s i) = none := by unfold unitU; rw [if_neg hu]
    rw [hu2] at HI
    rw [e0]
    show Calls _ _ _ _ fun e w' => e = .returned (.int .i64 (-1)) ∧ _
    clear hu hu2 e0
    go_enter Tryz.func146, Tryz.ntmps146
    go_wp2_with fail
    refine (HI.out _).mono ?_
    rintro e w' ⟨rfl, rfl⟩
    go_wp2_with fail
    go_ret
    exact ⟨rfl, rfl⟩
end Go.Proofs.YtmkjoonbjmieoaaGreatDoor
