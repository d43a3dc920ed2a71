/-
  emendlaw09's idle AT EVERY TEXT, and the walk of emendlaw09.LexerTiles: it returns true; no memory that was there turns. Conditions: the variables that are read hold what their text lays (Facts); what num.Float says of all floats (FSpec).
-/
import Derived.Test.YtpijgeogopopbaaGreatDoorLAgain
import Derived.Deep.RegionWith
import Derived.Deep.DeepCutAuto
namespace Go.Proofs.YtpijgeogopopbaaGreatDoor
open Go.RowKit

variable {FW : World → Prop} {ff : List UInt8 → Nat}
theorem idle_com (s : ByteArray) (i : Nat) (h : i < s.size) (hx : s[i].toNat ≠ 10) : idleB true (rest s i) = idleB true (rest s (i + 1)) := by
  rw [rest_cons s i h, idleB, if_neg hx]
theorem idle_nl (s : ByteArray) (i : Nat) (h : i < s.size) (hx : s[i].toNat = 10) : idleB true (rest s i) = idleB false (rest s (i + 1)) := by
  rw [rest_cons s i h, idleB, if_pos hx]
theorem slash_fst (s : ByteArray) (i x : Nat) (h : i < s.size) (hx : s[i].toNat = x) : fst (is1 47) (rest s i) = decide (x = 47) := by
  rw [fst_at _ s i h, is1_eq, hx]; rfl
theorem idle_sl (s : ByteArray) (i : Nat) (h : i + 1 < s.size) (h1 : s[i].toNat = 47) (h2 : s[i + 1].toNat = 47) : idleB false (rest s i) = idleB true (rest s i) := by
  have e1 := slash_fst s i 47 (by omega) h1
  have e2 := slash_fst s (i + 1) 47 h h2
  rw [rest_cons s i (by omega)] at e1 ⊢
  rw [idleB, idleB, e1, e2, if_pos (by decide), if_neg (by rw [h1]; decide)]
theorem idle_no (s : ByteArray) (i : Nat) (h : i < s.size) (hn : (fst (is1 47) (rest s i) && fst (is1 47) (rest s (i + 1))) = false) : idleB false (rest s i) = (([32, 9, 10, 13] : List UInt8).contains s[i] && idleB false (rest s (i + 1))) := by
  rw [rest_cons s i h] at hn ⊢
  rw [idleB, hn, if_neg (by simp)]
  cases ([32, 9, 10, 13] : List UInt8).contains s[i] <;> rfl
theorem blk_iff (c : UInt8) : ([32, 9, 10, 13] : List UInt8).contains c = true ↔ (c.toNat = 32 ∨ c.toNat = 9 ∨ c.toNat = 10 ∨ c.toNat = 13) := by
  simp only [List.contains_cons, List.contains_nil, Bool.or_false, Bool.or_eq_true, beq_iff_eq]
  constructor
  · rintro (rfl | rfl | rfl | rfl) <;> decide
  · rintro (h | h | h | h)
    · exact .inl (UInt8.toNat_inj.1 h)
    · exact .inr (.inl (UInt8.toNat_inj.1 h))
    · exact .inr (.inr (.inl (UInt8.toNat_inj.1 h)))
    · exact .inr (.inr (.inr (UInt8.toNat_inj.1 h)))
set_option maxRecDepth 100000 in
set_option maxHeartbeats 1000000 in
theorem idle_any (s : ByteArray) (hs : s.size ≤ 1000000) (w : World) : Calls Tryz.prog 11 #[.string s] w fun e w' => e = .returned (.bool (idleB false s.data.toList)) ∧ w = w' := by
  obtain ⟨R, hR⟩ : ∃ R, R = idleB false s.data.toList := ⟨_, rfl⟩
  rw [← hR]
  have HR0 : Hid (idleB false (rest s 0) = R) := Lib.hid (by rw [rest_zero, hR])
  clear hR
  go_enter Tryz.func11, Tryz.ntmps11
  go_wp2_with fail
  go_loop [3] (fun u => ∃ i : Nat, i ≤ s.size + 1 ∧ u = .int .i64 i ∧ Hid (idleB false (rest s i) = R)) (fun u => s.size + 1 - (intOf u).toNat)
  case atStart => exact ⟨0, by omega, rfl, HR0⟩
  case round =>
    obtain ⟨i, hi, rfl, hrel⟩ := hrel
    by_cases hlt : i < s.size
    · obtain ⟨x, hx⟩ : ∃ x, s[i].toNat = x := ⟨_, rfl⟩
      have hs1 := slash_fst s i x hlt hx
      have hbl := blk_iff s[i]
      rw [hx] at hbl
      have hx256 : x < 256 := by rw [← hx]; exact UInt8.toNat_lt _
      by_cases hsl : x = 47 ∧ i + 1 < s.size
      · obtain ⟨h47, hlt2⟩ := hsl
        have e47 : (((x : Nat) : Int) == 47) = true := by simp only [beq_iff_eq]; omega
        obtain ⟨y, hy⟩ : ∃ y, s[i + 1].toNat = y := ⟨_, rfl⟩
        have hs2 := slash_fst s (i + 1) y hlt2 hy
        have hy256 : y < 256 := by rw [← hy]; exact UInt8.toNat_lt _
        by_cases hy47 : y = 47
        · have f47 : (((y : Nat) : Int) == 47) = true := by simp only [beq_iff_eq]; omega
          have HC : Hid (idleB true (rest s i) = R) := Lib.hid (by rw [← hrel.out, idle_sl s i hlt2 (by rw [hx]; exact h47) (by rw [hy]; exact hy47)])
          clear hs1 hs2 hbl hrel h47 hy47
          go_wp2_with fail
          go_loop [3] (fun u => ∃ j : Nat, i ≤ j ∧ j ≤ s.size ∧ u = .int .i64 j ∧ Hid (idleB true (rest s j) = R)) (fun u => s.size - (intOf u).toNat)
          case atStart => exact ⟨i, Nat.le_refl _, by omega, rfl, HC⟩
          case round =>
            obtain ⟨j, hij, hj, rfl, hrel⟩ := hrel
            by_cases hjl : j < s.size
            · obtain ⟨z, hz⟩ : ∃ z, s[j].toNat = z := ⟨_, rfl⟩
              by_cases h10 : z = 10
              · have e10 : (((z : Nat) : Int) != 10) = false := by simp only [bne_eq_false_iff_eq]; omega
                have HN : Hid (idleB false (rest s (j + 1)) = R) := Lib.hid (by rw [← hrel.out, idle_nl s j hjl (by rw [hz]; exact h10)])
                clear h10 hrel
                go_wp2_with fail
                go_round
                case rel => exact ⟨j + 1, by omega, by go_num, HN⟩
                case measure => simp [intOf]; omega
              · have e10 : (((z : Nat) : Int) != 10) = true := by simp only [bne_iff_ne, ne_eq]; omega
                have HN : Hid (idleB true (rest s (j + 1)) = R) := Lib.hid (by rw [← hrel.out, idle_com s j hjl (by rw [hz]; exact h10)])
                clear h10 hrel
                go_wp2_with fail
                go_round
                case rel => exact ⟨j + 1, by omega, by omega, by go_num, HN⟩
                case measure => simp [intOf]; omega
            · have HN : Hid (idleB false (rest s (j + 1)) = R) := Lib.hid (by
                have := hrel.out
                rw [rest_end s j hjl] at this
                rw [rest_end s (j + 1) (by omega), ← this]; rfl)
              clear hrel
              go_wp2_with fail
              go_round
              case rel => exact ⟨j + 1, by omega, by go_num, HN⟩
              case measure => simp [intOf]; omega
        · have f47 : (((y : Nat) : Int) == 47) = false := by simp only [beq_eq_false_iff_ne, ne_eq]; omega
          have HR : Hid (R = false) := Lib.hid (by
            rw [← hrel.out, idle_no s i hlt (by rw [hs2, decide_eq_false hy47, Bool.and_false])]
            have : ([32, 9, 10, 13] : List UInt8).contains s[i] = false := by rw [Bool.eq_false_iff, ne_eq, hbl]; omega
            rw [this]; rfl)
          have e1 : (((x : Nat) : Int) != 32) = true := by simp only [bne_iff_ne, ne_eq]; omega
          have e2 : (((x : Nat) : Int) != 9) = true := by simp only [bne_iff_ne, ne_eq]; omega
          have e3 : (((x : Nat) : Int) != 10) = true := by simp only [bne_iff_ne, ne_eq]; omega
          have e4 : (((x : Nat) : Int) != 13) = true := by simp only [bne_iff_ne, ne_eq]; omega
          clear hs1 hs2 hbl hrel h47 hy47
          go_wp2_with fail
          go_ret
          exact ⟨ret_bool HR.out.symm, rfl⟩
      · have hno : (fst (is1 47) (rest s i) && fst (is1 47) (rest s (i + 1))) = false := by
          rw [hs1]
          by_cases h47 : x = 47
          · rw [rest_end s (i + 1) (by omega)]; simp [fst]
          · rw [decide_eq_false h47]; rfl
        have hstep := idle_no s i hlt hno
        rw [hrel.out] at hstep
        have HST := Lib.hid hstep
        have HSL := Lib.hid hsl
        clear hno hs1 hstep hrel
        by_cases hb : x = 32 ∨ x = 9 ∨ x = 10 ∨ x = 13
        · have HN : Hid (idleB false (rest s (i + 1)) = R) := Lib.hid (by rw [HST.out, hbl.2 hb, Bool.true_and])
          have e47 : (((x : Nat) : Int) == 47) = false := by simp only [beq_eq_false_iff_ne, ne_eq]; omega
          clear hbl hsl
          rcases hb with hb | hb | hb | hb
          · have e0 : (((x : Nat) : Int) != 32) = false := by simp only [bne_eq_false_iff_eq]; omega
            clear hb
            go_wp2_with fail
            go_round
            case rel => exact ⟨i + 1, by omega, by go_num, HN⟩
            case measure => simp [intOf]; omega
          · have e0 : (((x : Nat) : Int) != 32) = true := by simp only [bne_iff_ne, ne_eq]; omega
            have e1 : (((x : Nat) : Int) != 9) = false := by simp only [bne_eq_false_iff_eq]; omega
            clear hb
            go_wp2_with fail
            go_round
            case rel => exact ⟨i + 1, by omega, by go_num, HN⟩
            case measure => simp [intOf]; omega
          · have e0 : (((x : Nat) : Int) != 32) = true := by simp only [bne_iff_ne, ne_eq]; omega
            have e1 : (((x : Nat) : Int) != 9) = true := by simp only [bne_iff_ne, ne_eq]; omega
            have e2 : (((x : Nat) : Int) != 10) = false := by simp only [bne_eq_false_iff_eq]; omega
            clear hb
            go_wp2_with fail
            go_round
            case rel => exact ⟨i + 1, by omega, by go_num, HN⟩
            case measure => simp [intOf]; omega
          · have e0 : (((x : Nat) : Int) != 32) = true := by simp only [bne_iff_ne, ne_eq]; omega
            have e1 : (((x : Nat) : Int) != 9) = true := by simp only [bne_iff_ne, ne_eq]; omega
            have e2 : (((x : Nat) : Int) != 10) = true := by simp only [bne_iff_ne, ne_eq]; omega
            have e3 : (((x : Nat) : Int) != 13) = false := by simp only [bne_eq_false_iff_eq]; omega
            clear hb
            go_wp2_with fail
            go_round
            case rel => exact ⟨i + 1, by omega, by go_num, HN⟩
            case measure => simp [intOf]; omega
        · have HR : Hid (R = false) := Lib.hid (by
            rw [HST.out]
            have : ([32, 9, 10, 13] : List UInt8).contains s[i] = false := by rw [Bool.eq_false_iff, ne_eq, hbl]; exact hb
            rw [this]; rfl)
          have e1 : (((x : Nat) : Int) != 32) = true := by simp only [bne_iff_ne, ne_eq]; omega
          have e2 : (((x : Nat) : Int) != 9) = true := by simp only [bne_iff_ne, ne_eq]; omega
          have e3 : (((x : Nat) : Int) != 10) = true := by simp only [bne_iff_ne, ne_eq]; omega
          have e4 : (((x : Nat) : Int) != 13) = true := by simp only [bne_iff_ne, ne_eq]; omega
          by_cases h47 : x = 47
          · have e47 : (((x : Nat) : Int) == 47) = true := by simp only [beq_iff_eq]; omega
            have hsz : decide ((i : Int) + 1 < (s.size : Int)) = false := by rw [decide_eq_false_iff_not]; omega
            have hsz2 : ¬ i + 1 < s.size := by omega
            clear hbl hsl hb h47
            go_wp2_with fail
            go_ret
            exact ⟨ret_bool HR.out.symm, rfl⟩
          · have e47 : (((x : Nat) : Int) == 47) = false := by simp only [beq_eq_false_iff_ne, ne_eq]; omega
            clear hbl hsl hb h47
            go_wp2_with fail
            go_ret
            exact ⟨ret_bool HR.out.symm, rfl⟩
    · have HR : Hid (R = true) := Lib.hid (by rw [← hrel.out, rest_end s i hlt]; rfl)
      clear hrel
      go_wp2_with fail
      go_ret
      exact ⟨ret_bool HR.out.symm, rfl⟩
theorem extract_rest (s : ByteArray) (a b : Nat) (h : a ≤ b) : (s.extract a b).data.toList = (rest s a).take (b - a) := by
  have := extract_take s a (b - a)
  rwa [show a + (b - a) = b by omega] at this
theorem idle_part (s : ByteArray) (hs : s.size ≤ 1000000) (a b : Nat) (h : a ≤ b) (hb : idleB false ((rest s a).take (b - a)) = true) (w : World) : Calls Tryz.prog 11 #[.string (s.extract a b)] w fun e w' => e = .returned (.bool true) ∧ w = w' := by
  have := idle_any (s.extract a b) (by rw [ByteArray.size_extract]; omega) w
  rwa [extract_rest s a b h, hb] at this
theorem text_part (s : ByteArray) (a b : Nat) (h : a ≤ b) (x : List UInt8) (hx : (rest s a).take (b - a) = x) : ((s.extract a b).toList == (txt x).toList) = true := by
  rw [txt_list, Lib.toList_data, extract_rest s a b h, hx]
  simp
theorem new_cells4 (w : World) (a b c d : Value) (t : TypeId) : (w.alloc (.cells #[a, b, c, d] t)).cell? ⟨w.heap.size, 0, none⟩ = some a ∧ (w.alloc (.cells #[a, b, c, d] t)).cell? ⟨w.heap.size, 1, none⟩ = some b ∧ (w.alloc (.cells #[a, b, c, d] t)).cell? ⟨w.heap.size, 2, none⟩ = some c ∧ (w.alloc (.cells #[a, b, c, d] t)).cell? ⟨w.heap.size, 3, none⟩ = some d := by
  refine ⟨?_, ?_, ?_, ?_⟩ <;> (rw [World.cell?_alloc_at _ _ _ _ rfl]; rfl)
end Go.Proofs.YtpijgeogopopbaaGreatDoor
