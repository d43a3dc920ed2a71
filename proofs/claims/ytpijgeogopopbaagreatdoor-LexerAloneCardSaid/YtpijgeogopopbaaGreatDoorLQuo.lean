/-
  emendref09's quoted, Value AT EVERY TEXT of at most 1000000 bytes: what they return; no memory that was there turns. Condition: the text's length.
-/
import Derived.Test.YtpijgeogopopbaaGreatDoorLRef2
namespace Go.Proofs.YtpijgeogopopbaaGreatDoor
open Go.RowKit

/-- What quoted hands back. -/
def quoV (k : Nat) : Option (List UInt8 × Nat) → Value
  | none => .tuple #[.string ⟨#[]⟩, .int .i64 0]
  | some (v, n) => .tuple #[.string ⟨v.toArray⟩, .int .i64 ((k + 1 + n : Nat) : Int)]
theorem hexZ_at (s : ByteArray) (k : Nat) (h : k < s.size) : hexZ (rest s k) = match hexI s[k] with
    | none => (-1 : Int)
    | some n => (n : Int) := by
  rw [rest_cons s k h]; rfl
theorem hexP_hexZ (s : ByteArray) (k : Nat) : hexP (rest s k) = if hexZ (rest s k) < 0 ∨ hexZ (rest s (k + 1)) < 0 then none else some (UInt8.ofNat (16 * (hexZ (rest s k)).toNat + (hexZ (rest s (k + 1))).toNat), 4) := by
  by_cases h : k + 1 < s.size
  · rw [hexP_two s k h, hexZ_at s k (by omega), hexZ_at s (k + 1) h]
    cases h1 : hexI s[k] with
    | none => rw [if_pos (.inl (by simp))]
    | some a =>
      cases h2 : hexI s[k + 1] with
      | none => rw [if_pos (.inr (by simp))]
      | some b => rw [if_neg (by simp only; omega)]; simp
  · rw [hexP_short s k h, if_pos (.inr (by rw [rest_end s (k + 1) h]; decide))]
theorem hexZ_lt (l : List UInt8) : hexZ l < 16 ∧ -1 ≤ hexZ l := by
  cases l with
  | nil => exact ⟨by decide, by decide⟩
  | cons c l =>
    show (match hexI c with
      | none => (-1 : Int)
      | some n => (n : Int)) < 16 ∧ _ ≤ (match hexI c with
      | none => (-1 : Int)
      | some n => (n : Int))
    cases h : hexI c with
    | none => exact ⟨by decide, by decide⟩
    | some n => have := hexI_lt h; simp only; omega
theorem is_at (s : ByteArray) (k y : Nat) (d : UInt8) (h : k < s.size) (hy : s[k].toNat = y) : fst (is1 d) (rest s k) = decide (y = d.toNat) := by
  rw [fst_at _ s k h, is1_eq, hy]
set_option maxRecDepth 100000 in
set_option maxHeartbeats 4000000 in
theorem rquoted_any (s : ByteArray) (k : Nat) (hk : k < s.size) (hs : s.size ≤ 1000000) (w : World) : Calls Tryz.prog 43 #[.string s, .int .i64 k] w fun e w' => e = .returned (quoV k (uqB (rest s (k + 1)))) ∧ Below w.heap.size w w' := by
  obtain ⟨i0, hi, hz0, hz1, hz2⟩ := info_parts Tryz.info5
  obtain ⟨R, hR⟩ : ∃ R, R = uqB (rest s (k + 1)) := ⟨_, rfl⟩
  rw [← hR]
  have HR : Hid (goQ [] 0 (uqB (rest s (k + 1))) = R) := Lib.hid (by rw [goQ_nil, hR])
  clear hR
  have HIS := Lib.hid (fun (k : Nat) (d : UInt8) (w : World) => ris_any s k d w)
  have HHX := Lib.hid (fun (k : Nat) (w : World) => rhex_any s k w)
  go_enter Tryz.func43, Tryz.ntmps43
  go_wp2_with fail
  go_loopw [1, 6] (fun u v wr => ∃ (i : Nat) (acc : List UInt8) (v0 : Value), v0 = v ∧ k + 1 ≤ i ∧ Hid (i ≤ s.size + 3) ∧ u = .int .i64 i ∧ Hid (acc.length ≤ i) ∧ Hid (wr.ownsRow w.heap.size 5 1 v0 acc.length (bcells acc)) ∧ Hid (Below w.heap.size w wr) ∧ Hid (goQ acc (i - (k + 1)) (uqB (rest s i)) = R)) (fun u _ _ => s.size + 3 - (intOf u).toNat)
  case atStart => exact ⟨k + 1, [], _, rfl, Nat.le_refl _, Lib.hid (by omega), by go_num, Lib.hid (by simp), Lib.hid ⟨rfl, .inl ⟨rfl, rfl⟩⟩, Lib.hid (Below.refl _ _), Lib.hid (by rw [Nat.sub_self]; exact HR.out)⟩
  case round =>
    obtain ⟨i, acc, v, rfl, hki, hi3, rfl, hacc, hown, hb, hrel⟩ := hrel
    by_cases hlt : i < s.size
    · obtain ⟨x, hx⟩ : ∃ x, s[i].toNat = x := ⟨_, rfl⟩
      have hf := is_at s i x 34 hlt hx
      have t34 : ((34 : UInt8).toNat) = 34 := rfl
      rw [t34] at hf
      have hp := pieceQ_cons s i x hlt hx
      have hx256 : x < 256 := by rw [← hx]; exact UInt8.toNat_lt _
      clear t34
      by_cases h34 : x = 34
      · have e34 : (((x : Nat) : Int) == 34) = true := by simp only [beq_iff_eq]; omega
        rw [decide_eq_true h34] at hf
        have HV : Hid (R = some (acc, i - (k + 1) + 1)) := Lib.hid (by rw [← hrel.out, uqB_end _ hf]; simp [goQ])
        have hcv := str_conv hown.out
        clear h34 hf hp hrel hi hz0 hz1 hz2
        go_wp2_with fail
        go_ret2
        rw [HV.out]
        exact ⟨ret_si rfl (by omega), hb.out⟩
      · have e34 : (((x : Nat) : Int) == 34) = false := by simp only [beq_eq_false_iff_ne, ne_eq]; omega
        rw [decide_eq_false h34] at hf
        by_cases hlow : x < 32 ∨ x = 127
        · have hpn : pieceQ (rest s i) = none := by rw [hp, if_neg (by omega), if_pos hlow]
          have HV : Hid (R = none) := Lib.hid (by rw [← hrel.out, uqB_bad _ hf hpn]; rfl)
          clear hp hpn hf hrel hi hz0 hz1 hz2 h34
          rcases hlow with hlow | hlow
          · have e32 : decide (((x : Nat) : Int) < 32) = true := by rw [decide_eq_true_eq]; omega
            go_wp2_with fail
            go_ret2
            rw [HV.out]
            exact ⟨rfl, hb.out⟩
          · have e32 : decide (((x : Nat) : Int) < 32) = false := by rw [decide_eq_false_iff_not]; omega
            have e127 : (((x : Nat) : Int) == 127) = true := by simp only [beq_iff_eq]; omega
            clear hlow
            go_wp2_with fail
            go_ret2
            rw [HV.out]
            exact ⟨rfl, hb.out⟩
        · have e32 : decide (((x : Nat) : Int) < 32) = false := by rw [decide_eq_false_iff_not]; omega
          have e127 : (((x : Nat) : Int) == 127) = false := by simp only [beq_eq_false_iff_ne, ne_eq]; omega

          by_cases h92 : x = 92
          · rw [if_pos h92] at hp
            have e92 : (((x : Nat) : Int) == 92) = true := by simp only [beq_iff_eq]; omega
            have n92 : (((x : Nat) : Int) != 92) = false := by simp only [bne_eq_false_iff_eq]; omega
            by_cases hj : i + 1 < s.size
            · obtain ⟨y, hy⟩ : ∃ y, s[i + 1].toNat = y := ⟨_, rfl⟩
              have hq := escQ_cons s (i + 1) y hj hy
              rw [hq] at hp
              have hy256 : y < 256 := by rw [← hy]; exact UInt8.toNat_lt _
              have i110 : Hid (∀ w, Calls Tryz.prog 22 #[.string s, .int .i64 ((i : Int) + 1), .int .u8 110] w fun e w' => e = .returned (.bool (decide (y = 110))) ∧ w = w') := Lib.hid (fun w => by have := HIS.out (i + 1) 110 w; rw [is_at s (i + 1) y 110 hj hy] at this; exact this)
              have i116 : Hid (∀ w, Calls Tryz.prog 22 #[.string s, .int .i64 ((i : Int) + 1), .int .u8 116] w fun e w' => e = .returned (.bool (decide (y = 116))) ∧ w = w') := Lib.hid (fun w => by have := HIS.out (i + 1) 116 w; rw [is_at s (i + 1) y 116 hj hy] at this; exact this)
              have i34 : Hid (∀ w, Calls Tryz.prog 22 #[.string s, .int .i64 ((i : Int) + 1), .int .u8 34] w fun e w' => e = .returned (.bool (decide (y = 34))) ∧ w = w') := Lib.hid (fun w => by have := HIS.out (i + 1) 34 w; rw [is_at s (i + 1) y 34 hj hy] at this; exact this)
              have i92 : Hid (∀ w, Calls Tryz.prog 22 #[.string s, .int .i64 ((i : Int) + 1), .int .u8 92] w fun e w' => e = .returned (.bool (decide (y = 92))) ∧ w = w') := Lib.hid (fun w => by have := HIS.out (i + 1) 92 w; rw [is_at s (i + 1) y 92 hj hy] at this; exact this)
              have i120 : Hid (∀ w, Calls Tryz.prog 22 #[.string s, .int .i64 ((i : Int) + 1), .int .u8 120] w fun e w' => e = .returned (.bool (decide (y = 120))) ∧ w = w') := Lib.hid (fun w => by have := HIS.out (i + 1) 120 w; rw [is_at s (i + 1) y 120 hj hy] at this; exact this)
              clear hq
              by_cases g1 : y = 110
              · have g1b := g1
                have hpn : pieceQ (rest s i) = some (10, 2) := by rw [hp, if_pos g1]
                have hlen := (pieceQ_len hpn).2
                rw [rest_len] at hlen
                have HG : Hid (goQ (acc ++ [10]) (i + 2 - (k + 1)) (uqB (rest s (i + 2))) = R) := Lib.hid (by rw [← hrel.out, goQ_step _ _ _ hf _ 2 hpn, rest_drop, show i - (k + 1) + 2 = i + 2 - (k + 1) by omega])
                have HAC := Lib.hid (show acc.length ≤ 1100000 by have := hacc.out; omega)
                have HACC : Hid ((acc ++ [10]).length ≤ i + 2) := Lib.hid (by rw [List.length_append]; have := hacc.out; simp; omega)
                have HWS := Lib.hid hb.out.size
                have HZ : Hid ((10 : Int) = ((10 : UInt8).toNat : Int)) := Lib.hid (by rfl)
                rw [decide_eq_true (g1)] at i110
                clear hp hpn hf hrel hacc h34 g1 g1b hlow h92
                go_wp2_with fail
                refine (i110.out _).mono ?_
                rintro e w' ⟨rfl, rfl⟩
                go_wp2_with (at_builtin; refine wpList_append_own2 _ rfl _ _ 50 rfl w.heap.size 5 i0 (.int .u8 0) 1 1 Tryz.underlying50 hi hz0 hz1 hz2 rfl (by decide) _ _ _ rfl (World.ownsRow.alloc hown.out _) ⟨wr.heap.size, 0, none⟩ 1 1 [.int .u8 (10)] rfl rfl (new_cell _ _ _) ?c2 ?c3 ?c4 ?c5 ?_)
                case c2 => simp [Value.oneCell']
                case c3 => have := HAC.out; unfold maxLen; omega
                case c4 => have := HAC.out; omega
                case c5 => rw [World.size_alloc]; have := HWS.out; omega
                intro v2 w2 hown2 hgr2 _
                have HO2 : Hid (w2.ownsRow w.heap.size 5 1 v2 (acc ++ [10]).length (bcells (acc ++ [10]))) := Lib.hid (by
                  rw [bcells_append, List.length_append, HZ.out] at *
                  exact hown2)
                have HB2 := Lib.hid (below_append hb.out hown.out hgr2)
                clear hown2 hgr2
                go_wp2_with fail
                go_roundw
                case rel => exact ⟨i + 2, acc ++ [10], _, rfl, by omega, Lib.hid (by omega), by go_num, HACC, HO2, HB2, HG⟩
                case measure => simp [intOf]; omega
              · by_cases g2 : y = 116
                · have g2b := g2
                  have hpn : pieceQ (rest s i) = some (9, 2) := by rw [hp, if_neg g1, if_pos g2]
                  have hlen := (pieceQ_len hpn).2
                  rw [rest_len] at hlen
                  have HG : Hid (goQ (acc ++ [9]) (i + 2 - (k + 1)) (uqB (rest s (i + 2))) = R) := Lib.hid (by rw [← hrel.out, goQ_step _ _ _ hf _ 2 hpn, rest_drop, show i - (k + 1) + 2 = i + 2 - (k + 1) by omega])
                  have HAC := Lib.hid (show acc.length ≤ 1100000 by have := hacc.out; omega)
                  have HACC : Hid ((acc ++ [9]).length ≤ i + 2) := Lib.hid (by rw [List.length_append]; have := hacc.out; simp; omega)
                  have HWS := Lib.hid hb.out.size
                  have HZ : Hid ((9 : Int) = ((9 : UInt8).toNat : Int)) := Lib.hid (by rfl)
                  rw [decide_eq_false (g1)] at i110
                  rw [decide_eq_true (g2)] at i116
                  clear hp hpn hf hrel hacc h34 g1 g2 g2b hlow h92
                  go_wp2_with fail
                  refine (i110.out _).mono ?_
                  rintro e w' ⟨rfl, rfl⟩
                  go_wp2_with fail
                  refine (i116.out _).mono ?_
                  rintro e w' ⟨rfl, rfl⟩
                  go_wp2_with (at_builtin; refine wpList_append_own2 _ rfl _ _ 50 rfl w.heap.size 5 i0 (.int .u8 0) 1 1 Tryz.underlying50 hi hz0 hz1 hz2 rfl (by decide) _ _ _ rfl (World.ownsRow.alloc hown.out _) ⟨wr.heap.size, 0, none⟩ 1 1 [.int .u8 (9)] rfl rfl (new_cell _ _ _) ?c2 ?c3 ?c4 ?c5 ?_)
                  case c2 => simp [Value.oneCell']
                  case c3 => have := HAC.out; unfold maxLen; omega
                  case c4 => have := HAC.out; omega
                  case c5 => rw [World.size_alloc]; have := HWS.out; omega
                  intro v2 w2 hown2 hgr2 _
                  have HO2 : Hid (w2.ownsRow w.heap.size 5 1 v2 (acc ++ [9]).length (bcells (acc ++ [9]))) := Lib.hid (by
                    rw [bcells_append, List.length_append, HZ.out] at *
                    exact hown2)
                  have HB2 := Lib.hid (below_append hb.out hown.out hgr2)
                  clear hown2 hgr2
                  go_wp2_with fail
                  go_roundw
                  case rel => exact ⟨i + 2, acc ++ [9], _, rfl, by omega, Lib.hid (by omega), by go_num, HACC, HO2, HB2, HG⟩
                  case measure => simp [intOf]; omega
                · by_cases g3 : y = 34
                  · have g3b := g3
                    have hpn : pieceQ (rest s i) = some (s[i + 1], 2) := by rw [hp, if_neg g1, if_neg g2, if_pos (.inr g3)]
                    have hlen := (pieceQ_len hpn).2
                    rw [rest_len] at hlen
                    have HG : Hid (goQ (acc ++ [s[i + 1]]) (i + 2 - (k + 1)) (uqB (rest s (i + 2))) = R) := Lib.hid (by rw [← hrel.out, goQ_step _ _ _ hf _ 2 hpn, rest_drop, show i - (k + 1) + 2 = i + 2 - (k + 1) by omega])
                    have HAC := Lib.hid (show acc.length ≤ 1100000 by have := hacc.out; omega)
                    have HACC : Hid ((acc ++ [s[i + 1]]).length ≤ i + 2) := Lib.hid (by rw [List.length_append]; have := hacc.out; simp; omega)
                    have HWS := Lib.hid hb.out.size
                    have HZ : Hid (((y : Int) : Int) = ((s[i + 1] : UInt8).toNat : Int)) := Lib.hid (by rw [← hy])
                    rw [decide_eq_false (g1)] at i110
                    rw [decide_eq_false (g2)] at i116
                    rw [decide_eq_true (g3)] at i34
                    clear hp hpn hf hrel hacc h34 g1 g2 g3 g3b hlow h92
                    go_wp2_with fail
                    refine (i110.out _).mono ?_
                    rintro e w' ⟨rfl, rfl⟩
                    go_wp2_with fail
                    refine (i116.out _).mono ?_
                    rintro e w' ⟨rfl, rfl⟩
                    go_wp2_with fail
                    refine (i34.out _).mono ?_
                    rintro e w' ⟨rfl, rfl⟩
                    go_wp2_with (at_builtin; refine wpList_append_own2 _ rfl _ _ 50 rfl w.heap.size 5 i0 (.int .u8 0) 1 1 Tryz.underlying50 hi hz0 hz1 hz2 rfl (by decide) _ _ _ rfl (World.ownsRow.alloc hown.out _) ⟨wr.heap.size, 0, none⟩ 1 1 [.int .u8 ((y : Int))] rfl rfl (new_cell _ _ _) ?c2 ?c3 ?c4 ?c5 ?_)
                    case c2 => simp [Value.oneCell']
                    case c3 => have := HAC.out; unfold maxLen; omega
                    case c4 => have := HAC.out; omega
                    case c5 => rw [World.size_alloc]; have := HWS.out; omega
                    intro v2 w2 hown2 hgr2 _
                    have HO2 : Hid (w2.ownsRow w.heap.size 5 1 v2 (acc ++ [s[i + 1]]).length (bcells (acc ++ [s[i + 1]]))) := Lib.hid (by
                      rw [bcells_append, List.length_append, HZ.out] at *
                      exact hown2)
                    have HB2 := Lib.hid (below_append hb.out hown.out hgr2)
                    clear hown2 hgr2
                    go_wp2_with fail
                    go_roundw
                    case rel => exact ⟨i + 2, acc ++ [s[i + 1]], _, rfl, by omega, Lib.hid (by omega), by go_num, HACC, HO2, HB2, HG⟩
                    case measure => simp [intOf]; omega
                  · by_cases g4 : y = 92
                    · have g4b := g4
                      have hpn : pieceQ (rest s i) = some (s[i + 1], 2) := by rw [hp, if_neg g1, if_neg g2, if_pos (.inl g4)]
                      have hlen := (pieceQ_len hpn).2
                      rw [rest_len] at hlen
                      have HG : Hid (goQ (acc ++ [s[i + 1]]) (i + 2 - (k + 1)) (uqB (rest s (i + 2))) = R) := Lib.hid (by rw [← hrel.out, goQ_step _ _ _ hf _ 2 hpn, rest_drop, show i - (k + 1) + 2 = i + 2 - (k + 1) by omega])
                      have HAC := Lib.hid (show acc.length ≤ 1100000 by have := hacc.out; omega)
                      have HACC : Hid ((acc ++ [s[i + 1]]).length ≤ i + 2) := Lib.hid (by rw [List.length_append]; have := hacc.out; simp; omega)
                      have HWS := Lib.hid hb.out.size
                      have HZ : Hid (((y : Int) : Int) = ((s[i + 1] : UInt8).toNat : Int)) := Lib.hid (by rw [← hy])
                      rw [decide_eq_false (g1)] at i110
                      rw [decide_eq_false (g2)] at i116
                      rw [decide_eq_false (g3)] at i34
                      rw [decide_eq_true (g4)] at i92
                      clear hp hpn hf hrel hacc h34 g1 g2 g3 g4 g4b hlow h92
                      go_wp2_with fail
                      refine (i110.out _).mono ?_
                      rintro e w' ⟨rfl, rfl⟩
                      go_wp2_with fail
                      refine (i116.out _).mono ?_
                      rintro e w' ⟨rfl, rfl⟩
                      go_wp2_with fail
                      refine (i34.out _).mono ?_
                      rintro e w' ⟨rfl, rfl⟩
                      go_wp2_with fail
                      refine (i92.out _).mono ?_
                      rintro e w' ⟨rfl, rfl⟩
                      go_wp2_with (at_builtin; refine wpList_append_own2 _ rfl _ _ 50 rfl w.heap.size 5 i0 (.int .u8 0) 1 1 Tryz.underlying50 hi hz0 hz1 hz2 rfl (by decide) _ _ _ rfl (World.ownsRow.alloc hown.out _) ⟨wr.heap.size, 0, none⟩ 1 1 [.int .u8 ((y : Int))] rfl rfl (new_cell _ _ _) ?c2 ?c3 ?c4 ?c5 ?_)
                      case c2 => simp [Value.oneCell']
                      case c3 => have := HAC.out; unfold maxLen; omega
                      case c4 => have := HAC.out; omega
                      case c5 => rw [World.size_alloc]; have := HWS.out; omega
                      intro v2 w2 hown2 hgr2 _
                      have HO2 : Hid (w2.ownsRow w.heap.size 5 1 v2 (acc ++ [s[i + 1]]).length (bcells (acc ++ [s[i + 1]]))) := Lib.hid (by
                        rw [bcells_append, List.length_append, HZ.out] at *
                        exact hown2)
                      have HB2 := Lib.hid (below_append hb.out hown.out hgr2)
                      clear hown2 hgr2
                      go_wp2_with fail
                      go_roundw
                      case rel => exact ⟨i + 2, acc ++ [s[i + 1]], _, rfl, by omega, Lib.hid (by omega), by go_num, HACC, HO2, HB2, HG⟩
                      case measure => simp [intOf]; omega
                    · have HA : Hid (∀ w, Calls Tryz.prog 65 #[.string s, .int .i64 ((i : Int) + 2)] w fun e w' => e = .returned (.int .i64 (hexZ (rest s (i + 2)))) ∧ w = w') := Lib.hid (fun w => HHX.out (i + 2) w)
                      have HBB : Hid (∀ w, Calls Tryz.prog 65 #[.string s, .int .i64 ((i : Int) + 3)] w fun e w' => e = .returned (.int .i64 (hexZ (rest s (i + 3)))) ∧ w = w') := Lib.hid (fun w => HHX.out (i + 3) w)
                      have hxz := hexP_hexZ s (i + 2)
                      have hz1a := hexZ_lt (rest s (i + 2))
                      have hz1b := hexZ_lt (rest s (i + 3))
                      have he3 : i + 2 + 1 = i + 3 := rfl
                      rw [he3] at hxz
                      rw [if_neg g1, if_neg g2, if_neg (by omega)] at hp
                      generalize hexZ (rest s (i + 2)) = a at *
                      generalize hexZ (rest s (i + 3)) = b at *
                      clear he3
                      rw [decide_eq_false g1] at i110
                      rw [decide_eq_false g2] at i116
                      rw [decide_eq_false g3] at i34
                      rw [decide_eq_false g4] at i92
                      by_cases g5 : y = 120
                      · rw [if_pos g5, hxz] at hp
                        rw [decide_eq_true g5] at i120
                        by_cases ga : a < 0
                        · have HV : Hid (R = none) := Lib.hid (by rw [← hrel.out, uqB_bad _ hf (by rw [hp, if_pos (.inl ga)])]; rfl)
                          have da : decide (0 ≤ a) = false := by rw [decide_eq_false_iff_not]; omega
                          clear hp hxz hf hrel hi hz0 hz1 hz2 h34 g1 g2 g3 g4 g5 hlow h92
                          go_wp2_with fail
                          refine (i110.out _).mono ?_
                          rintro e w' ⟨rfl, rfl⟩
                          go_wp2_with fail
                          refine (i116.out _).mono ?_
                          rintro e w' ⟨rfl, rfl⟩
                          go_wp2_with fail
                          refine (i34.out _).mono ?_
                          rintro e w' ⟨rfl, rfl⟩
                          go_wp2_with fail
                          refine (i92.out _).mono ?_
                          rintro e w' ⟨rfl, rfl⟩
                          go_wp2_with fail
                          refine (i120.out _).mono ?_
                          rintro e w' ⟨rfl, rfl⟩
                          go_wp2_with fail
                          refine (HA.out _).mono ?_
                          rintro e w' ⟨rfl, rfl⟩
                          go_wp2_with fail
                          go_ret2
                          rw [HV.out]
                          exact ⟨rfl, hb.out⟩
                        · have da : decide (0 ≤ a) = true := by rw [decide_eq_true_eq]; omega
                          by_cases gb : b < 0
                          · have HV : Hid (R = none) := Lib.hid (by rw [← hrel.out, uqB_bad _ hf (by rw [hp, if_pos (.inr gb)])]; rfl)
                            have db : decide (0 ≤ b) = false := by rw [decide_eq_false_iff_not]; omega
                            clear hp hxz hf hrel hi hz0 hz1 hz2 h34 g1 g2 g3 g4 g5 hlow h92
                            go_wp2_with fail
                            refine (i110.out _).mono ?_
                            rintro e w' ⟨rfl, rfl⟩
                            go_wp2_with fail
                            refine (i116.out _).mono ?_
                            rintro e w' ⟨rfl, rfl⟩
                            go_wp2_with fail
                            refine (i34.out _).mono ?_
                            rintro e w' ⟨rfl, rfl⟩
                            go_wp2_with fail
                            refine (i92.out _).mono ?_
                            rintro e w' ⟨rfl, rfl⟩
                            go_wp2_with fail
                            refine (i120.out _).mono ?_
                            rintro e w' ⟨rfl, rfl⟩
                            go_wp2_with fail
                            refine (HA.out _).mono ?_
                            rintro e w' ⟨rfl, rfl⟩
                            go_wp2_with fail
                            refine (HBB.out _).mono ?_
                            rintro e w' ⟨rfl, rfl⟩
                            go_wp2_with fail
                            go_ret2
                            rw [HV.out]
                            exact ⟨rfl, hb.out⟩
                          · have db : decide (0 ≤ b) = true := by rw [decide_eq_true_eq]; omega
                            rw [if_neg (by omega)] at hp
                            have hab : 0 ≤ 16 * a + b ∧ 16 * a + b < 256 := by omega
                            have hmod : (16 * a + b) % 256 = 16 * a + b := by omega
                            have hpn : pieceQ (rest s i) = some (UInt8.ofNat (16 * a.toNat + b.toNat), 4) := by exact hp
                            have hlen := (pieceQ_len hpn).2
                            rw [rest_len] at hlen
                            have HG : Hid (goQ (acc ++ [UInt8.ofNat (16 * a.toNat + b.toNat)]) (i + 4 - (k + 1)) (uqB (rest s (i + 4))) = R) := Lib.hid (by rw [← hrel.out, goQ_step _ _ _ hf _ 4 hpn, rest_drop, show i - (k + 1) + 4 = i + 4 - (k + 1) by omega])
                            have HAC := Lib.hid (show acc.length ≤ 1100000 by have := hacc.out; omega)
                            have HACC : Hid ((acc ++ [UInt8.ofNat (16 * a.toNat + b.toNat)]).length ≤ i + 4) := Lib.hid (by rw [List.length_append]; have := hacc.out; simp; omega)
                            have HWS := Lib.hid hb.out.size
                            have HZ : Hid ((16 * a + b : Int) = ((UInt8.ofNat (16 * a.toNat + b.toNat) : UInt8).toNat : Int)) := Lib.hid (by rw [UInt8.toNat_ofNat']; omega)
                            clear hp hpn hf hrel hacc h34 hxz g1 g2 g3 g4 g5 hlow h92 hmod
                            go_wp2_with fail
                            refine (i110.out _).mono ?_
                            rintro e w' ⟨rfl, rfl⟩
                            go_wp2_with fail
                            refine (i116.out _).mono ?_
                            rintro e w' ⟨rfl, rfl⟩
                            go_wp2_with fail
                            refine (i34.out _).mono ?_
                            rintro e w' ⟨rfl, rfl⟩
                            go_wp2_with fail
                            refine (i92.out _).mono ?_
                            rintro e w' ⟨rfl, rfl⟩
                            go_wp2_with fail
                            refine (i120.out _).mono ?_
                            rintro e w' ⟨rfl, rfl⟩
                            go_wp2_with fail
                            refine (HA.out _).mono ?_
                            rintro e w' ⟨rfl, rfl⟩
                            go_wp2_with fail
                            refine (HBB.out _).mono ?_
                            rintro e w' ⟨rfl, rfl⟩
                            go_wp2_with fail
                            refine (HA.out _).mono ?_
                            rintro e w' ⟨rfl, rfl⟩
                            go_wp2_with fail
                            refine (HBB.out _).mono ?_
                            rintro e w' ⟨rfl, rfl⟩
                            go_wp2_with (at_builtin; refine wpList_append_own2 _ rfl _ _ 50 rfl w.heap.size 5 i0 (.int .u8 0) 1 1 Tryz.underlying50 hi hz0 hz1 hz2 rfl (by decide) _ _ _ rfl (World.ownsRow.alloc hown.out _) ⟨wr.heap.size, 0, none⟩ 1 1 [.int .u8 (16 * a + b)] rfl rfl (new_cell _ _ _) ?c2 ?c3 ?c4 ?c5 ?_)
                            case c2 => simp [Value.oneCell']
                            case c3 => have := HAC.out; unfold maxLen; omega
                            case c4 => have := HAC.out; omega
                            case c5 => rw [World.size_alloc]; have := HWS.out; omega
                            intro v2 w2 hown2 hgr2 _
                            have HO2 : Hid (w2.ownsRow w.heap.size 5 1 v2 (acc ++ [UInt8.ofNat (16 * a.toNat + b.toNat)]).length (bcells (acc ++ [UInt8.ofNat (16 * a.toNat + b.toNat)]))) := Lib.hid (by
                              rw [bcells_append, List.length_append, HZ.out] at *
                              exact hown2)
                            have HB2 := Lib.hid (below_append hb.out hown.out hgr2)
                            clear hown2 hgr2
                            go_wp2_with fail
                            go_roundw
                            case rel => exact ⟨i + 4, acc ++ [UInt8.ofNat (16 * a.toNat + b.toNat)], _, rfl, by omega, Lib.hid (by omega), by go_num, HACC, HO2, HB2, HG⟩
                            case measure => simp [intOf]; omega
                      · have HV : Hid (R = none) := Lib.hid (by rw [← hrel.out, uqB_bad _ hf (by rw [hp, if_neg g5])]; rfl)
                        rw [decide_eq_false g5] at i120
                        clear hp hxz hf hrel hi hz0 hz1 hz2 h34 g1 g2 g3 g4 g5 hlow h92
                        go_wp2_with fail
                        refine (i110.out _).mono ?_
                        rintro e w' ⟨rfl, rfl⟩
                        go_wp2_with fail
                        refine (i116.out _).mono ?_
                        rintro e w' ⟨rfl, rfl⟩
                        go_wp2_with fail
                        refine (i34.out _).mono ?_
                        rintro e w' ⟨rfl, rfl⟩
                        go_wp2_with fail
                        refine (i92.out _).mono ?_
                        rintro e w' ⟨rfl, rfl⟩
                        go_wp2_with fail
                        refine (i120.out _).mono ?_
                        rintro e w' ⟨rfl, rfl⟩
                        go_wp2_with fail
                        go_ret2
                        rw [HV.out]
                        exact ⟨rfl, hb.out⟩
            · have hq : escQ (rest s (i + 1)) = none := by rw [rest_end s (i + 1) hj]; rfl
              have HV : Hid (R = none) := Lib.hid (by rw [← hrel.out, uqB_bad _ hf (by rw [hp, hq])]; rfl)
              have i110 : Hid (∀ w, Calls Tryz.prog 22 #[.string s, .int .i64 ((i : Int) + 1), .int .u8 110] w fun e w' => e = .returned (.bool false) ∧ w = w') := Lib.hid (fun w => by have := HIS.out (i + 1) 110 w; rw [rest_end s (i + 1) hj] at this; exact this)
              have i116 : Hid (∀ w, Calls Tryz.prog 22 #[.string s, .int .i64 ((i : Int) + 1), .int .u8 116] w fun e w' => e = .returned (.bool false) ∧ w = w') := Lib.hid (fun w => by have := HIS.out (i + 1) 116 w; rw [rest_end s (i + 1) hj] at this; exact this)
              have i34 : Hid (∀ w, Calls Tryz.prog 22 #[.string s, .int .i64 ((i : Int) + 1), .int .u8 34] w fun e w' => e = .returned (.bool false) ∧ w = w') := Lib.hid (fun w => by have := HIS.out (i + 1) 34 w; rw [rest_end s (i + 1) hj] at this; exact this)
              have i92 : Hid (∀ w, Calls Tryz.prog 22 #[.string s, .int .i64 ((i : Int) + 1), .int .u8 92] w fun e w' => e = .returned (.bool false) ∧ w = w') := Lib.hid (fun w => by have := HIS.out (i + 1) 92 w; rw [rest_end s (i + 1) hj] at this; exact this)
              have i120 : Hid (∀ w, Calls Tryz.prog 22 #[.string s, .int .i64 ((i : Int) + 1), .int .u8 120] w fun e w' => e = .returned (.bool false) ∧ w = w') := Lib.hid (fun w => by have := HIS.out (i + 1) 120 w; rw [rest_end s (i + 1) hj] at this; exact this)
              clear hp hq hf hrel hi hz0 hz1 hz2 h34 hlow h92
              go_wp2_with fail
              refine (i110.out _).mono ?_
              rintro e w' ⟨rfl, rfl⟩
              go_wp2_with fail
              refine (i116.out _).mono ?_
              rintro e w' ⟨rfl, rfl⟩
              go_wp2_with fail
              refine (i34.out _).mono ?_
              rintro e w' ⟨rfl, rfl⟩
              go_wp2_with fail
              refine (i92.out _).mono ?_
              rintro e w' ⟨rfl, rfl⟩
              go_wp2_with fail
              refine (i120.out _).mono ?_
              rintro e w' ⟨rfl, rfl⟩
              go_wp2_with fail
              go_ret2
              rw [HV.out]
              exact ⟨rfl, hb.out⟩
          · rw [if_neg h92, if_neg hlow] at hp
            have e92 : (((x : Nat) : Int) == 92) = false := by simp only [beq_eq_false_iff_ne, ne_eq]; omega
            have n92 : (((x : Nat) : Int) != 92) = true := by simp only [bne_iff_ne, ne_eq]; omega
            have hpn : pieceQ (rest s i) = some (s[i], 1) := by exact hp
            have hlen := (pieceQ_len hpn).2
            rw [rest_len] at hlen
            have HG : Hid (goQ (acc ++ [s[i]]) (i + 1 - (k + 1)) (uqB (rest s (i + 1))) = R) := Lib.hid (by rw [← hrel.out, goQ_step _ _ _ hf _ 1 hpn, rest_drop, show i - (k + 1) + 1 = i + 1 - (k + 1) by omega])
            have HAC := Lib.hid (show acc.length ≤ 1100000 by have := hacc.out; omega)
            have HACC : Hid ((acc ++ [s[i]]).length ≤ i + 1) := Lib.hid (by rw [List.length_append]; have := hacc.out; simp; omega)
            have HWS := Lib.hid hb.out.size
            have HZ : Hid (((x : Int) : Int) = ((s[i] : UInt8).toNat : Int)) := Lib.hid (by rw [← hx])
            clear hp hpn hf hrel hacc h34 h92 hlow
            skip
            go_wp2_with (at_builtin; refine wpList_append_own2 _ rfl _ _ 50 rfl w.heap.size 5 i0 (.int .u8 0) 1 1 Tryz.underlying50 hi hz0 hz1 hz2 rfl (by decide) _ _ _ rfl (World.ownsRow.alloc hown.out _) ⟨wr.heap.size, 0, none⟩ 1 1 [.int .u8 ((x : Int))] rfl rfl (new_cell _ _ _) ?c2 ?c3 ?c4 ?c5 ?_)
            case c2 => simp [Value.oneCell']
            case c3 => have := HAC.out; unfold maxLen; omega
            case c4 => have := HAC.out; omega
            case c5 => rw [World.size_alloc]; have := HWS.out; omega
            intro v2 w2 hown2 hgr2 _
            have HO2 : Hid (w2.ownsRow w.heap.size 5 1 v2 (acc ++ [s[i]]).length (bcells (acc ++ [s[i]]))) := Lib.hid (by
              rw [bcells_append, List.length_append, HZ.out] at *
              exact hown2)
            have HB2 := Lib.hid (below_append hb.out hown.out hgr2)
            clear hown2 hgr2
            go_wp2_with fail
            go_roundw
            case rel => exact ⟨i + 1, acc ++ [s[i]], _, rfl, by omega, Lib.hid (by omega), by go_num, HACC, HO2, HB2, HG⟩
            case measure => simp [intOf]; omega
    · have HV : Hid (R = none) := Lib.hid (by rw [← hrel.out, rest_end s i hlt]; rfl)
      clear hrel hi hz0 hz1 hz2
      go_wp2_with fail
      go_ret2
      rw [HV.out]
      exact ⟨rfl, hb.out⟩
end Go.Proofs.YtpijgeogopopbaaGreatDoor
