/-
  lexer's pastGap AT EVERY TEXT of at most 1000000 bytes: where a gap ends, and what becomes of the tokens so far; nothing ahead of the tokens' variable turns. Conditions: the text's length; how many tokens there are.
-/
import Derived.Test.YtcbfohokigamfaaGreatDoorLGap
namespace Go.Proofs.YtcbfohokigamfaaGreatDoor
open Go.RowKit

theorem gap_nl (s : ByteArray) (i : Nat) (h : i < s.size) (hx : s[i].toNat = 10) : gap (rest s i) = ((gap (rest s (i + 1))).1 + 1, true) := by
  rw [rest_cons s i h]
  unfold gap
  rw [gapB, if_pos hx]
theorem pre_com (s : ByteArray) (i : Nat) (h : i < s.size) : Lib.hasPrefix (rest s i) [47, 47] = (fst (is1 47) (rest s i) && fst (is1 47) (rest s (i + 1))) := by
  rw [rest_cons s i h]
  cases hr : rest s (i + 1) with
  | nil => simp [Lib.hasPrefix, fst, List.isPrefixOf]
  | cons d t =>
    unfold Lib.hasPrefix fst is1
    simp only [List.isPrefixOf_cons_cons, List.isPrefixOf_nil_left, Bool.and_true, List.contains_cons, List.contains_nil, Bool.or_false]
    rw [BEq.comm (a := s[i]), BEq.comm (a := d)]
theorem gap_slash (s : ByteArray) (i : Nat) (h : i < s.size) (hx : s[i].toNat ≠ 10) (hp : Lib.hasPrefix (rest s i) [47, 47] = true) : gap (rest s i) = ((gap (rest s (i + run notNl (rest s i)))).1 + run notNl (rest s i), (gap (rest s (i + run notNl (rest s i)))).2) ∧ 1 ≤ run notNl (rest s i) := by
  rw [pre_com s i h] at hp
  have hcom := gap_com (rest s i)
  rw [rest_drop] at hcom
  have h1 : gap (rest s i) = gapB true (rest s i) := by
    rw [rest_cons s i h] at hp ⊢
    unfold gap
    rw [gapB, gapB, if_neg hx, if_neg (by simp), if_pos hp, if_neg hx, if_pos rfl]
  refine ⟨by rw [h1, hcom]; rfl, ?_⟩
  rw [rest_cons s i h, run, if_pos (by
    unfold notNl
    have : (s[i] == 10) = false := by
      rw [Bool.eq_false_iff]
      intro e
      apply hx
      rw [beq_iff_eq] at e
      rw [e]; rfl
    rw [this]; rfl)]
  omega
theorem gap_blank (s : ByteArray) (i : Nat) (h : i < s.size) (hx : s[i].toNat ≠ 10) (hp : Lib.hasPrefix (rest s i) [47, 47] = false) (hb : isBk s[i] = true) : gap (rest s i) = ((gap (rest s (i + 1))).1 + 1, (gap (rest s (i + 1))).2) := by
  rw [pre_com s i h] at hp
  rw [rest_cons s i h] at hp ⊢
  unfold gap
  rw [gapB, if_neg hx, if_neg (by simp), if_neg (by rw [hp]; simp), if_pos hb]
theorem gap_stop (s : ByteArray) (i : Nat) (h : i < s.size) (hx : s[i].toNat ≠ 10) (hp : Lib.hasPrefix (rest s i) [47, 47] = false) (hb : isBk s[i] = false) : gap (rest s i) = (0, false) := by
  rw [pre_com s i h] at hp
  rw [rest_cons s i h] at hp ⊢
  unfold gap
  rw [gapB, if_neg hx, if_neg (by simp), if_neg (by rw [hp]; simp), if_neg (by rw [hb]; simp)]
theorem ends_len (acc : List Tok) : (ends acc).length ≤ acc.length + 1 := by
  unfold ends
  split
  · omega
  · split
    · rw [List.length_append]; simp
    · omega
theorem endIf_len (b : Bool) (acc : List Tok) : (endIf b acc).length ≤ acc.length + 1 := by
  unfold endIf
  split
  · exact ends_len acc
  · omega
theorem ends_endIf (b : Bool) (acc : List Tok) : ends (endIf b acc) = endIf true acc := by
  cases b with
  | false => rfl
  | true => exact ends_ends acc
theorem blank_any (c : UInt8) (w : World) : Calls Tryz.prog 99 #[.string ⟨#[32, 9, 13]⟩, .int .u8 (c.toNat : Int)] w fun e w' => e = .returned (.int .i64 (Lib.indexByte [32, 9, 13] c)) ∧ w = w' := by
  have := Tryz.strings_IndexByte ⟨#[32, 9, 13]⟩ (c.toNat : Int) w
  rw [byte_back] at this
  exact this.mono fun e w' ⟨h1, h2⟩ => ⟨h1, h2.symm⟩
set_option maxRecDepth 100000 in
set_option maxHeartbeats 1000000 in
theorem pastGap_any (B L : Nat) (s : ByteArray) (k : Nat) (hk : k ≤ s.size) (hs : s.size ≤ 1000000) (acc : List Tok) (W : World) (h : LSt B W L acc) (hl : acc.length ≤ 2900000) : Calls Tryz.prog 70 #[.string s, .int .i64 k, .func (.func 68) #[] #[.pointer (some ⟨L, 0, none⟩)]] W fun e W' => e = .returned (.int .i64 ((k + (gap (rest s k)).1 : Nat) : Int)) ∧ LSt B W' L (endIf (gap (rest s k)).2 acc) ∧ Below L W W' := by
  have HE := Lib.hid (fun (b : Bool) (W : World) (h : LSt B W L (endIf b acc)) => lineEnds_any B L (endIf b acc) W h (by have := endIf_len b acc; omega))
  have HL := Lib.hid h
  have HT := Lib.hid (fun b => ends_endIf b acc)
  clear h hl
  go_enter Tryz.func70, Tryz.ntmps70
  go_wp2_with fail
  go_loopw [1] (fun u wr => ∃ (i : Nat) (b0 : Bool), i ≤ s.size ∧ u = .int .i64 i ∧ Hid (LSt B wr L (endIf b0 acc)) ∧ Hid (Below L W wr) ∧ Hid (i + (gap (rest s i)).1 = k + (gap (rest s k)).1 ∧ (b0 || (gap (rest s i)).2) = (gap (rest s k)).2)) (fun u _ => s.size - (intOf u).toNat)
  case atStart => exact ⟨k, false, hk, rfl, HL, Lib.hid (Below.refl _ _), Lib.hid ⟨rfl, by simp⟩⟩
  case round =>
    obtain ⟨i, b0, hi, rfl, hst, hb, hrel⟩ := hrel
    by_cases hlt : i < s.size
    · obtain ⟨x, hx⟩ : ∃ x, s[i].toNat = x := ⟨_, rfl⟩
      by_cases h10 : x = 10
      · have q1 : (((x : Nat) : Int) == 10) = true := by simp only [beq_iff_eq]; omega
        have HG := Lib.hid (gap_nl s i hlt (by rw [hx]; exact h10))
        have HR : Hid (i + 1 + (gap (rest s (i + 1))).1 = k + (gap (rest s k)).1 ∧ (true || (gap (rest s (i + 1))).2) = (gap (rest s k)).2) := Lib.hid (by
          have := hrel.out
          rw [HG.out] at this
          refine ⟨by rw [← this.1]; simp only; omega, ?_⟩
          rw [← this.2]; simp)
        clear h10 HG
        go_wp2_with fail
        refine (HE.out b0 _ hst.out).mono ?_
        rintro e w1 ⟨rfl, hst1, hb1⟩
        rw [HT.out b0] at hst1
        have HS1 := Lib.hid hst1
        have HB1 := Lib.hid (hb.out.trans hb1)
        clear hst1 hb1
        go_wp2_with fail
        go_roundw
        case rel => exact ⟨i + 1, true, by omega, by go_num, HS1, HB1, HR⟩
        case measure => simp [intOf]; omega
      · have q1 : (((x : Nat) : Int) == 10) = false := by simp only [beq_eq_false_iff_ne, ne_eq]; omega
        have hx10 : s[i].toNat ≠ 10 := by rw [hx]; exact h10
        have HP := Lib.hid (fun W => hasPrefix_any s i (Nat.le_of_lt hlt) ⟨#[47, 47]⟩ W)
        cases hp : Lib.hasPrefix (rest s i) [47, 47] with
        | true =>
          have HP2 : Hid (∀ W, Calls Tryz.prog 97 #[.string (s.extract i s.size), .string ⟨#[47, 47]⟩] W fun e w' => e = .returned (.bool true) ∧ W = w') := Lib.hid (fun W => by have := HP.out W; rw [← hp]; exact this)
          obtain ⟨hg1, hg2⟩ := gap_slash s i hlt hx10 hp
          have HC := Lib.hid (fun W => pastComment_any s i (Nat.le_of_lt hlt) hs W)
          have hle := run_le notNl (rest s i)
          rw [rest_len] at hle
          have HG := Lib.hid hg1
          clear hg1 hp HP h10 hx10
          generalize run notNl (rest s i) = n at *
          have HR : Hid (i + n + (gap (rest s (i + n))).1 = k + (gap (rest s k)).1 ∧ (b0 || (gap (rest s (i + n))).2) = (gap (rest s k)).2) := Lib.hid (by
            have := hrel.out
            rw [HG.out] at this
            refine ⟨by rw [← this.1]; simp only; omega, ?_⟩
            rw [← this.2])
          obtain ⟨t, ht⟩ : ∃ t : Nat, t = i + n := ⟨_, rfl⟩
          rw [← ht] at HC HR
          have ht1 : i + 1 ≤ t := by omega
          have ht2 : t ≤ s.size := by omega
          clear ht HG hle hg2
          go_wp2_with fail
          refine (HP2.out _).mono ?_
          rintro e w' ⟨rfl, rfl⟩
          go_wp2_with fail
          refine (HC.out _).mono ?_
          rintro e w' ⟨rfl, rfl⟩
          go_wp2_with fail
          go_roundw
          case rel => exact ⟨t, b0, by omega, by first | rfl | (congr 1; omega), hst, hb, HR⟩
          case measure => simp [intOf]; omega
        | false =>
          have HP2 : Hid (∀ W, Calls Tryz.prog 97 #[.string (s.extract i s.size), .string ⟨#[47, 47]⟩] W fun e w' => e = .returned (.bool false) ∧ W = w') := Lib.hid (fun W => by have := HP.out W; rw [← hp]; exact this)
          have HI := Lib.hid (fun W => blank_any s[i] W)
          rw [hx] at HI
          have hib : decide (0 ≤ Lib.indexByte [32, 9, 13] s[i]) = isBk s[i] := index_has [32, 9, 13] s[i]
          cases hbk : isBk s[i] with
          | true =>
            have HG := Lib.hid (gap_blank s i hlt hx10 hp hbk)
            rw [hbk, decide_eq_true_eq] at hib
            have HR : Hid (i + 1 + (gap (rest s (i + 1))).1 = k + (gap (rest s k)).1 ∧ (b0 || (gap (rest s (i + 1))).2) = (gap (rest s k)).2) := Lib.hid (by
              have := hrel.out
              rw [HG.out] at this
              refine ⟨by rw [← this.1]; simp only; omega, ?_⟩
              rw [← this.2])
            generalize Lib.indexByte [32, 9, 13] s[i] = z at *
            have q2 : decide (z < 0) = false := by rw [decide_eq_false_iff_not]; omega
            clear HG hbk hp HP h10 hx10
            go_wp2_with fail
            refine (HP2.out _).mono ?_
            rintro e w' ⟨rfl, rfl⟩
            go_wp2_with fail
            refine (HI.out _).mono ?_
            rintro e w' ⟨rfl, rfl⟩
            go_wp2_with fail
            go_roundw
            case rel => exact ⟨i + 1, b0, by omega, by go_num, hst, hb, HR⟩
            case measure => simp [intOf]; omega
          | false =>
            have HG := Lib.hid (gap_stop s i hlt hx10 hp hbk)
            rw [hbk, decide_eq_false_iff_not] at hib
            have HR : Hid (i = k + (gap (rest s k)).1 ∧ b0 = (gap (rest s k)).2) := Lib.hid (by
              have := hrel.out
              rw [HG.out] at this
              exact ⟨by rw [← this.1]; simp only; omega, by rw [← this.2]; simp⟩)
            generalize Lib.indexByte [32, 9, 13] s[i] = z at *
            have q2 : decide (z < 0) = true := by rw [decide_eq_true_eq]; omega
            clear HG hbk hp HP h10 hx10
            go_wp2_with fail
            refine (HP2.out _).mono ?_
            rintro e w' ⟨rfl, rfl⟩
            go_wp2_with fail
            refine (HI.out _).mono ?_
            rintro e w' ⟨rfl, rfl⟩
            go_wp2_with fail
            go_ret
            exact ⟨ret_i64 (by have := HR.out.1; omega), by rw [← HR.out.2]; exact hst.out, hb.out⟩
    · have HG : Hid (gap (rest s i) = (0, true)) := Lib.hid (by rw [rest_end s i hlt]; rfl)
      have HR : Hid (s.size = k + (gap (rest s k)).1 ∧ true = (gap (rest s k)).2) := Lib.hid (by
        have := hrel.out
        rw [HG.out] at this
        exact ⟨by rw [← this.1]; simp only; omega, by rw [← this.2]; simp⟩)
      clear HG
      go_wp2_with fail
      refine (HE.out b0 _ hst.out).mono ?_
      rintro e w1 ⟨rfl, hst1, hb1⟩
      rw [HT.out b0] at hst1
      have HS1 := Lib.hid hst1
      have HB1 := Lib.hid (hb.out.trans hb1)
      clear hst1 hb1
      go_wp2_with fail
      go_ret
      exact ⟨ret_i64 (by have := HR.out.1; omega), by rw [← HR.out.2]; exact HS1.out, HB1.out⟩
end Go.Proofs.YtcbfohokigamfaaGreatDoor
