/-
  lexer's findNumber, find, pastComment AT EVERY TEXT of at most 1000000 bytes, from every place of it: what they return; no memory that was there turns. Conditions: the text's length; the variable marks holds what its text lays.
-/
import Derived.Test.YtcbfohokigamfaaGreatDoorLMark
namespace Go.Proofs.YtcbfohokigamfaaGreatDoor
open Go.RowKit

set_option maxHeartbeats 1000000 in
theorem findNumber_any (s : ByteArray) (k : Nat) (hk : k ≤ s.size) (hs : s.size ≤ 1000000) (w : World) : Calls Tryz.prog 128 #[.string s, .int .i64 k] w fun e w' => e = .returned (.tuple #[.int .i64 ((numK (rest s k)).1 : Int), .int .i64 ((k + (numK (rest s k)).2 : Nat) : Int)]) ∧ w = w' := by
  have hle := run_le isD (rest s k)
  rw [rest_len] at hle
  have HP := Lib.hid (fun w => pastDigits_any s k hk hs w)
  by_cases h1 : fst (is1 46) (rest s (k + run isD (rest s k))) = true
  · have hlt := st_len ⟨#[46]⟩ s _ h1
    have HS := Lib.hid (fun w => stands_yes s ⟨#[46]⟩ (k + run isD (rest s k)) h1 w)
    have HQ := Lib.hid (fun w => pastDigits_any s (k + run isD (rest s k) + 1) hlt hs w)
    by_cases h2 : run isD (rest s (k + run isD (rest s k) + 1)) = 0
    · have e : numK (rest s k) = (3, run isD (rest s k)) := by
        unfold numK
        rw [rest_drop, rest_drop, if_pos h1, if_pos (by rw [← Nat.add_assoc]; exact h2)]
      rw [e]
      rw [h2] at HQ
      simp only
      clear e h1 h2
      generalize run isD (rest s k) = a at *
      obtain ⟨p, hp⟩ : ∃ p, p = k + a := ⟨_, rfl⟩
      have HPE := Lib.hid hp
      rw [← hp] at HP HS HQ hlt ⊢
      clear hp
      have q : ((((p + 1 + 0 : Nat) : Int)) == ((p : Int) + 1)) = true := by simp
      go_enter Tryz.func128, Tryz.ntmps128
      go_wp2_with fail
      refine (HP.out _).mono ?_
      rintro e w' ⟨rfl, rfl⟩
      go_wp2_with fail
      refine (HS.out _).mono ?_
      rintro e w' ⟨rfl, rfl⟩
      go_wp2_with fail
      refine (HQ.out _).mono ?_
      rintro e w' ⟨rfl, rfl⟩
      go_wp2_with fail
      go_ret2
      exact ⟨ret_ii rfl rfl, rfl⟩
    · have e : numK (rest s k) = (4, run isD (rest s k) + 1 + run isD (rest s (k + run isD (rest s k) + 1)) + expL (rest s (k + run isD (rest s k) + 1 + run isD (rest s (k + run isD (rest s k) + 1))))) := by
        unfold numK
        rw [rest_drop, rest_drop, rest_drop, if_pos h1, if_neg (by rw [← Nat.add_assoc]; exact h2)]
        simp only [Nat.add_assoc]
      rw [e]
      simp only
      clear e h1
      generalize run isD (rest s k) = a at *
      obtain ⟨p, hp⟩ : ∃ p, p = k + a := ⟨_, rfl⟩
      have HPE := Lib.hid hp
      rw [← hp] at HP HS HQ hlt h2 ⊢
      clear hp
      have hle2 := run_le isD (rest s (p + 1))
      rw [rest_len] at hle2
      have HE := Lib.hid (fun w => pastExponent_any s (p + 1 + run isD (rest s (p + 1))) hs w)
      generalize run isD (rest s (p + 1)) = b at *
      generalize expL (rest s (p + 1 + b)) = c at *
      obtain ⟨t, ht⟩ : ∃ t, t = p + 1 + b := ⟨_, rfl⟩
      have HTE := Lib.hid ht
      rw [← ht] at HQ HE
      have q : (((t : Nat) : Int) == ((p : Int) + 1)) = false := by simp only [beq_eq_false_iff_ne, ne_eq]; omega
      clear ht h2 hle2
      go_enter Tryz.func128, Tryz.ntmps128
      go_wp2_with fail
      refine (HP.out _).mono ?_
      rintro e w' ⟨rfl, rfl⟩
      go_wp2_with fail
      refine (HS.out _).mono ?_
      rintro e w' ⟨rfl, rfl⟩
      go_wp2_with fail
      refine (HQ.out _).mono ?_
      rintro e w' ⟨rfl, rfl⟩
      go_wp2_with fail
      refine (HE.out _).mono ?_
      rintro e w' ⟨rfl, rfl⟩
      go_wp2_with fail
      go_ret2
      exact ⟨ret_ii rfl (by have := HPE.out; have := HTE.out; omega), rfl⟩
  · have h1f : fst (is1 46) (rest s (k + run isD (rest s k))) = false := by simpa using h1
    have HS := Lib.hid (fun w => stands_no s ⟨#[46]⟩ (k + run isD (rest s k)) h1f w)
    have e : numK (rest s k) = (3, run isD (rest s k)) := by
      unfold numK
      rw [rest_drop, if_neg h1]
    rw [e]
    simp only
    clear e h1 h1f
    generalize run isD (rest s k) = a at *
    obtain ⟨p, hp⟩ : ∃ p, p = k + a := ⟨_, rfl⟩
    rw [← hp] at HP HS ⊢
    clear hp
    go_enter Tryz.func128, Tryz.ntmps128
    go_wp2_with fail
    refine (HP.out _).mono ?_
    rintro e w' ⟨rfl, rfl⟩
    go_wp2_with fail
    refine (HS.out _).mono ?_
    rintro e w' ⟨rfl, rfl⟩
    go_wp2_with fail
    go_ret2
    exact ⟨ret_ii rfl rfl, rfl⟩
theorem tokK_word (l : List UInt8) (h : fst isLt l = true) : tokK l = (if isRes (l.take (run isW l)) then 2 else 1, run isW l) := by unfold tokK; rw [if_pos h]
theorem tokK_num (l : List UInt8) (h : fst isLt l = false) (g : fst isD l = true) : tokK l = numK l := by unfold tokK; rw [if_neg (by rw [h]; simp), if_pos g]
theorem tokK_str (l : List UInt8) (h : fst isLt l = false) (g : fst isD l = false) (j : fst (is1 34) l = true) : tokK l = (5, strL l) := by unfold tokK; rw [if_neg (by rw [h]; simp), if_neg (by rw [g]; simp), if_pos j]
theorem tokK_semi (l : List UInt8) (h : fst isLt l = false) (g : fst isD l = false) (j : fst (is1 34) l = false) (i : fst (is1 59) l = true) : tokK l = (7, 1) := by unfold tokK; rw [if_neg (by rw [h]; simp), if_neg (by rw [g]; simp), if_neg (by rw [j]; simp), if_pos i]
theorem tokK_mark (l : List UInt8) (h : fst isLt l = false) (g : fst isD l = false) (j : fst (is1 34) l = false) (i : fst (is1 59) l = false) : tokK l = (6, markL l) := by unfold tokK; rw [if_neg (by rw [h]; simp), if_neg (by rw [g]; simp), if_neg (by rw [j]; simp), if_neg (by rw [i]; simp)]
set_option maxRecDepth 100000 in
set_option maxHeartbeats 1000000 in
theorem find_any (s : ByteArray) (k : Nat) (hk : k < s.size) (hs : s.size ≤ 1000000) (w : World) (hM : MarksIn w) : Calls Tryz.prog 100 #[.string s, .int .i64 k] w fun e w' => e = .returned (.tuple #[.int .i64 ((tokK (rest s k)).1 : Int), .int .i64 ((k + (tokK (rest s k)).2 : Nat) : Int)]) ∧ Below w.heap.size w w' := by
  have HL := Lib.hid (fun w => isLetter_any s[k] w)
  have HD := Lib.hid (fun w => isDigit_any s[k] w)
  have f1 := fst_at isLt s k hk
  have f2 := fst_at isD s k hk
  have f3 := fst_at (is1 34) s k hk
  have f4 := fst_at (is1 59) s k hk
  rw [is1_eq] at f3 f4
  obtain ⟨x, hx⟩ : ∃ x, s[k].toNat = x := ⟨_, rfl⟩
  rw [hx] at f3 f4 HL HD
  have t34 : ((34 : UInt8).toNat) = 34 := rfl
  have t59 : ((59 : UInt8).toNat) = 59 := rfl
  rw [t34] at f3
  rw [t59] at f4
  clear t34 t59
  cases h1 : isLt s[k] with
  | true =>
    rw [h1] at HL f1
    have HW := Lib.hid (fun w => findWord_any s k (Nat.le_of_lt hk) hs w)
    rw [tokK_word _ f1]
    simp only
    clear f1 f2 f3 f4 h1 HD hM
    generalize ((if isRes (List.take (run isW (rest s k)) (rest s k)) = true then 2 else 1 : Nat) : Int) = a at *
    generalize ((k + run isW (rest s k) : Nat) : Int) = b at *
    go_enter Tryz.func100, Tryz.ntmps100
    go_wp2_with fail
    refine (HL.out _).mono ?_
    rintro e w' ⟨rfl, rfl⟩
    go_wp2_with fail
    refine (HW.out _).mono ?_
    rintro e w' ⟨rfl, rfl⟩
    go_wp2_with fail
    go_ret2
    exact ⟨rfl, Below.refl _ _⟩
  | false =>
    rw [h1] at HL f1
    cases h2 : isD s[k] with
    | true =>
      rw [h2] at HD f2
      have HW := Lib.hid (fun w => findNumber_any s k (Nat.le_of_lt hk) hs w)
      rw [tokK_num _ f1 f2]
      clear f1 f2 f3 f4 h1 h2 hM
      generalize ((numK (rest s k)).1 : Int) = a at *
      generalize ((k + (numK (rest s k)).2 : Nat) : Int) = b at *
      go_enter Tryz.func100, Tryz.ntmps100
      go_wp2_with fail
      refine (HL.out _).mono ?_
      rintro e w' ⟨rfl, rfl⟩
      go_wp2_with fail
      refine (HD.out _).mono ?_
      rintro e w' ⟨rfl, rfl⟩
      go_wp2_with fail
      refine (HW.out _).mono ?_
      rintro e w' ⟨rfl, rfl⟩
      go_wp2_with fail
      go_ret2
      exact ⟨rfl, Below.refl _ _⟩
    | false =>
      rw [h2] at HD f2
      by_cases h3 : x = 34
      · have q3 : (((x : Nat) : Int) == 34) = true := by simp only [beq_iff_eq]; omega
        rw [decide_eq_true h3] at f3
        have HU := Lib.hid (unquoted_any s k (Nat.le_of_lt hk) hs w)
        have HV : Hid ((tokK (rest s k)).1 = 5 ∧ (tokK (rest s k)).2 = strL (rest s k)) := Lib.hid (by rw [tokK_str _ f1 f2 f3]; exact ⟨rfl, rfl⟩)
        rw [HV.out.1, HV.out.2]
        unfold strL
        clear f1 f2 f3 f4 h1 h2 h3 hM HV
        cases hu : uqS (rest s k) with
        | none =>
          rw [hu] at HU
          unfold UqEnd at HU
          simp only at HU ⊢
          clear hu
          go_enter Tryz.func100, Tryz.ntmps100
          go_wp2_with fail
          refine (HL.out _).mono ?_
          rintro e w' ⟨rfl, rfl⟩
          go_wp2_with fail
          refine (HD.out _).mono ?_
          rintro e w' ⟨rfl, rfl⟩
          go_wp2_with fail
          refine HU.out.mono ?_
          rintro e w' ⟨rfl, hb⟩
          have HB := Lib.hid hb
          clear hb
          go_wp2_with fail
          go_ret2
          exact ⟨ret_ii rfl rfl, HB.out⟩
        | some p =>
          obtain ⟨v, n⟩ := p
          rw [hu] at HU
          unfold UqEnd at HU
          simp only at HU ⊢
          clear hu
          generalize ((k + n : Nat) : Int) = b at *
          go_enter Tryz.func100, Tryz.ntmps100
          go_wp2_with fail
          refine (HL.out _).mono ?_
          rintro e w' ⟨rfl, rfl⟩
          go_wp2_with fail
          refine (HD.out _).mono ?_
          rintro e w' ⟨rfl, rfl⟩
          go_wp2_with fail
          refine HU.out.mono ?_
          rintro e w' ⟨v2, rfl, hown, hb⟩
          obtain ⟨A, cp, rfl⟩ := slice_form hown
          have HB := Lib.hid hb
          clear hb hown
          go_wp2_with fail
          go_ret2
          exact ⟨ret_ii rfl rfl, HB.out⟩
      · have q3 : (((x : Nat) : Int) == 34) = false := by simp only [beq_eq_false_iff_ne, ne_eq]; omega
        rw [decide_eq_false h3] at f3
        by_cases h4 : x = 59
        · have q4 : (((x : Nat) : Int) == 59) = true := by simp only [beq_iff_eq]; omega
          rw [decide_eq_true h4] at f4
          rw [tokK_semi _ f1 f2 f3 f4]
          clear f1 f2 f3 f4 h1 h2 h3 h4 hM
          go_enter Tryz.func100, Tryz.ntmps100
          go_wp2_with fail
          refine (HL.out _).mono ?_
          rintro e w' ⟨rfl, rfl⟩
          go_wp2_with fail
          refine (HD.out _).mono ?_
          rintro e w' ⟨rfl, rfl⟩
          go_wp2_with fail
          go_ret2
          exact ⟨ret_ii rfl (by omega), Below.refl _ _⟩
        · have q4 : (((x : Nat) : Int) == 59) = false := by simp only [beq_eq_false_iff_ne, ne_eq]; omega
          rw [decide_eq_false h4] at f4
          have HK := Lib.hid (pastMark_any s k (Nat.le_of_lt hk) hs w hM)
          rw [tokK_mark _ f1 f2 f3 f4]
          simp only
          clear f1 f2 f3 f4 h1 h2 h3 h4 hM
          generalize ((k + markL (rest s k) : Nat) : Int) = b at *
          go_enter Tryz.func100, Tryz.ntmps100
          go_wp2_with fail
          refine (HL.out _).mono ?_
          rintro e w' ⟨rfl, rfl⟩
          go_wp2_with fail
          refine (HD.out _).mono ?_
          rintro e w' ⟨rfl, rfl⟩
          go_wp2_with fail
          refine HK.out.mono ?_
          rintro e w' ⟨rfl, rfl⟩
          go_wp2_with fail
          go_ret2
          exact ⟨ret_ii rfl rfl, Below.refl _ _⟩
/-- Is it no line's end? -/
def notNl (c : UInt8) : Bool := !(c == 10)
theorem index_nl (l : List UInt8) : Lib.indexByte l 10 = if run notNl l < l.length then (run notNl l : Int) else -1 := by
  induction l with
  | nil => rfl
  | cons c l ih =>
    rw [Lib.indexByte, run]
    by_cases h : c = 10
    · subst h
      rfl
    · have h1 : (c == 10) = false := by simpa using h
      have h2 : notNl c = true := by unfold notNl; rw [h1]; rfl
      rw [h1, h2, if_neg (by simp), if_pos rfl, ih, List.length_cons]
      have := run_le notNl l
      by_cases hl : run notNl l < l.length
      · rw [if_pos hl, if_neg (by simp only [beq_iff_eq]; omega), if_pos (by omega)]; omega
      · rw [if_neg hl, if_pos (by rfl), if_neg (by omega)]
theorem gap_com (l : List UInt8) : gapB true l = ((gapB false (l.drop (run notNl l))).1 + run notNl l, (gapB false (l.drop (run notNl l))).2) := by
  induction l with
  | nil => rfl
  | cons c l ih =>
    by_cases h : c = 10
    · subst h; rfl
    · have h1 : (c == 10) = false := by simpa using h
      have h2 : notNl c = true := by unfold notNl; rw [h1]; rfl
      have h3 : ¬ c.toNat = 10 := by intro e; exact h (UInt8.toNat_inj.1 e)
      rw [gapB, if_neg h3, if_pos rfl, ih, run, if_pos h2]
      simp only [List.drop_succ_cons]
      rfl
set_option maxHeartbeats 1000000 in
theorem pastComment_any (s : ByteArray) (k : Nat) (hk : k ≤ s.size) (hs : s.size ≤ 1000000) (w : World) : Calls Tryz.prog 98 #[.string s, .int .i64 k] w fun e w' => e = .returned (.int .i64 ((k + run notNl (rest s k) : Nat) : Int)) ∧ w = w' := by
  have hle := run_le notNl (rest s k)
  have hsub : (s.extract k s.size).data.toList = rest s k := by
    have e : s.size = k + (s.size - k) := by omega
    conv => lhs; rw [e]
    rw [extract_take, List.take_of_length_le (by rw [rest_len]; omega)]
  have HI : Hid (∀ w, Calls Tryz.prog 99 #[.string (s.extract k s.size), .int .u8 10] w fun e w' => e = .returned (.int .i64 (if run notNl (rest s k) < s.size - k then (run notNl (rest s k) : Int) else -1)) ∧ w = w') := Lib.hid (fun w => by
    refine (Tryz.strings_IndexByte (s.extract k s.size) 10 w).mono ?_
    rintro e w' ⟨rfl, rfl⟩
    refine ⟨ret_i64 ?_, rfl⟩
    rw [hsub]
    have := index_nl (rest s k)
    rw [rest_len] at this
    exact this)
  rw [rest_len] at hle
  clear hsub
  generalize run notNl (rest s k) = n at *
  by_cases h : n < s.size - k
  · rw [if_pos h] at HI
    go_enter Tryz.func98, Tryz.ntmps98
    go_wp2_with fail
    refine (HI.out _).mono ?_
    rintro e w' ⟨rfl, rfl⟩
    go_wp2_with fail
    go_ret
    exact ⟨ret_i64 (by omega), rfl⟩
  · rw [if_neg h] at HI
    go_enter Tryz.func98, Tryz.ntmps98
    go_wp2_with fail
    refine (HI.out _).mono ?_
    rintro e w' ⟨rfl, rfl⟩
    go_wp2_with fail
    go_ret
    exact ⟨ret_i64 (by omega), rfl⟩
end Go.Proofs.YtcbfohokigamfaaGreatDoor
