/-
  num's isExponent, isFloat, and strconv's special AT EVERY TEXT that a machine can hold (special: at those that begin with a digit): what they return; nothing in memory turns.
  strconv's readFloat AT EVERY FLOAT LITERAL of at most 60 bytes: mantissa, exponent, whether digits were cut off; it reads the whole text; nothing in memory turns.
  PLAIN: a decimal rounded; whether it is out of a float's range; a float's text as a decimal. No program.
-/
import Derived.Test.YtmlclgkhnekmnaaGreatDoorLVal
import Derived.Test.YtmlclgkhnekmnaaGreatDoorDPlain2
namespace Go.Proofs.YtmlclgkhnekmnaaGreatDoor
open Go.RowKit Go.Lib

theorem nth_at2 (s : ByteArray) (i : Nat) (h : i < s.size) : nth s.data.toList i = s[i].toNat := by
  have e := rest_cons s i h
  have h2 : nth (rest s i) 0 = nth s.data.toList i := by unfold rest nth; simp
  rw [← h2, e]
  rfl
/-- Where the digits of an exponent begin. -/
def exFrom (l : List UInt8) : Nat := if 1 < l.length ∧ (nth l 1 = 43 ∨ nth l 1 = 45) then 2 else 1
def expOk (l : List UInt8) : Bool := decide (nth l 0 = 101 ∧ past l (exFrom l) = l.length ∧ exFrom l < past l (exFrom l) ∧ past l (exFrom l) - exFrom l ≤ 3)
def floatB (l : List UInt8) : Bool := decide (wholeEnd l ≠ 0 ∧ wholeEnd l ≠ l.length ∧ nth l (wholeEnd l) = 46 ∧ past l (wholeEnd l + 1) ≠ wholeEnd l + 1 ∧ (past l (wholeEnd l + 1) = l.length ∨ expOk (l.drop (past l (wholeEnd l + 1))) = true))
theorem past_ge (l : List UInt8) (k : Nat) : k ≤ past l k := by unfold past; omega
theorem wholeEnd_le (l : List UInt8) : wholeEnd l ≤ l.length := by
  unfold wholeEnd
  have := past_le l 0 (Nat.zero_le _)
  split <;> omega
set_option maxHeartbeats 2000000 in
theorem exponent_any (s : ByteArray) (h0 : 0 < s.size) (hs : s.size ≤ 1000000) (w : World) : Calls Tryz.prog 160 #[.string s] w fun e w' => e = .returned (.bool (expOk s.data.toList)) ∧ w = w' := by
  have hsz : s.data.toList.length = s.size := rfl
  have hn0 := nth_at2 s 0 h0
  obtain ⟨x, hx⟩ : ∃ x, s[0].toNat = x := ⟨_, rfl⟩
  rw [hx] at hn0
  by_cases h1 : x = 101
  · have e1 : (((x : Nat) : Int) != 101) = false := by simp only [bne_eq_false_iff_eq]; omega
    obtain ⟨f, hf⟩ : ∃ f, exFrom s.data.toList = f := ⟨_, rfl⟩
    obtain ⟨E, hE⟩ : ∃ E, past s.data.toList f = E := ⟨_, rfl⟩
    have hR : expOk s.data.toList = decide (E = s.size ∧ f < E ∧ E - f ≤ 3) := by
      unfold expOk
      rw [hn0, hf, hE, hsz]
      simp [h1]
    have hfs : f ≤ s.size := by rw [← hf]; unfold exFrom; rw [hsz]; split <;> omega
    have HP := Lib.hid (fun w => past_any s f hfs (by unfold maxLen; omega) w)
    rw [hE] at HP
    have hEl := past_le s.data.toList f (by omega)
    rw [hE, hsz] at hEl
    have hEg := past_ge s.data.toList f
    rw [hE] at hEg
    rw [hR]
    have hend : ∀ b : Bool, b = decide (E = s.size ∧ f < E ∧ E - f ≤ 3) → Hid (Ending.returned (.bool b) = .returned (.bool (decide (E = s.size ∧ f < E ∧ E - f ≤ 3)))) := fun b hb => Lib.hid (by rw [hb])
    have HEND := Lib.hid hend
    have hcases : (f = 1 ∧ s.size = 1) ∨ (1 < s.size ∧ ∃ y, nth s.data.toList 1 = y ∧ ((f = 2 ∧ y = 43) ∨ (f = 2 ∧ y = 45) ∨ (f = 1 ∧ y ≠ 43 ∧ y ≠ 45))) := by
      unfold exFrom at hf
      rw [hsz] at hf
      by_cases h2 : 1 < s.size
      · refine .inr ⟨h2, _, rfl, ?_⟩
        by_cases h3 : nth s.data.toList 1 = 43
        · rw [if_pos ⟨h2, .inl h3⟩] at hf; exact .inl ⟨hf.symm, h3⟩
        · by_cases h4 : nth s.data.toList 1 = 45
          · rw [if_pos ⟨h2, .inr h4⟩] at hf; exact .inr (.inl ⟨hf.symm, h4⟩)
          · rw [if_neg (fun h => h.2.elim h3 h4)] at hf; exact .inr (.inr ⟨hf.symm, h3, h4⟩)
      · rw [if_neg (fun h => h2 h.1)] at hf; exact .inl ⟨hf.symm, by omega⟩
    clear hend hE hf hR h1 hn0
    rcases hcases with ⟨rfl, h2⟩ | ⟨h2, y, hy, hc⟩
    · have q2 : decide ((1 : Int) < (s.size : Int)) = false := by rw [decide_eq_false_iff_not]; omega
      by_cases g1 : E = s.size
      · have z1 : (((E : Nat) : Int) == ((s.size : Nat) : Int)) = true := by simp only [beq_iff_eq]; omega
        have z2 : decide ((1 : Int) < ((E : Nat) : Int)) = false := by rw [decide_eq_false_iff_not]; omega
        have HE := HEND.out false (Eq.symm (by rw [decide_eq_false_iff_not]; omega))
        clear g1 h2
        go_enter Tryz.func160, Tryz.ntmps160
        go_wp2_with fail
        refine (HP.out _).mono ?_
        rintro e w' ⟨rfl, rfl⟩
        go_wp2_with fail
        go_ret
        exact ⟨HE.out, rfl⟩
      · have z1 : (((E : Nat) : Int) == ((s.size : Nat) : Int)) = false := by simp only [beq_eq_false_iff_ne, ne_eq]; omega
        have HE := HEND.out false (Eq.symm (by rw [decide_eq_false_iff_not]; omega))
        clear g1 h2
        go_enter Tryz.func160, Tryz.ntmps160
        go_wp2_with fail
        refine (HP.out _).mono ?_
        rintro e w' ⟨rfl, rfl⟩
        go_wp2_with fail
        go_ret
        exact ⟨HE.out, rfl⟩
    · rw [nth_at2 s 1 h2] at hy
      rcases hc with ⟨rfl, rfl⟩ | ⟨rfl, rfl⟩ | ⟨rfl, hy1, hy2⟩
      all_goals try (
        have y1 : (((y : Nat) : Int) == 43) = false := by simp only [beq_eq_false_iff_ne, ne_eq]; omega
        have y2 : (((y : Nat) : Int) == 45) = false := by simp only [beq_eq_false_iff_ne, ne_eq]; omega
        clear hy1 hy2)
      all_goals
        by_cases g1 : E = s.size
        · have z1 : (((E : Nat) : Int) == ((s.size : Nat) : Int)) = true := by simp only [beq_iff_eq]; omega
          first
            | (have g2 : 1 < E := by omega
               have z2 : decide ((1 : Int) < ((E : Nat) : Int)) = true := by rw [decide_eq_true_eq]; omega
               by_cases g3 : E - 1 ≤ 3
               · have z3 : decide ((E : Int) - 1 ≤ 3) = true := by rw [decide_eq_true_eq]; omega
                 have HE := HEND.out true (Eq.symm (by rw [decide_eq_true_eq]; omega))
                 clear g1 g2 g3
                 go_enter Tryz.func160, Tryz.ntmps160
                 go_wp2_with fail
                 refine (HP.out _).mono ?_
                 rintro e w' ⟨rfl, rfl⟩
                 go_wp2_with fail
                 go_ret
                 exact ⟨HE.out, rfl⟩
               · have z3 : decide ((E : Int) - 1 ≤ 3) = false := by rw [decide_eq_false_iff_not]; omega
                 have HE := HEND.out false (Eq.symm (by rw [decide_eq_false_iff_not]; omega))
                 clear g1 g2 g3
                 go_enter Tryz.func160, Tryz.ntmps160
                 go_wp2_with fail
                 refine (HP.out _).mono ?_
                 rintro e w' ⟨rfl, rfl⟩
                 go_wp2_with fail
                 go_ret
                 exact ⟨HE.out, rfl⟩)
            | (by_cases g2 : 2 < E
               · have z2 : decide ((2 : Int) < ((E : Nat) : Int)) = true := by rw [decide_eq_true_eq]; omega
                 by_cases g3 : E - 2 ≤ 3
                 · have z3 : decide ((E : Int) - 2 ≤ 3) = true := by rw [decide_eq_true_eq]; omega
                   have HE := HEND.out true (Eq.symm (by rw [decide_eq_true_eq]; omega))
                   clear g1 g2 g3
                   go_enter Tryz.func160, Tryz.ntmps160
                   go_wp2_with fail
                   refine (HP.out _).mono ?_
                   rintro e w' ⟨rfl, rfl⟩
                   go_wp2_with fail
                   go_ret
                   exact ⟨HE.out, rfl⟩
                 · have z3 : decide ((E : Int) - 2 ≤ 3) = false := by rw [decide_eq_false_iff_not]; omega
                   have HE := HEND.out false (Eq.symm (by rw [decide_eq_false_iff_not]; omega))
                   clear g1 g2 g3
                   go_enter Tryz.func160, Tryz.ntmps160
                   go_wp2_with fail
                   refine (HP.out _).mono ?_
                   rintro e w' ⟨rfl, rfl⟩
                   go_wp2_with fail
                   go_ret
                   exact ⟨HE.out, rfl⟩
               · have z2 : decide ((2 : Int) < ((E : Nat) : Int)) = false := by rw [decide_eq_false_iff_not]; omega
                 have HE := HEND.out false (Eq.symm (by rw [decide_eq_false_iff_not]; omega))
                 clear g1 g2
                 go_enter Tryz.func160, Tryz.ntmps160
                 go_wp2_with fail
                 refine (HP.out _).mono ?_
                 rintro e w' ⟨rfl, rfl⟩
                 go_wp2_with fail
                 go_ret
                 exact ⟨HE.out, rfl⟩)
        · have z1 : (((E : Nat) : Int) == ((s.size : Nat) : Int)) = false := by simp only [beq_eq_false_iff_ne, ne_eq]; omega
          have HE := HEND.out false (Eq.symm (by rw [decide_eq_false_iff_not]; omega))
          clear g1
          go_enter Tryz.func160, Tryz.ntmps160
          go_wp2_with fail
          refine (HP.out _).mono ?_
          rintro e w' ⟨rfl, rfl⟩
          go_wp2_with fail
          go_ret
          exact ⟨HE.out, rfl⟩
  · have e1 : (((x : Nat) : Int) != 101) = true := by simp only [bne_iff_ne, ne_eq]; omega
    have hR : expOk s.data.toList = false := by
      unfold expOk
      rw [hn0]
      simp [h1]
    rw [hR]
    clear h1 hn0 hR
    go_enter Tryz.func160, Tryz.ntmps160
    go_wp2_with fail
    go_ret
    exact ⟨rfl, rfl⟩
set_option maxHeartbeats 2000000 in
theorem isFloat_any (s : ByteArray) (hs : s.size ≤ 1000000) (w : World) : Calls Tryz.prog 138 #[.string s] w fun e w' => e = .returned (.bool (floatB s.data.toList)) ∧ w = w' := by
  have hsz : s.data.toList.length = s.size := rfl
  have HP := Lib.hid (fun w => pastWhole_any s (by unfold maxLen; omega) w)
  have hpl := wholeEnd_le s.data.toList
  rw [hsz] at hpl
  unfold floatB
  rw [hsz]
  generalize wholeEnd s.data.toList = p at *
  by_cases h1 : p = 0
  · subst h1
    rw [decide_eq_false (fun h => h.1 rfl)]
    go_enter Tryz.func138, Tryz.ntmps138
    go_wp2_with fail
    refine (HP.out _).mono ?_
    rintro e w' ⟨rfl, rfl⟩
    go_wp2_with fail
    go_ret
    exact ⟨rfl, rfl⟩
  · have z1 : (((p : Nat) : Int) == 0) = false := by simp only [beq_eq_false_iff_ne, ne_eq]; omega
    by_cases h2 : p = s.size
    · have z2 : (((p : Nat) : Int) == ((s.size : Nat) : Int)) = true := by simp only [beq_iff_eq]; omega
      rw [decide_eq_false (fun h => h.2.1 h2)]
      clear h1 h2
      go_enter Tryz.func138, Tryz.ntmps138
      go_wp2_with fail
      refine (HP.out _).mono ?_
      rintro e w' ⟨rfl, rfl⟩
      go_wp2_with fail
      go_ret
      exact ⟨rfl, rfl⟩
    · have z2 : (((p : Nat) : Int) == ((s.size : Nat) : Int)) = false := by simp only [beq_eq_false_iff_ne, ne_eq]; omega
      have hlt : p < s.size := by omega
      have hn := nth_at2 s p hlt
      rw [hn]
      obtain ⟨x, hx⟩ : ∃ x, s[p].toNat = x := ⟨_, rfl⟩
      rw [hx]
      by_cases h3 : x = 46
      · have z3 : (((x : Nat) : Int) != 46) = false := by simp only [bne_eq_false_iff_eq]; omega
        have HQ := Lib.hid (fun w => past_any s (p + 1) (by omega) (by unfold maxLen; omega) w)
        have hql := past_le s.data.toList (p + 1) (by omega)
        have hqg := past_ge s.data.toList (p + 1)
        rw [hsz] at hql
        generalize past s.data.toList (p + 1) = q at *
        by_cases h4 : q = p + 1
        · have z4 : (((q : Nat) : Int) == ((p : Nat) : Int) + 1) = true := by simp only [beq_iff_eq]; omega
          rw [decide_eq_false (fun h => h.2.2.2.1 h4)]
          clear h1 h2 h3 h4 hn
          go_enter Tryz.func138, Tryz.ntmps138
          go_wp2_with fail
          refine (HP.out _).mono ?_
          rintro e w' ⟨rfl, rfl⟩
          go_wp2_with fail
          refine (HQ.out _).mono ?_
          rintro e w' ⟨rfl, rfl⟩
          go_wp2_with fail
          go_ret
          exact ⟨rfl, rfl⟩
        · have z4 : (((q : Nat) : Int) == ((p : Nat) : Int) + 1) = false := by simp only [beq_eq_false_iff_ne, ne_eq]; omega
          by_cases h5 : q = s.size
          · have z5 : (((q : Nat) : Int) == ((s.size : Nat) : Int)) = true := by simp only [beq_iff_eq]; omega
            rw [decide_eq_true ⟨h1, h2, h3, h4, .inl h5⟩]
            clear h1 h2 h3 h4 h5 hn
            go_enter Tryz.func138, Tryz.ntmps138
            go_wp2_with fail
            refine (HP.out _).mono ?_
            rintro e w' ⟨rfl, rfl⟩
            go_wp2_with fail
            refine (HQ.out _).mono ?_
            rintro e w' ⟨rfl, rfl⟩
            go_wp2_with fail
            go_ret
            exact ⟨rfl, rfl⟩
          · have z5 : (((q : Nat) : Int) == ((s.size : Nat) : Int)) = false := by simp only [beq_eq_false_iff_ne, ne_eq]; omega
            have hlt2 : q < s.size := by omega
            have hes : (s.extract q s.size).size = s.size - q := by rw [ByteArray.size_extract]; omega
            have HX := Lib.hid (fun w => exponent_any (s.extract q s.size) (by omega) (by omega) w)
            have hexl : (s.extract q s.size).data.toList = s.data.toList.drop q := by
              rw [ByteArray.data_extract, Array.toList_extract, List.extract_eq_take_drop, List.take_of_length_le (by rw [List.length_drop, hsz]; exact Nat.le_refl _)]
            rw [hexl] at HX
            have hB : decide (p ≠ 0 ∧ p ≠ s.size ∧ x = 46 ∧ q ≠ p + 1 ∧ (q = s.size ∨ expOk (s.data.toList.drop q) = true)) = expOk (s.data.toList.drop q) := by
              cases expOk (s.data.toList.drop q)
              · simp [h5]
              · simp [h1, h2, h3, h4]
            rw [hB]
            generalize expOk (s.data.toList.drop q) = B at *
            clear h1 h2 h3 h4 h5 hn hexl hB hes
            go_enter Tryz.func138, Tryz.ntmps138
            go_wp2_with fail
            refine (HP.out _).mono ?_
            rintro e w' ⟨rfl, rfl⟩
            go_wp2_with fail
            refine (HQ.out _).mono ?_
            rintro e w' ⟨rfl, rfl⟩
            go_wp2_with fail
            refine (HX.out _).mono ?_
            rintro e w' ⟨rfl, rfl⟩
            go_wp2_with fail
            go_ret
            exact ⟨rfl, rfl⟩
      · have z3 : (((x : Nat) : Int) != 46) = true := by simp only [bne_iff_ne, ne_eq]; omega
        rw [decide_eq_false (fun h => h3 h.2.2.1)]
        clear h1 h2 h3 hn
        go_enter Tryz.func138, Tryz.ntmps138
        go_wp2_with fail
        refine (HP.out _).mono ?_
        rintro e w' ⟨rfl, rfl⟩
        go_wp2_with fail
        go_ret
        exact ⟨rfl, rfl⟩
set_option maxHeartbeats 1000000 in
theorem special_any (s : ByteArray) (h0 : 0 < s.size) (hs : s.size ≤ 1000000) (hd : isDig s[0] = true) (w : World) : Calls Tryz.prog 210 #[.string s] w fun e w' => e = .returned (.tuple #[.float .f64 0, .int .i64 0, .bool false]) ∧ w = w' := by
  obtain ⟨x, hx⟩ : ∃ x, s[0].toNat = x := ⟨_, rfl⟩
  unfold isDig at hd
  rw [hx, decide_eq_true_eq] at hd
  have e1 : (((x : Nat) : Int) == 43) = false := by simp only [beq_eq_false_iff_ne, ne_eq]; omega
  have e2 : (((x : Nat) : Int) == 45) = false := by simp only [beq_eq_false_iff_ne, ne_eq]; omega
  have e3 : (((x : Nat) : Int) == 105) = false := by simp only [beq_eq_false_iff_ne, ne_eq]; omega
  have e4 : (((x : Nat) : Int) == 73) = false := by simp only [beq_eq_false_iff_ne, ne_eq]; omega
  have e5 : (((x : Nat) : Int) == 110) = false := by simp only [beq_eq_false_iff_ne, ne_eq]; omega
  have e6 : (((x : Nat) : Int) == 78) = false := by simp only [beq_eq_false_iff_ne, ne_eq]; omega
  have e7 : ((s.size : Int) == 0) = false := by simp only [beq_eq_false_iff_ne, ne_eq]; omega
  clear hd
  go_enter Tryz.func210, Tryz.ntmps210
  go_wp2_with fail
  go_ret3
  exact ⟨rfl, rfl⟩
end Go.Proofs.YtmlclgkhnekmnaaGreatDoor
namespace Go.Proofs.YtmlclgkhnekmnaaGreatDoor
open Go.RowKit Go.Lib

/-- What readFloat knows behind some bytes. -/
structure RF where
  m : Int
  nd : Nat
  nm : Nat
  dp : Int
  dot : Bool
  sd : Bool
  tr : Bool
def rfStep (a : RF) (c : Nat) : RF :=
  if c = 46 then { a with dot := true, dp := (a.nd : Int) }
  else if c = 48 ∧ a.nd = 0 then { a with sd := true, dp := a.dp - 1 }
  else if a.nm < 19 then { a with sd := true, nd := a.nd + 1, m := IntKind.u64.wrap (IntKind.u64.wrap (a.m * 10) + ((c : Int) - 48)), nm := a.nm + 1 }
  else { a with sd := true, nd := a.nd + 1, tr := a.tr || decide (c ≠ 48) }
def rf0 : RF := ⟨0, 0, 0, 0, false, false, false⟩
def rfAt (l : List UInt8) : Nat → RF
  | 0 => rf0
  | j + 1 => rfStep (rfAt l j) (nth l j)
/-- An exponent's number, behind some of its digits. -/
def exAt (l : List UInt8) (f : Nat) : Nat → Int
  | 0 => 0
  | j + 1 => exAt l f j * 10 + (nth l (f + j) : Int) - 48
def floatF (l : List UInt8) : Nat := wholeEnd l
def floatQ (l : List UInt8) : Nat := past l (wholeEnd l + 1)
/-- Where an exponent's digits begin in a float's text. -/
def floatX (l : List UInt8) : Nat := floatQ l + exFrom (l.drop (floatQ l))
def rfDp (l : List UInt8) : Int :=
  (rfAt l (floatQ l)).dp + (if floatQ l = l.length then 0 else exAt l (floatX l) (l.length - floatX l) * (if nth l (floatQ l + 1) = 45 then -1 else 1))
def rfM (l : List UInt8) : Int := (rfAt l (floatQ l)).m
def rfE (l : List UInt8) : Int := if rfM l = 0 then 0 else rfDp l - ((rfAt l (floatQ l)).nm : Int)
def rfT (l : List UInt8) : Bool := (rfAt l (floatQ l)).tr
theorem rf_bounds (l : List UInt8) : ∀ j, (rfAt l j).nd ≤ j ∧ (rfAt l j).nm ≤ (rfAt l j).nd ∧ -(j : Int) ≤ (rfAt l j).dp ∧ (rfAt l j).dp ≤ (j : Int) ∧ (rfAt l j).nm ≤ 19
  | 0 => ⟨Nat.le_refl _, Nat.le_refl _, by simp [rfAt, rf0], by simp [rfAt, rf0], by simp [rfAt, rf0]⟩
  | j + 1 => by
    obtain ⟨h1, h2, h3, h4, h5⟩ := rf_bounds l j
    rw [rfAt]
    unfold rfStep
    split
    · refine ⟨?_, ?_, ?_, ?_, ?_⟩ <;> simp only <;> omega
    · split
      · refine ⟨?_, ?_, ?_, ?_, ?_⟩ <;> simp only <;> omega
      · split
        · refine ⟨?_, ?_, ?_, ?_, ?_⟩ <;> simp only <;> omega
        · refine ⟨?_, ?_, ?_, ?_, ?_⟩ <;> simp only <;> omega
/-- What a float's text is, place by place. -/
structure FForm (l : List UInt8) (p q : Nat) : Prop where
  p1 : 1 ≤ p
  pq : p + 1 < q
  ql : q ≤ l.length
  dot : nth l p = 46
  dig : ∀ j, j < q → j ≠ p → 48 ≤ nth l j ∧ nth l j ≤ 57
theorem past_dig (l : List UInt8) (k : Nat) : ∀ n j, j = k + n → j < past l k → 48 ≤ nth l j ∧ nth l j ≤ 57 := by
  intro n
  induction n generalizing k with
  | zero =>
    intro j hj h
    obtain rfl : j = k := by omega
    have hl : j < l.length := by
      rcases Nat.lt_or_ge j l.length with h2 | h2
      · exact h2
      · rw [past_end l j h2] at h; omega
    have hd : isDig l[j] = true := by
      rcases Bool.eq_false_or_eq_true (isDig l[j]) with h2 | h2
      · exact h2
      · rw [past_no l j hl h2] at h; omega
    unfold isDig at hd
    rw [decide_eq_true_eq] at hd
    have e : nth l j = l[j].toNat := by unfold nth; rw [List.getD_eq_getElem?_getD, List.getElem?_eq_getElem hl]; rfl
    rw [e]; exact hd
  | succ n ih =>
    intro j hj h
    have hl : k < l.length := by
      rcases Nat.lt_or_ge k l.length with h2 | h2
      · exact h2
      · rw [past_end l k h2] at h; omega
    have hd : isDig l[k] = true := by
      rcases Bool.eq_false_or_eq_true (isDig l[k]) with h2 | h2
      · exact h2
      · rw [past_no l k hl h2] at h; omega
    rw [past_yes l k hl hd] at h
    exact ih (k + 1) j (by omega) h
theorem float_form (l : List UInt8) (h : floatB l = true) : FForm l (wholeEnd l) (floatQ l) ∧ (floatQ l = l.length ∨ (floatQ l < l.length ∧ expOk (l.drop (floatQ l)) = true)) := by
  unfold floatB at h
  rw [decide_eq_true_eq] at h
  obtain ⟨h1, h2, h3, h4, h5⟩ := h
  have hw := wholeEnd_le l
  have hg := past_ge l (wholeEnd l + 1)
  have hl := past_le l (wholeEnd l + 1) (by omega)
  refine ⟨⟨by omega, ?_, hl, h3, ?_⟩, ?_⟩
  · show wholeEnd l + 1 < past l (wholeEnd l + 1); omega
  · intro j hj hne
    rcases Nat.lt_or_ge j (wholeEnd l) with g | g
    · have e : wholeEnd l = past l 0 := by
        unfold wholeEnd at h1 ⊢
        split
        · rename_i hc; rw [if_pos hc] at h1; exact absurd rfl h1
        · rfl
      rw [e] at g
      exact past_dig l 0 j j (by omega) g
    · exact past_dig l (wholeEnd l + 1) (j - (wholeEnd l + 1)) j (by omega) hj
  · rcases h5 with h5 | h5
    · exact .inl h5
    · by_cases g : floatQ l = l.length
      · exact .inl g
      · exact .inr ⟨by unfold floatQ at *; omega, h5⟩
theorem rf_dot {l : List UInt8} {p q : Nat} (F : FForm l p q) : ∀ j, j ≤ q → (rfAt l j).dot = decide (p < j)
  | 0, _ => by simp [rfAt, rf0]
  | j + 1, h => by
    have ih := rf_dot F j (by omega)
    have hc := F.dig j (by omega)
    rw [rfAt]
    unfold rfStep
    by_cases hp : j = p
    · subst hp
      rw [if_pos F.dot]
      simp
    · have h2 := hc hp
      have e : decide (p < j + 1) = decide (p < j) := by
        by_cases g : p < j
        · rw [decide_eq_true g, decide_eq_true (by omega)]
        · rw [decide_eq_false g, decide_eq_false (by omega)]
      rw [if_neg (by omega), e, ← ih]
      split
      · rfl
      · split <;> rfl
theorem rf_sd {l : List UInt8} {p q : Nat} (F : FForm l p q) : ∀ j, 1 ≤ j → j ≤ q → (rfAt l j).sd = true
  | 0, h, _ => by omega
  | j + 1, _, h => by
    have hc := F.dig j (by omega)
    rw [rfAt]
    unfold rfStep
    by_cases hp : j = p
    · subst hp
      rw [if_pos F.dot]
      have := F.p1
      exact rf_sd F j (by omega) (by omega)
    · have h2 := hc hp
      rw [if_neg (by omega)]
      split
      · rfl
      · split <;> rfl
/-- What an exponent is, place by place. -/
structure EForm (l : List UInt8) (q f : Nat) : Prop where
  e : nth l q = 101
  f1 : q + 1 ≤ f
  f2 : f < l.length
  f3 : l.length ≤ f + 3
  sg : (f = q + 2 ∧ nth l (q + 1) = 43) ∨ (f = q + 2 ∧ nth l (q + 1) = 45) ∨ (f = q + 1 ∧ nth l (q + 1) ≠ 43 ∧ nth l (q + 1) ≠ 45)
  dig : ∀ j, f ≤ j → j < l.length → 48 ≤ nth l j ∧ nth l j ≤ 57
theorem exp_form (l : List UInt8) (q : Nat) (hq : q < l.length) (h : expOk (l.drop q) = true) : EForm l q (q + exFrom (l.drop q)) := by
  unfold expOk at h
  rw [decide_eq_true_eq] at h
  obtain ⟨h1, h2, h3, h4⟩ := h
  rw [List.length_drop] at h2
  rw [h2] at h3 h4
  have hs : (exFrom (l.drop q) = 2 ∧ nth l (q + 1) = 43) ∨ (exFrom (l.drop q) = 2 ∧ nth l (q + 1) = 45) ∨ (exFrom (l.drop q) = 1 ∧ ((nth l (q + 1) ≠ 43 ∧ nth l (q + 1) ≠ 45) ∨ l.length - q ≤ 1)) := by
    unfold exFrom
    rw [List.length_drop, nth_drop]
    by_cases g : 1 < l.length - q
    · by_cases g1 : nth l (q + 1) = 43
      · rw [if_pos ⟨g, .inl g1⟩]; exact .inl ⟨rfl, g1⟩
      · by_cases g2 : nth l (q + 1) = 45
        · rw [if_pos ⟨g, .inr g2⟩]; exact .inr (.inl ⟨rfl, g2⟩)
        · rw [if_neg (fun h => h.2.elim g1 g2)]; exact .inr (.inr ⟨rfl, .inl ⟨g1, g2⟩⟩)
    · rw [if_neg (fun h => g h.1)]; exact .inr (.inr ⟨rfl, .inr (by omega)⟩)
  refine ⟨?_, ?_, by omega, by omega, ?_, ?_⟩
  · rw [nth_drop] at h1; exact h1
  · rcases hs with ⟨e, _⟩ | ⟨e, _⟩ | ⟨e, _⟩ <;> rw [e] <;> omega
  · rcases hs with ⟨e, g⟩ | ⟨e, g⟩ | ⟨e, g⟩
    · rw [e]; exact .inl ⟨rfl, g⟩
    · rw [e]; exact .inr (.inl ⟨rfl, g⟩)
    · rw [e] at h3 ⊢
      exact .inr (.inr ⟨rfl, g.resolve_right (by omega)⟩)
  · intro j g1 g2
    have := past_dig (l.drop q) (exFrom (l.drop q)) (j - q - exFrom (l.drop q)) (j - q) (by omega) (by rw [h2]; omega)
    rw [nth_drop, show q + (j - q) = j by omega] at this
    exact this
theorem ret7 {m m' e e' : Int} {t t' : Bool} {n n' : Nat} (h1 : m = m') (h2 : e = e') (h3 : t = t') (h4 : n = n') : Ending.returned (.tuple #[.int .u64 m, .int .i64 e, .bool false, .bool t, .bool false, .int .i64 (n : Int), .bool true]) = .returned (.tuple #[.int .u64 m', .int .i64 e', .bool false, .bool t', .bool false, .int .i64 (n' : Int), .bool true]) := by rw [h1, h2, h3, h4]
theorem nox (c : Nat) (h : c = 46 ∨ (48 ≤ c ∧ c ≤ 57)) : (bits .or .u8 (c : Int) 32 == 120) = false := by
  have : c = 46 ∨ c = 48 ∨ c = 49 ∨ c = 50 ∨ c = 51 ∨ c = 52 ∨ c = 53 ∨ c = 54 ∨ c = 55 ∨ c = 56 ∨ c = 57 := by omega
  rcases this with rfl | rfl | rfl | rfl | rfl | rfl | rfl | rfl | rfl | rfl | rfl <;> rfl
end Go.Proofs.YtmlclgkhnekmnaaGreatDoor
namespace Go.Proofs.YtmlclgkhnekmnaaGreatDoor

/-- Whether what stands behind so many digits is rounded up. -/
def sru (x : Dc) (i : Int) : Bool :=
  if i < 0 ∨ (x.nd : Int) ≤ i then false
  else if dig x.D x.nd i.toNat = 5 ∧ i + 1 = x.nd then (if x.tr then true else decide (0 < i ∧ dig x.D x.nd (i.toNat - 1) % 2 ≠ 0))
  else decide (5 ≤ dig x.D x.nd i.toNat)
def rint1 (x : Dc) (i : Nat) : Nat := x.D / 10 ^ (x.nd - i) % 18446744073709551616
theorem rint1_next (x : Dc) (i : Nat) (h : i < x.nd) : (rint1 x i * 10 % 18446744073709551616 + dig x.D x.nd i) % 18446744073709551616 = rint1 x (i + 1) := by
  unfold rint1
  rw [pre_digit _ _ _ h]
  omega
def rint2 (n m : Nat) : Nat := n * 10 ^ m % 18446744073709551616
theorem rint2_next (n m : Nat) : rint2 n m * 10 % 18446744073709551616 = rint2 n (m + 1) := by
  unfold rint2
  rw [Nat.pow_succ, ← Nat.mul_assoc]
  omega
/-- How many digits stand ahead of the point, as far as there are some. -/
def rtop (x : Dc) : Nat := min x.dp.toNat x.nd
def rint (x : Dc) : Nat :=
  if 20 < x.dp then 18446744073709551615
  else (rint2 (rint1 x (rtop x)) (x.dp.toNat - rtop x) + (if sru x x.dp then 1 else 0)) % 18446744073709551616
def topA (x : Dc) : Dc × Int := loopA (muA x) (x, 0)
def topB (s : Dc × Int) : Dc × Int := loopB (muB s.1) s
def low (s : Dc × Int) : Dc × Int := if s.2 - 1 < -1022 then (shrN (-1022 - (s.2 - 1)).toNat s.1, -1022) else (s.1, s.2 - 1)
def bitsOv (x : Dc) : Bool :=
  if 310 < x.dp then true
  else if x.dp < -330 then false
  else
    let s := low (topB (topA x))
    if 1024 ≤ s.2 then true
    else if rint (shlN 53 s.1) = 9007199254740992 then decide (1023 ≤ s.2)
    else false
/-- The number of a float's digits, behind some bytes of its text. -/
def dAt (l : List UInt8) : Nat → Nat
  | 0 => 0
  | j + 1 => if nth l j = 46 then dAt l j else if nth l j = 48 ∧ (rfAt l j).nd = 0 then dAt l j else dAt l j * 10 + (nth l j - 48)
theorem rf_nd (l : List UInt8) (j : Nat) : (rfAt l (j + 1)).nd = if nth l j = 46 then (rfAt l j).nd else if nth l j = 48 ∧ (rfAt l j).nd = 0 then (rfAt l j).nd else (rfAt l j).nd + 1 := by
  rw [rfAt]
  unfold rfStep
  split
  · rfl
  · split
    · rfl
    · split <;> rfl
theorem rf_dp (l : List UInt8) (j : Nat) : (rfAt l (j + 1)).dp = if nth l j = 46 then ((rfAt l j).nd : Int) else if nth l j = 48 ∧ (rfAt l j).nd = 0 then (rfAt l j).dp - 1 else (rfAt l j).dp := by
  rw [rfAt]
  unfold rfStep
  split
  · rfl
  · split
    · rfl
    · split <;> rfl
theorem dAt_len {l : List UInt8} {p q : Nat} (F : FForm l p q) : ∀ j, j ≤ q → dAt l j < 10 ^ (rfAt l j).nd ∧ ((rfAt l j).nd = 0 ∨ Len (dAt l j) (rfAt l j).nd)
  | 0, _ => by simp [dAt, rfAt, rf0]
  | j + 1, h => by
    obtain ⟨a, b⟩ := dAt_len F j (by omega)
    have hc := F.dig j (by omega)
    rw [rf_nd, dAt]
    by_cases hp : j = p
    · subst hp
      rw [if_pos F.dot, if_pos F.dot]
      exact ⟨a, b⟩
    · obtain ⟨c1, c2⟩ := hc hp
      have h46 : ¬ nth l j = 46 := by omega
      rw [if_neg h46, if_neg h46]
      by_cases hz : nth l j = 48 ∧ (rfAt l j).nd = 0
      · rw [if_pos hz, if_pos hz]
        exact ⟨a, b⟩
      · rw [if_neg hz, if_neg hz]
        have hlt : dAt l j * 10 + (nth l j - 48) < 10 ^ ((rfAt l j).nd + 1) := by rw [p10s]; omega
        refine ⟨hlt, .inr ⟨by omega, ?_, hlt⟩⟩
        rw [Nat.add_sub_cancel]
        rcases b with b | b
        · rw [b] at a hz ⊢
          rw [Nat.pow_zero] at a ⊢
          omega
        · have e : 10 ^ (rfAt l j).nd = 10 * 10 ^ ((rfAt l j).nd - 1) := by rw [← p10s]; congr 1; have := b.n1; omega
          have := b.lo
          omega
theorem dig_push {D nd c i : Nat} (hc : c < 10) : (i < nd → dig (D * 10 + c) (nd + 1) i = dig D nd i) ∧ dig (D * 10 + c) (nd + 1) nd = c := by
  constructor
  · intro h
    rw [← dig_div _ _ _ h]
    congr 1
    omega
  · rw [dig_last]; omega
end Go.Proofs.YtmlclgkhnekmnaaGreatDoor
