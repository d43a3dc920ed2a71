/-
  num's LOOK AT LITERALS: pastDigits, pastWhole, isWhole at every string: what they return; nothing in memory turns. Condition: the string is one that a machine can hold.
-/
import Derived.Test.YtcbfohokigamfaaGreatDoorLStr
import Derived.WalkMore
import Derived.Test.YtcbfohokigamfaaGreatDoorShelf2
import Derived.WalkKit
import Derived.WalkLawsBesides
import Derived.Lib.Hide
import Derived.Outline
import Derived.LoopTactic
import Derived.Deep.LoopGhost
namespace Go.Proofs.YtcbfohokigamfaaGreatDoor
open Go.RowKit

/-- Is a byte a digit? -/
def isDig (c : UInt8) : Bool := decide (48 ≤ c.toNat ∧ c.toNat ≤ 57)
/-- Where the digits end that stand from place k on. -/
def past (l : List UInt8) (k : Nat) : Nat := k + ((l.drop k).takeWhile isDig).length
theorem past_end (l : List UInt8) (k : Nat) (h : l.length ≤ k) : past l k = k := by
  unfold past
  rw [List.drop_eq_nil_of_le h]
  rfl
theorem past_yes (l : List UInt8) (k : Nat) (h : k < l.length) (hd : isDig l[k] = true) : past l k = past l (k + 1) := by
  unfold past
  rw [List.drop_eq_getElem_cons h, List.takeWhile_cons, if_pos hd, List.length_cons]
  omega
theorem past_no (l : List UInt8) (k : Nat) (h : k < l.length) (hd : isDig l[k] = false) : past l k = k := by
  unfold past
  rw [List.drop_eq_getElem_cons h, List.takeWhile_cons, if_neg (by simp [hd])]
  rfl
theorem dig_of {c : UInt8} {z : Int} (h : ((c.toNat : Int) == z) = true) (h1 : 48 ≤ z) (h2 : z ≤ 57) : isDig c = true := by
  have : (c.toNat : Int) = z := by simpa using h
  unfold isDig
  simp only [decide_eq_true_eq]
  omega
theorem nodig_of {c : UInt8} (h0 : ((c.toNat : Int) == 48) = false) (h1 : ((c.toNat : Int) == 49) = false) (h2 : ((c.toNat : Int) == 50) = false) (h3 : ((c.toNat : Int) == 51) = false) (h4 : ((c.toNat : Int) == 52) = false)
    (h5 : ((c.toNat : Int) == 53) = false) (h6 : ((c.toNat : Int) == 54) = false) (h7 : ((c.toNat : Int) == 55) = false) (h8 : ((c.toNat : Int) == 56) = false) (h9 : ((c.toNat : Int) == 57) = false) : isDig c = false := by
  simp only [beq_eq_false_iff_ne, ne_eq] at h0 h1 h2 h3 h4 h5 h6 h7 h8 h9
  unfold isDig
  simp only [decide_eq_false_iff_not]
  omega
theorem round_yes (s : ByteArray) (j k : Nat) (hlt : j < s.size) (hd : isDig s[j] = true) (hp : past s.data.toList j = past s.data.toList k) : past s.data.toList (j + 1) = past s.data.toList k := by
  rw [← hp]
  exact (past_yes s.data.toList j (by simpa using hlt) hd).symm
theorem round_no (s : ByteArray) (j k : Nat) (hlt : j < s.size) (hd : isDig s[j] = false) (hp : past s.data.toList j = past s.data.toList k) : j = past s.data.toList k := by
  rw [← hp]
  exact (past_no s.data.toList j (by simpa using hlt) hd).symm
theorem ret_nat {a b : Nat} (h : a = b) : Ending.returned (.int .i64 (a : Int)) = .returned (.int .i64 (b : Int)) := by rw [h]
set_option maxHeartbeats 1000000 in
theorem past_any (s : ByteArray) (k : Nat) (hk : k ≤ s.size) (hs : s.size ≤ maxLen) (w : World) : Calls Tryz.prog 177 #[.string s, .int .i64 k] w fun e w' => e = .returned (.int .i64 (past s.data.toList k)) ∧ w = w' := by
  unfold maxLen at hs
  go_enter Tryz.func177, Tryz.ntmps177
  go_wp2
  go_step3
  go_wp2
  go_step3
  go_wp2
  go_loop [5] (fun i => ∃ j : Nat, j ≤ s.size ∧ i = .int .i64 j ∧ Hid (past s.data.toList j = past s.data.toList k)) (fun i => s.size - (RowKit.intOf i).toNat)
  case atStart => exact ⟨k, hk, rfl, Lib.hid rfl⟩
  case round =>
    obtain ⟨j, hj, rfl, hp⟩ := hrel
    by_cases hlt : j < s.size
    · go_wp2
      case roundEnd => exact ⟨⟨j + 1, by omega, by go_num, Lib.hid (round_yes s j k hlt (dig_of (by assumption) (by decide) (by decide)) hp.out)⟩, by simp [RowKit.intOf]; omega⟩
      case roundEnd => exact ⟨⟨j + 1, by omega, by go_num, Lib.hid (round_yes s j k hlt (dig_of (by assumption) (by decide) (by decide)) hp.out)⟩, by simp [RowKit.intOf]; omega⟩
      case roundEnd => exact ⟨⟨j + 1, by omega, by go_num, Lib.hid (round_yes s j k hlt (dig_of (by assumption) (by decide) (by decide)) hp.out)⟩, by simp [RowKit.intOf]; omega⟩
      case roundEnd => exact ⟨⟨j + 1, by omega, by go_num, Lib.hid (round_yes s j k hlt (dig_of (by assumption) (by decide) (by decide)) hp.out)⟩, by simp [RowKit.intOf]; omega⟩
      case roundEnd => exact ⟨⟨j + 1, by omega, by go_num, Lib.hid (round_yes s j k hlt (dig_of (by assumption) (by decide) (by decide)) hp.out)⟩, by simp [RowKit.intOf]; omega⟩
      case roundEnd => exact ⟨⟨j + 1, by omega, by go_num, Lib.hid (round_yes s j k hlt (dig_of (by assumption) (by decide) (by decide)) hp.out)⟩, by simp [RowKit.intOf]; omega⟩
      case roundEnd => exact ⟨⟨j + 1, by omega, by go_num, Lib.hid (round_yes s j k hlt (dig_of (by assumption) (by decide) (by decide)) hp.out)⟩, by simp [RowKit.intOf]; omega⟩
      case roundEnd => exact ⟨⟨j + 1, by omega, by go_num, Lib.hid (round_yes s j k hlt (dig_of (by assumption) (by decide) (by decide)) hp.out)⟩, by simp [RowKit.intOf]; omega⟩
      case roundEnd => exact ⟨⟨j + 1, by omega, by go_num, Lib.hid (round_yes s j k hlt (dig_of (by assumption) (by decide) (by decide)) hp.out)⟩, by simp [RowKit.intOf]; omega⟩
      case roundEnd => exact ⟨⟨j + 1, by omega, by go_num, Lib.hid (round_yes s j k hlt (dig_of (by assumption) (by decide) (by decide)) hp.out)⟩, by simp [RowKit.intOf]; omega⟩
      go_ret
      exact ⟨ret_nat (round_no s j k hlt (nodig_of (by assumption) (by assumption) (by assumption) (by assumption) (by assumption) (by assumption) (by assumption) (by assumption) (by assumption) (by assumption)) hp.out), rfl⟩
    · go_wp2
      go_ret
      refine ⟨ret_nat ?_, rfl⟩
      rw [← hp.out, past_end _ _ (by simp; omega)]
theorem past_le (l : List UInt8) (k : Nat) (h : k ≤ l.length) : past l k ≤ l.length := by
  unfold past
  have := (List.takeWhile_sublist isDig (l := l.drop k)).length_le
  rw [List.length_drop] at this
  omega
/-- Where the whole literal ends that a text begins with; 0, if it begins with none. -/
def wholeEnd (l : List UInt8) : Nat := if 1 < past l 0 ∧ l.headD 0 = 48 then 0 else past l 0
theorem head0 (s : ByteArray) (h : 0 < s.size) : s.data.toList.headD 0 = s[0] := by
  obtain ⟨⟨l⟩⟩ := s
  cases l with
  | nil => simp [ByteArray.size] at h
  | cons c l => rfl
theorem pastWhole_any (s : ByteArray) (hs : s.size ≤ maxLen) (w : World) : Calls Tryz.prog 174 #[.string s] w fun e w' => e = .returned (.int .i64 (wholeEnd s.data.toList)) ∧ w = w' := by
  have hle : past s.data.toList 0 ≤ s.size := by simpa using past_le s.data.toList 0 (Nat.zero_le _)
  have H : Hid (wholeEnd s.data.toList = if 1 < past s.data.toList 0 ∧ s.data.toList.headD 0 = 48 then 0 else past s.data.toList 0) := Lib.hid rfl
  have hp := past_any s 0 (Nat.zero_le _) hs w
  have HP := Lib.hid hp
  clear hp
  generalize past s.data.toList 0 = p at hle H HP
  unfold maxLen at hs
  by_cases h1 : 1 < p
  · have h0 : 0 < s.size := by omega
    have hh := head0 s h0
    by_cases hc : s[0] = 48
    · have hz : wholeEnd s.data.toList = 0 := by rw [H.out, if_pos ⟨h1, by rw [hh, hc]⟩]
      have hcb : ((s[0].toNat : Int) == 48) = true := by rw [hc]; rfl
      rw [hz]
      clear hh hc hz H
      go_enter Tryz.func174, Tryz.ntmps174
      go_wp2_with fail
      refine HP.out.mono ?_
      rintro e w' ⟨rfl, rfl⟩
      go_wp2_with fail
      go_ret
      exact ⟨rfl, rfl⟩
    · have hz : wholeEnd s.data.toList = p := by rw [H.out, if_neg]; rintro ⟨_, h⟩; rw [hh] at h; exact hc h
      have hcb : ((s[0].toNat : Int) == 48) = false := by
        simp only [beq_eq_false_iff_ne, ne_eq]
        intro h
        exact hc (UInt8.toNat_inj.1 (by show s[0].toNat = 48; omega))
      rw [hz]
      clear hh hc hz H
      go_enter Tryz.func174, Tryz.ntmps174
      go_wp2_with fail
      refine HP.out.mono ?_
      rintro e w' ⟨rfl, rfl⟩
      go_wp2_with fail
      go_ret
      exact ⟨rfl, rfl⟩
  · have hz : wholeEnd s.data.toList = p := by rw [H.out, if_neg]; rintro ⟨h, _⟩; exact h1 h
    rw [hz]
    clear hz H
    have hd : decide (1 < (p : Int)) = false := by simp; omega
    go_enter Tryz.func174, Tryz.ntmps174
    go_wp2_with fail
    refine HP.out.mono ?_
    rintro e w' ⟨rfl, rfl⟩
    go_wp2_with fail
    go_ret
    exact ⟨rfl, rfl⟩
theorem beq_cast (q n : Nat) : ((q : Int) == (n : Int)) = decide (q = n) := by
  rw [Bool.eq_iff_iff]
  simp only [beq_iff_eq, decide_eq_true_eq]
  omega
/-- Is a text a whole literal? -/
def wholeB (l : List UInt8) : Bool := !l.isEmpty && wholeEnd l == l.length
theorem isWhole_any (s : ByteArray) (hs : s.size ≤ maxLen) (w : World) : Calls Tryz.prog 151 #[.string s] w fun e w' => e = .returned (.bool (wholeB s.data.toList)) ∧ w = w' := by
  have HP := Lib.hid (pastWhole_any s hs w)
  unfold maxLen at hs
  have ht : s.toList = s.data.toList := ByteArray.toList_eq s
  by_cases hn : s.data.toList = []
  · have h1 : s.toList.isEmpty = true := by rw [ht, hn]; rfl
    have hz : wholeB s.data.toList = false := by unfold wholeB; rw [hn]; rfl
    rw [hz]
    clear hz ht hn
    go_enter Tryz.func151, Tryz.ntmps151
    go_wp2_with fail
    go_ret
    exact ⟨rfl, rfl⟩
  · have he : s.data.toList.isEmpty = false := by simpa using hn
    have h1 : s.toList.isEmpty = false := by rw [ht]; exact he
    have hz : wholeB s.data.toList = decide (wholeEnd s.data.toList = s.size) := by
      unfold wholeB
      rw [he, Array.length_toList]
      rfl
    rw [hz]
    generalize wholeEnd s.data.toList = q at HP
    clear hz ht hn he
    go_enter Tryz.func151, Tryz.ntmps151
    go_wp2_with fail
    refine HP.out.mono ?_
    rintro e w' ⟨rfl, rfl⟩
    go_wp2_with fail
    go_ret
    exact ⟨ret_bool (beq_cast q s.size), rfl⟩
theorem int_form (s : ByteArray) (hs : s.size ≤ maxLen) (h : wholeB s.data.toList = false) (w : World) : Calls Tryz.prog 130 #[.string s] w fun e w' => e = .returned (.tuple #[.int .i64 0, .int .i64 4]) ∧ w = w' := by
  have HW := Lib.hid (isWhole_any s hs w)
  clear hs
  go_enter Tryz.func130, Tryz.ntmps130
  go_wp2_with fail
  refine HW.out.mono ?_
  rintro e w' ⟨rfl, rfl⟩
  rw [h]
  go_wp2_with fail
  go_ret2
  exact ⟨rfl, rfl⟩
open Lib in
theorem int_ok (s : ByteArray) (v : Int) (hs : s.size ≤ 9223372036854775806) (h : wholeB s.data.toList = true) (hp : parseIntB 64 s.data.toList = .ok v) (w : World) :
    Calls Tryz.prog 130 #[.string s] w fun e w' => e = .returned (.tuple #[.int .i64 v, .int .i64 0]) ∧ Below w.heap.size w w' := by
  have HW := Lib.hid (isWhole_any s (by unfold maxLen; omega) w)
  have HP := Lib.hid (Tryz.strconv_ParseInt_10_at64_ok s hs v hp w)
  clear hp hs
  go_enter Tryz.func130, Tryz.ntmps130
  go_wp2_with fail
  refine HW.out.mono ?_
  rintro e w' ⟨rfl, rfl⟩
  rw [h]
  go_wp2_with fail
  refine HP.out.mono ?_
  rintro e w' ⟨rfl, hw⟩
  have hb : Below w.heap.size w w' := by
    rcases hw with rfl | ⟨t, rfl⟩
    · exact Below.refl _ _
    · exact Lib.bytesWorld_below ..
  have HB := Lib.hid hb
  clear hw hb
  go_wp2_with fail
  go_ret2
  exact ⟨rfl, HB.out⟩
/-- The two errors that the program's functions hand on. -/
def ErrIn (W : World) (g : Nat) : Prop := ∃ ev, W.cell? ⟨g, 0, none⟩ = some ev ∧ (ev = .nilIface ∨ ∃ te pe, ev = .iface te pe)
theorem int_range (s : ByteArray) (hs : s.size ≤ 1000000) (h : wholeB s.data.toList = true) (hp : Lib.parseIntB 64 s.data.toList = .range) (w : World) (hE : ErrIn w 5) :
    Calls Tryz.prog 130 #[.string s] w fun e w' => e = .returned (.tuple #[.int .i64 0, .int .i64 3]) ∧ Below w.heap.size w w' := by
  obtain ⟨ev, hv, hev⟩ := hE
  have HW := Lib.hid (isWhole_any s (by unfold maxLen; omega) w)
  have HP := Lib.hid (Tryz.strconv_ParseInt_10_at64_range s (by omega) hp ev w hv hev)
  clear hp hs hv hev
  go_enter Tryz.func130, Tryz.ntmps130
  go_wp2_with fail
  refine HW.out.mono ?_
  rintro e w' ⟨rfl, rfl⟩
  rw [h]
  go_wp2_with fail
  refine HP.out.mono ?_
  rintro e w' ⟨N, rfl, _, _, hb⟩
  have HB := Lib.hid hb
  clear hb
  go_wp2_with fail
  go_ret2
  exact ⟨rfl, HB.out⟩
theorem dig_is (c : UInt8) : isDig c = isD c := by
  rw [isD_eq]; unfold isDig
  rw [Bool.eq_iff_iff]; simp
theorem take_run (l : List UInt8) : (l.takeWhile isDig).length = run isD l := by
  induction l with
  | nil => rfl
  | cons c l ih =>
    rw [List.takeWhile_cons, run, dig_is]
    split
    · rw [List.length_cons, ih]
    · rfl
theorem past_run (l : List UInt8) (k : Nat) : past l k = k + run isD (l.drop k) := by unfold past; rw [take_run]
theorem whole_is (x : List UInt8) : wholeB x = decide (x ≠ [] ∧ wholeN x = x.length) := by
  have e : wholeEnd x = wholeN x := by
    unfold wholeEnd wholeN
    rw [past_run, List.drop_zero, Nat.zero_add]
    cases x with
    | nil => rfl
    | cons c l =>
      have : (fst (is1 48) (c :: l) = true) ↔ ((c :: l).headD 0 = 48) := by simp [fst, is1]
      by_cases h1 : 1 < run isD (c :: l)
      · by_cases h2 : (c :: l).headD 0 = 48
        · rw [if_pos ⟨h1, h2⟩, if_pos (by rw [this.2 h2]; simpa using h1)]
        · rw [if_neg (fun h => h2 h.2), if_neg (by rw [Bool.and_eq_true, this]; exact fun h => h2 h.2)]
      · rw [if_neg (fun h => h1 h.1), if_neg (by rw [Bool.and_eq_true]; simp [h1])]
  unfold wholeB
  rw [e, Bool.eq_iff_iff]
  cases x with
  | nil => simp
  | cons c l => simp
theorem decV_nil (n : Nat) : decV n [] = n := by unfold decV; rfl
theorem decV_cons (n : Nat) (c : UInt8) (l : List UInt8) : decV n (c :: l) = decV (10 * n + (c.toNat - 48)) l := by conv => lhs; unfold decV
theorem decV_ge (l : List UInt8) : ∀ acc : Nat, acc ≤ decV acc l := by
  induction l with
  | nil => intro acc; exact Nat.le_refl _
  | cons c l ih =>
    intro acc
    have := ih (10 * acc + (c.toNat - 48))
    rw [decV_cons]; omega
theorem parseUint_dig (M : Nat) (hM : M = 18446744073709551615) (l : List UInt8) : ∀ acc : Nat, (∀ c ∈ l, isD c = true) → acc ≤ M → Lib.parseUintM M acc l = if decV acc l ≤ M then .ok (decV acc l) else .range := by
  induction l with
  | nil => intro acc _ h; rw [Lib.parseUintM, decV_nil, if_pos h]
  | cons c l ih =>
    intro acc hd h
    have hc := hd c List.mem_cons_self
    rw [isD_eq, Bool.and_eq_true, decide_eq_true_eq, decide_eq_true_eq] at hc
    have hge := decV_ge l (10 * acc + (c.toNat - 48))
    have e : acc * 10 + (c.toNat - 48) = 10 * acc + (c.toNat - 48) := by omega
    have ih2 := ih (10 * acc + (c.toNat - 48)) (fun c hc => hd c (List.mem_cons_of_mem _ hc))
    rw [Lib.parseUintM, decV_cons, if_pos hc, e]
    generalize 10 * acc + (c.toNat - 48) = z at *
    by_cases h1 : 1844674407370955162 ≤ acc
    · rw [if_pos h1, if_neg (by omega)]
    · rw [if_neg h1]
      by_cases h2 : M < z
      · rw [if_pos h2, if_neg (by omega)]
      · rw [if_neg h2]
        exact ih2 (by omega)
theorem run_dig : ∀ (x : List UInt8), run isD x = x.length → ∀ c ∈ x, isD c = true
  | [], _, _, h => by cases h
  | d :: l, h, c, hc => by
    rw [run, List.length_cons] at h
    split at h
    · rename_i hd
      rcases List.mem_cons.1 hc with rfl | hc
      · exact hd
      · exact run_dig l (by omega) c hc
    · omega
theorem whole_dig {x : List UInt8} (h : x ≠ [] ∧ wholeN x = x.length) : ∀ c ∈ x, isD c = true := by
  have hp := List.length_pos_iff.2 h.1
  have h2 := h.2
  unfold wholeN at h2
  split at h2
  · omega
  · exact run_dig x h2
theorem parse_dig {x : List UInt8} (h : x ≠ [] ∧ wholeN x = x.length) : Lib.parseIntB 64 x = if decV 0 x < 9223372036854775808 then .ok ((decV 0 x : Nat) : Int) else .range := by
  have hd := whole_dig h
  cases x with
  | nil => exact absurd rfl h.1
  | cons c l =>
    have hc := hd c List.mem_cons_self
    rw [isD_eq, Bool.and_eq_true, decide_eq_true_eq, decide_eq_true_eq] at hc
    obtain ⟨M, hM⟩ : ∃ M : Nat, M = 18446744073709551615 := ⟨_, rfl⟩
    have hp := parseUint_dig M hM (c :: l) 0 hd (by omega)
    unfold Lib.parseIntB
    simp only
    rw [if_neg (by omega)]
    unfold Lib.parseUintB
    rw [if_neg (by simp), show 2 ^ 64 - 1 = M from hM.symm, hp]
    generalize decV 0 (c :: l) = V
    by_cases h1 : V ≤ M
    · rw [if_pos h1]
      simp only
      by_cases h2 : V < 9223372036854775808
      · rw [if_pos h2, if_neg (by omega), if_neg (by omega), if_neg (by omega)]
      · rw [if_neg h2, if_pos (by omega)]
    · rw [if_neg h1, if_neg (by omega)]
/-- What Int of a text hands back beside the number. -/
theorem int_any (s : ByteArray) (hs : s.size ≤ 1000000) (w : World) (hE : ErrIn w 5) : Calls Tryz.prog 130 #[.string s] w fun e w' => ∃ n : Int, e = .returned (.tuple #[.int .i64 n, .int .i64 (intF s.data.toList : Int)]) ∧ Below w.heap.size w w' := by
  unfold intF
  by_cases h : s.data.toList ≠ [] ∧ wholeN s.data.toList = s.data.toList.length
  · have hw : wholeB s.data.toList = true := by rw [whole_is, decide_eq_true h]
    have hp := parse_dig h
    rw [if_pos h]
    by_cases h1 : decV 0 s.data.toList < 9223372036854775808
    · rw [if_pos h1] at hp ⊢
      exact (int_ok s _ (by omega) hw hp w).mono fun e w' ⟨h1, h2⟩ => ⟨_, h1, h2⟩
    · rw [if_neg h1] at hp ⊢
      exact (int_range s hs hw hp w hE).mono fun e w' ⟨h1, h2⟩ => ⟨_, h1, h2⟩
  · rw [if_neg h]
    refine (int_form s (by unfold maxLen; omega) (by rw [whole_is, decide_eq_false h]) w).mono ?_
    rintro e w' ⟨h1, rfl⟩
    exact ⟨_, h1, Below.refl _ _⟩
end Go.Proofs.YtcbfohokigamfaaGreatDoor
