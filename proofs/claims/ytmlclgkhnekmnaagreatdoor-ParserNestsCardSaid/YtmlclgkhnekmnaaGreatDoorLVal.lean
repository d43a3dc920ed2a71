/- Part of a proof. -/
import Derived.Test.YtmlclgkhnekmnaaGreatDoorLStr
import Derived.WalkMore
import Derived.Test.YtmlclgkhnekmnaaGreatDoorShelf3
import Derived.WalkKit
import Derived.WalkLawsBesides
import Derived.Lib.Hide
import Derived.Outline
import Derived.LoopTactic
import Derived.Deep.LoopGhost
import Derived.Test.YtmlclgkhnekmnaaGreatDoorLGap2
import Derived.Lib.OthersKept
namespace Go.Proofs.YtmlclgkhnekmnaaGreatDoor
open Go.RowKit
def isDig (c : UInt8) : Bool := decide (48 ≤ c.toNat ∧ c.toNat ≤ 57)
def past (l : List UInt8) (k : Nat) : Nat := k + ((l.drop k).takeWhile isDig).length
theorem past_end (l : List UInt8) (k : Nat) (h : l.length ≤ k) : past l k = k := by
 unfold past
 rw [List.drop_eq_nil_of_le h]
 rfl
theorem past_yes (l : List UInt8) (k : Nat) (h : k < l.length) (hd : isDig l[k] = true) : past l k = past l (k + 1) := by
 unfold past
 rw [List.drop_eq_getElem_cons h, List.takeWhile_cons, if_pos hd, List.length_cons]
 omega
theorem past_no (l : List UInt8) (k : Nat) (h : k < l.length) (hd : isDig l[k] = false) : past l k = k := by
 unfold past
 rw [List.drop_eq_getElem_cons h, List.takeWhile_cons, if_neg (by simp [hd])]
 rfl
theorem dig_of {c : UInt8} {z : Int} (h : ((c.toNat : Int) == z) = true) (h1 : 48 ≤ z) (h2 : z ≤ 57) : isDig c = true := by
 have : (c.toNat : Int) = z := by simpa using h
 unfold isDig
 simp only [decide_eq_true_eq]
 omega
theorem nodig_of {c : UInt8} (h0 : ((c.toNat : Int) == 48) = false) (h1 : ((c.toNat : Int) == 49) = false) (h2 : ((c.toNat : Int) == 50) = false) (h3 : ((c.toNat : Int) == 51) = false) (h4 : ((c.toNat : Int) == 52) = false)
 (h5 : ((c.toNat : Int) == 53) = false) (h6 : ((c.toNat : Int) == 54) = false) (h7 : ((c.toNat : Int) == 55) = false) (h8 : ((c.toNat : Int) == 56) = false) (h9 : ((c.toNat : Int) == 57) = false) : isDig c = false := by
 simp only [beq_eq_false_iff_ne, ne_eq] at h0 h1 h2 h3 h4 h5 h6 h7 h8 h9
 unfold isDig
 simp only [decide_eq_false_iff_not]
 omega
theorem round_yes (s : ByteArray) (j k : Nat) (hlt : j < s.size) (hd : isDig s[j] = true) (hp : past s.data.toList j = past s.data.toList k) : past s.data.toList (j + 1) = past s.data.toList k := by
 rw [← hp]
 exact (past_yes s.data.toList j (by simpa using hlt) hd).symm
theorem round_no (s : ByteArray) (j k : Nat) (hlt : j < s.size) (hd : isDig s[j] = false) (hp : past s.data.toList j = past s.data.toList k) : j = past s.data.toList k := by
 rw [← hp]
 exact (past_no s.data.toList j (by simpa using hlt) hd).symm
theorem ret_nat {a b : Nat} (h : a = b) : Ending.returned (.int .i64 (a : Int)) = .returned (.int .i64 (b : Int)) := by rw [h]
set_option maxHeartbeats 1000000 in
theorem past_any (s : ByteArray) (k : Nat) (hk : k ≤ s.size) (hs : s.size ≤ maxLen) (w : World) : Calls Tryz.prog 159 #[.string s, .int .i64 k] w fun e w' => e = .returned (.int .i64 (past s.data.toList k)) ∧ w = w' := by
 unfold maxLen at hs
 go_enter Tryz.func159, Tryz.ntmps159
 go_wp2
 go_step3
 go_wp2
 go_step3
 go_wp2
 go_loop [5] (fun i => ∃ j : Nat, j ≤ s.size ∧ i = .int .i64 j ∧ Hid (past s.data.toList j = past s.data.toList k)) (fun i => s.size - (RowKit.intOf i).toNat)
 case atStart => exact ⟨k, hk, rfl, Lib.hid rfl⟩
 case round =>
  obtain ⟨j, hj, rfl, hp⟩ := hrel
  by_cases hlt : j < s.size
  · go_wp2
    case roundEnd => exact ⟨⟨j + 1, by omega, by go_num, Lib.hid (round_yes s j k hlt (dig_of (by assumption) (by decide) (by decide)) hp.out)⟩, by simp [RowKit.intOf]; omega⟩
    case roundEnd => exact ⟨⟨j + 1, by omega, by go_num, Lib.hid (round_yes s j k hlt (dig_of (by assumption) (by decide) (by decide)) hp.out)⟩, by simp [RowKit.intOf]; omega⟩
    case roundEnd => exact ⟨⟨j + 1, by omega, by go_num, Lib.hid (round_yes s j k hlt (dig_of (by assumption) (by decide) (by decide)) hp.out)⟩, by simp [RowKit.intOf]; omega⟩
    case roundEnd => exact ⟨⟨j + 1, by omega, by go_num, Lib.hid (round_yes s j k hlt (dig_of (by assumption) (by decide) (by decide)) hp.out)⟩, by simp [RowKit.intOf]; omega⟩
    case roundEnd => exact ⟨⟨j + 1, by omega, by go_num, Lib.hid (round_yes s j k hlt (dig_of (by assumption) (by decide) (by decide)) hp.out)⟩, by simp [RowKit.intOf]; omega⟩
    case roundEnd => exact ⟨⟨j + 1, by omega, by go_num, Lib.hid (round_yes s j k hlt (dig_of (by assumption) (by decide) (by decide)) hp.out)⟩, by simp [RowKit.intOf]; omega⟩
    case roundEnd => exact ⟨⟨j + 1, by omega, by go_num, Lib.hid (round_yes s j k hlt (dig_of (by assumption) (by decide) (by decide)) hp.out)⟩, by simp [RowKit.intOf]; omega⟩
    case roundEnd => exact ⟨⟨j + 1, by omega, by go_num, Lib.hid (round_yes s j k hlt (dig_of (by assumption) (by decide) (by decide)) hp.out)⟩, by simp [RowKit.intOf]; omega⟩
    case roundEnd => exact ⟨⟨j + 1, by omega, by go_num, Lib.hid (round_yes s j k hlt (dig_of (by assumption) (by decide) (by decide)) hp.out)⟩, by simp [RowKit.intOf]; omega⟩
    case roundEnd => exact ⟨⟨j + 1, by omega, by go_num, Lib.hid (round_yes s j k hlt (dig_of (by assumption) (by decide) (by decide)) hp.out)⟩, by simp [RowKit.intOf]; omega⟩
    go_ret
    exact ⟨ret_nat (round_no s j k hlt (nodig_of (by assumption) (by assumption) (by assumption) (by assumption) (by assumption) (by assumption) (by assumption) (by assumption) (by assumption) (by assumption)) hp.out), rfl⟩
  · go_wp2
    go_ret
    refine ⟨ret_nat ?_, rfl⟩
    rw [← hp.out, past_end _ _ (by simp; omega)]
theorem past_le (l : List UInt8) (k : Nat) (h : k ≤ l.length) : past l k ≤ l.length := by
 unfold past
 have := (List.takeWhile_sublist isDig (l := l.drop k)).length_le
 rw [List.length_drop] at this
 omega
def wholeEnd (l : List UInt8) : Nat := if 1 < past l 0 ∧ l.headD 0 = 48 then 0 else past l 0
theorem head0 (s : ByteArray) (h : 0 < s.size) : s.data.toList.headD 0 = s[0] := by
 obtain ⟨⟨l⟩⟩ := s
 cases l with
 | nil => simp [ByteArray.size] at h
 | cons c l => rfl
theorem pastWhole_any (s : ByteArray) (hs : s.size ≤ maxLen) (w : World) : Calls Tryz.prog 156 #[.string s] w fun e w' => e = .returned (.int .i64 (wholeEnd s.data.toList)) ∧ w = w' := by
 have hle : past s.data.toList 0 ≤ s.size := by simpa using past_le s.data.toList 0 (Nat.zero_le _)
 have H : Hid (wholeEnd s.data.toList = if 1 < past s.data.toList 0 ∧ s.data.toList.headD 0 = 48 then 0 else past s.data.toList 0) := Lib.hid rfl
 have hp := past_any s 0 (Nat.zero_le _) hs w
 have HP := Lib.hid hp
 clear hp
 generalize past s.data.toList 0 = p at hle H HP
 unfold maxLen at hs
 by_cases h1 : 1 < p
 · have h0 : 0 < s.size := by omega
   have hh := head0 s h0
   by_cases hc : s[0] = 48
   · have hz : wholeEnd s.data.toList = 0 := by rw [H.out, if_pos ⟨h1, by rw [hh, hc]⟩]
     have hcb : ((s[0].toNat : Int) == 48) = true := by rw [hc]; rfl
     rw [hz]
     clear hh hc hz H
     go_enter Tryz.func156, Tryz.ntmps156
     go_wp2_with fail
     refine HP.out.mono ?_
     rintro e w' ⟨rfl, rfl⟩
     go_wp2_with fail
     go_ret
     exact ⟨rfl, rfl⟩
   · have hz : wholeEnd s.data.toList = p := by rw [H.out, if_neg]; rintro ⟨_, h⟩; rw [hh] at h; exact hc h
     have hcb : ((s[0].toNat : Int) == 48) = false := by
      simp only [beq_eq_false_iff_ne, ne_eq]
      intro h
      exact hc (UInt8.toNat_inj.1 (by show s[0].toNat = 48; omega))
     rw [hz]
     clear hh hc hz H
     go_enter Tryz.func156, Tryz.ntmps156
     go_wp2_with fail
     refine HP.out.mono ?_
     rintro e w' ⟨rfl, rfl⟩
     go_wp2_with fail
     go_ret
     exact ⟨rfl, rfl⟩
 · have hz : wholeEnd s.data.toList = p := by rw [H.out, if_neg]; rintro ⟨h, _⟩; exact h1 h
   rw [hz]
   clear hz H
   have hd : decide (1 < (p : Int)) = false := by simp; omega
   go_enter Tryz.func156, Tryz.ntmps156
   go_wp2_with fail
   refine HP.out.mono ?_
   rintro e w' ⟨rfl, rfl⟩
   go_wp2_with fail
   go_ret
   exact ⟨rfl, rfl⟩
theorem beq_cast (q n : Nat) : ((q : Int) == (n : Int)) = decide (q = n) := by
 rw [Bool.eq_iff_iff]
 simp only [beq_iff_eq, decide_eq_true_eq]
 omega
def wholeB (l : List UInt8) : Bool := !l.isEmpty && wholeEnd l == l.length
theorem isWhole_any (s : ByteArray) (hs : s.size ≤ maxLen) (w : World) : Calls Tryz.prog 136 #[.string s] w fun e w' => e = .returned (.bool (wholeB s.data.toList)) ∧ w = w' := by
 have HP := Lib.hid (pastWhole_any s hs w)
 unfold maxLen at hs
 have ht : s.toList = s.data.toList := ByteArray.toList_eq s
 by_cases hn : s.data.toList = []
 · have h1 : s.toList.isEmpty = true := by rw [ht, hn]; rfl
   have hz : wholeB s.data.toList = false := by unfold wholeB; rw [hn]; rfl
   rw [hz]
   clear hz ht hn
   go_enter Tryz.func136, Tryz.ntmps136
   go_wp2_with fail
   go_ret
   exact ⟨rfl, rfl⟩
 · have he : s.data.toList.isEmpty = false := by simpa using hn
   have h1 : s.toList.isEmpty = false := by rw [ht]; exact he
   have hz : wholeB s.data.toList = decide (wholeEnd s.data.toList = s.size) := by
    unfold wholeB
    rw [he, Array.length_toList]
    rfl
   rw [hz]
   generalize wholeEnd s.data.toList = q at HP
   clear hz ht hn he
   go_enter Tryz.func136, Tryz.ntmps136
   go_wp2_with fail
   refine HP.out.mono ?_
   rintro e w' ⟨rfl, rfl⟩
   go_wp2_with fail
   go_ret
   exact ⟨ret_bool (beq_cast q s.size), rfl⟩
theorem int_form (s : ByteArray) (hs : s.size ≤ maxLen) (h : wholeB s.data.toList = false) (w : World) : Calls Tryz.prog 112 #[.string s] w fun e w' => e = .returned (.tuple #[.int .i64 0, .int .i64 4]) ∧ w = w' := by
 have HW := Lib.hid (isWhole_any s hs w)
 clear hs
 go_enter Tryz.func112, Tryz.ntmps112
 go_wp2_with fail
 refine HW.out.mono ?_
 rintro e w' ⟨rfl, rfl⟩
 rw [h]
 go_wp2_with fail
 go_ret2
 exact ⟨rfl, rfl⟩
open Lib in
theorem int_ok (s : ByteArray) (v : Int) (hs : s.size ≤ 9223372036854775806) (h : wholeB s.data.toList = true) (hp : parseIntB 64 s.data.toList = .ok v) (w : World) :
 Calls Tryz.prog 112 #[.string s] w fun e w' => e = .returned (.tuple #[.int .i64 v, .int .i64 0]) ∧ Below w.heap.size w w' := by
 have HW := Lib.hid (isWhole_any s (by unfold maxLen; omega) w)
 have HP := Lib.hid (Tryz.strconv_ParseInt_10_at64_ok s hs v hp w)
 clear hp hs
 go_enter Tryz.func112, Tryz.ntmps112
 go_wp2_with fail
 refine HW.out.mono ?_
 rintro e w' ⟨rfl, rfl⟩
 rw [h]
 go_wp2_with fail
 refine HP.out.mono ?_
 rintro e w' ⟨rfl, hw⟩
 have hb : Below w.heap.size w w' := by
  rcases hw with rfl | ⟨t, rfl⟩
  · exact Below.refl _ _
  · exact Lib.bytesWorld_below ..
 have HB := Lib.hid hb
 clear hw hb
 go_wp2_with fail
 go_ret2
 exact ⟨rfl, HB.out⟩
def ErrIn (W : World) (g : Nat) : Prop := ∃ ev, W.cell? ⟨g, 0, none⟩ = some ev ∧ (ev = .nilIface ∨ ∃ te pe, ev = .iface te pe)
theorem int_range (s : ByteArray) (hs : s.size ≤ 1000000) (h : wholeB s.data.toList = true) (hp : Lib.parseIntB 64 s.data.toList = .range) (w : World) (hE : ErrIn w 5) :
 Calls Tryz.prog 112 #[.string s] w fun e w' => e = .returned (.tuple #[.int .i64 0, .int .i64 3]) ∧ Below w.heap.size w w' := by
 obtain ⟨ev, hv, hev⟩ := hE
 have HW := Lib.hid (isWhole_any s (by unfold maxLen; omega) w)
 have HP := Lib.hid (Tryz.strconv_ParseInt_10_at64_range s (by omega) hp ev w hv hev)
 clear hp hs hv hev
 go_enter Tryz.func112, Tryz.ntmps112
 go_wp2_with fail
 refine HW.out.mono ?_
 rintro e w' ⟨rfl, rfl⟩
 rw [h]
 go_wp2_with fail
 refine HP.out.mono ?_
 rintro e w' ⟨N, rfl, _, _, hb⟩
 have HB := Lib.hid hb
 clear hb
 go_wp2_with fail
 go_ret2
 exact ⟨rfl, HB.out⟩
theorem dig_is (c : UInt8) : isDig c = isD c := by
 rw [isD_eq]; unfold isDig
 rw [Bool.eq_iff_iff]; simp
theorem take_run (l : List UInt8) : (l.takeWhile isDig).length = run isD l := by
 induction l with
 | nil => rfl
 | cons c l ih =>
  rw [List.takeWhile_cons, run, dig_is]
  split
  · rw [List.length_cons, ih]
  · rfl
theorem past_run (l : List UInt8) (k : Nat) : past l k = k + run isD (l.drop k) := by unfold past; rw [take_run]
theorem whole_is (x : List UInt8) : wholeB x = decide (x ≠ [] ∧ wholeN x = x.length) := by
 have e : wholeEnd x = wholeN x := by
  unfold wholeEnd wholeN
  rw [past_run, List.drop_zero, Nat.zero_add]
  cases x with
  | nil => rfl
  | cons c l =>
   have : (fst (is1 48) (c :: l) = true) ↔ ((c :: l).headD 0 = 48) := by simp [fst, is1]
   by_cases h1 : 1 < run isD (c :: l)
   · by_cases h2 : (c :: l).headD 0 = 48
     · rw [if_pos ⟨h1, h2⟩, if_pos (by rw [this.2 h2]; simpa using h1)]
     · rw [if_neg (fun h => h2 h.2), if_neg (by rw [Bool.and_eq_true, this]; exact fun h => h2 h.2)]
   · rw [if_neg (fun h => h1 h.1), if_neg (by rw [Bool.and_eq_true]; simp [h1])]
 unfold wholeB
 rw [e, Bool.eq_iff_iff]
 cases x with
 | nil => simp
 | cons c l => simp
theorem decV_nil (n : Nat) : decV n [] = n := by unfold decV; rfl
theorem decV_cons (n : Nat) (c : UInt8) (l : List UInt8) : decV n (c :: l) = decV (10 * n + (c.toNat - 48)) l := by conv => lhs; unfold decV
theorem decV_ge (l : List UInt8) : ∀ acc : Nat, acc ≤ decV acc l := by
 induction l with
 | nil => intro acc; exact Nat.le_refl _
 | cons c l ih =>
  intro acc
  have := ih (10 * acc + (c.toNat - 48))
  rw [decV_cons]; omega
theorem parseUint_dig (M : Nat) (hM : M = 18446744073709551615) (l : List UInt8) : ∀ acc : Nat, (∀ c ∈ l, isD c = true) → acc ≤ M → Lib.parseUintM M acc l = if decV acc l ≤ M then .ok (decV acc l) else .range := by
 induction l with
 | nil => intro acc _ h; rw [Lib.parseUintM, decV_nil, if_pos h]
 | cons c l ih =>
  intro acc hd h
  have hc := hd c List.mem_cons_self
  rw [isD_eq, Bool.and_eq_true, decide_eq_true_eq, decide_eq_true_eq] at hc
  have hge := decV_ge l (10 * acc + (c.toNat - 48))
  have e : acc * 10 + (c.toNat - 48) = 10 * acc + (c.toNat - 48) := by omega
  have ih2 := ih (10 * acc + (c.toNat - 48)) (fun c hc => hd c (List.mem_cons_of_mem _ hc))
  rw [Lib.parseUintM, decV_cons, if_pos hc, e]
  generalize 10 * acc + (c.toNat - 48) = z at *
  by_cases h1 : 1844674407370955162 ≤ acc
  · rw [if_pos h1, if_neg (by omega)]
  · rw [if_neg h1]
    by_cases h2 : M < z
    · rw [if_pos h2, if_neg (by omega)]
    · rw [if_neg h2]
      exact ih2 (by omega)
theorem run_dig : ∀ (x : List UInt8), run isD x = x.length → ∀ c ∈ x, isD c = true
 | [], _, _, h => by cases h
 | d :: l, h, c, hc => by
  rw [run, List.length_cons] at h
  split at h
  · rename_i hd
    rcases List.mem_cons.1 hc with rfl | hc
    · exact hd
    · exact run_dig l (by omega) c hc
  · omega
theorem whole_dig {x : List UInt8} (h : x ≠ [] ∧ wholeN x = x.length) : ∀ c ∈ x, isD c = true := by
 have hp := List.length_pos_iff.2 h.1
 have h2 := h.2
 unfold wholeN at h2
 split at h2
 · omega
 · exact run_dig x h2
theorem parse_dig {x : List UInt8} (h : x ≠ [] ∧ wholeN x = x.length) : Lib.parseIntB 64 x = if decV 0 x < 9223372036854775808 then .ok ((decV 0 x : Nat) : Int) else .range := by
 have hd := whole_dig h
 cases x with
 | nil => exact absurd rfl h.1
 | cons c l =>
  have hc := hd c List.mem_cons_self
  rw [isD_eq, Bool.and_eq_true, decide_eq_true_eq, decide_eq_true_eq] at hc
  obtain ⟨M, hM⟩ : ∃ M : Nat, M = 18446744073709551615 := ⟨_, rfl⟩
  have hp := parseUint_dig M hM (c :: l) 0 hd (by omega)
  unfold Lib.parseIntB
  simp only
  rw [if_neg (by omega)]
  unfold Lib.parseUintB
  rw [if_neg (by simp), show 2 ^ 64 - 1 = M from hM.symm, hp]
  generalize decV 0 (c :: l) = V
  by_cases h1 : V ≤ M
  · rw [if_pos h1]
    simp only
    by_cases h2 : V < 9223372036854775808
    · rw [if_pos h2, if_neg (by omega), if_neg (by omega), if_neg (by omega)]
    · rw [if_neg h2, if_pos (by omega)]
  · rw [if_neg h1, if_neg (by omega)]
theorem int_any (s : ByteArray) (hs : s.size ≤ 1000000) (w : World) (hE : ErrIn w 5) : Calls Tryz.prog 112 #[.string s] w fun e w' => ∃ n : Int, e = .returned (.tuple #[.int .i64 n, .int .i64 (intF s.data.toList : Int)]) ∧ Below w.heap.size w w' := by
 unfold intF
 by_cases h : s.data.toList ≠ [] ∧ wholeN s.data.toList = s.data.toList.length
 · have hw : wholeB s.data.toList = true := by rw [whole_is, decide_eq_true h]
   have hp := parse_dig h
   rw [if_pos h]
   by_cases h1 : decV 0 s.data.toList < 9223372036854775808
   · rw [if_pos h1] at hp ⊢
     exact (int_ok s _ (by omega) hw hp w).mono fun e w' ⟨h1, h2⟩ => ⟨_, h1, h2⟩
   · rw [if_neg h1] at hp ⊢
     exact (int_range s hs hw hp w hE).mono fun e w' ⟨h1, h2⟩ => ⟨_, h1, h2⟩
 · rw [if_neg h]
   refine (int_form s (by unfold maxLen; omega) (by rw [whole_is, decide_eq_false h]) w).mono ?_
   rintro e w' ⟨h1, rfl⟩
   exact ⟨_, h1, Below.refl _ _⟩
end Go.Proofs.YtmlclgkhnekmnaaGreatDoor
namespace Go.Proofs.YtmlclgkhnekmnaaGreatDoor
open Go.RowKit
structure Facts (W : World) : Prop where
 tabs : Lib.Utf8Tabs 0 1 W
 marks : MarksIn W
 rng : ErrIn W 5
theorem marks_below {W W' : World} (h : MarksIn W) (hb : Below W.heap.size W W') : MarksIn W' := fun j m hm => cell_keep2 hb (h j m hm)
theorem err_below {W W' : World} {g : Nat} (h : ErrIn W g) (hb : Below W.heap.size W W') : ErrIn W' g := by
 obtain ⟨ev, h1, h2⟩ := h
 exact ⟨ev, cell_keep2 hb h1, h2⟩
theorem Facts.below {W W' : World} (h : Facts W) (hb : Below W.heap.size W W') : Facts W' :=
 ⟨Go.Proofs.Utf8Tabs_below h.tabs hb, marks_below h.marks hb, err_below h.rng hb⟩
theorem decodeGo_rest (s : ByteArray) (k : Nat) (h : k < s.size) : Lib.decodeGo (s.extract k s.size) = if pt (rest s k) < 0 then (65533, 1) else ((pt (rest s k)).toNat, wd (rest s k)) := by
 have e : (s.extract k s.size).data.toList = s.data.toList.drop k := Lib.extract_to_end s k
 have hz : (s.extract k s.size).size = s.size - k := by
  show (s.extract k s.size).data.size = _
  rw [← Array.length_toList, e, List.length_drop]
  rfl
 unfold Lib.decodeGo
 rw [if_neg (by omega), decode_pt, List.drop_zero, e]
 rfl
theorem dec_at (s : ByteArray) (k : Nat) (h : k < s.size) (w : World) (hT : Lib.Utf8Tabs 0 1 w) :
 Calls Tryz.prog 84 #[.string (s.extract k s.size)] w fun e w' => e = .returned (.tuple #[.int .i32 (ptR (rest s k)), .int .i64 (wd (rest s k) : Nat)]) ∧ Below w.heap.size w w' := by
 have hc := Tryz.utf8_DecodeRuneInString (s.extract k s.size) w hT
 rw [decodeGo_rest s k h] at hc
 unfold ptR
 by_cases hp : pt (rest s k) < 0
 · rw [if_pos hp] at hc ⊢
   rw [(pt_neg _ hp).2]
   exact hc
 · rw [if_neg hp] at hc ⊢
   have e : (((pt (rest s k)).toNat : Nat) : Int) = pt (rest s k) := by omega
   have hc2 := hc
   simp only [e] at hc2
   exact hc2
theorem ptR_bounds (l : List UInt8) : 0 ≤ ptR l ∧ ptR l ≤ 1114111 := by
 unfold ptR
 have := pt_le l
 split <;> omega
theorem decN_fffd (a b c d : Nat) (h : (decN a b c d).1 = 65533) (ha : a < 256) : (decN a b c d).2 = 3 := by
 revert h
 unfold decN
 repeat' split
 all_goals first | (intro _; rfl) | (simp only; omega) | (intro h; simp at h)
theorem pt_fffd (l : List UInt8) (h : pt l = 65533) : wd l = 3 := decN_fffd _ _ _ _ h (nth_lt l 0)
theorem iterPos_of {w : World} {k : Nat} {s : ByteArray} {pos : Nat} (h : w.heap[k]? = some (.stringIter s pos)) : w.iterPos k = pos := by
 unfold World.iterPos; rw [h]
theorem below_iter (w : World) (s : ByteArray) (pos : Nat) : Below w.heap.size w (w.iter s pos) := (Below.refl _ _).alloc (Nat.le_refl _) _
theorem decode_ptR (s : ByteArray) (k : Nat) : (((Utf8.decode s k).1 : Nat) : Int) = ptR (rest s k) ∧ (Utf8.decode s k).2 = wd (rest s k) := by
 have h := decode_pt s k
 have e : s.data.toList.drop k = rest s k := rfl
 rw [e] at h
 unfold ptR
 by_cases hp : pt (rest s k) < 0
 · rw [if_pos hp] at h ⊢
   rw [h, (pt_neg _ hp).2]
   exact ⟨rfl, rfl⟩
 · rw [if_neg hp] at h ⊢
   rw [h]
   exact ⟨by simp only; omega, rfl⟩
set_option maxRecDepth 100000 in
set_option maxHeartbeats 1000000 in
theorem pastUTF8_any (s : ByteArray) (w : World) (hF : Facts w) :
 Calls Tryz.prog 58 #[.string s] w fun e w' => e = .returned (.int .i64 (good s.data.toList : Nat)) ∧ Below w.heap.size w w' := by
 have HF := Lib.hid hF
 clear hF
 go_enter Tryz.func58, Tryz.ntmps58
 go_wp2
 go_loopw [] (fun wr => ∃ (pos : Nat), wr.heap[w.heap.size]? = some (.stringIter s pos) ∧ pos ≤ s.size ∧ Hid (Below w.heap.size w wr) ∧ Hid (pos + good (rest s pos) = good s.data.toList)) (fun wr => s.size - wr.iterPos w.heap.size)
 case atStart => exact ⟨0, World.iter_heap _ _ _, Nat.zero_le _, Lib.hid (below_iter _ _ _), Lib.hid (by rw [rest_zero, Nat.zero_add])⟩
 case round =>
  obtain ⟨pos, hit, hple, hb, hv⟩ := hrel
  by_cases hp : pos < s.size
  · have hnx : ∀ ty, (Instr.next (.pointer (some ⟨w.heap.size, 0, none⟩)) true ty).run Tryz.prog wr = _ := fun ty => Lib.run_next_any_at wr w.heap.size s pos ty hit hp
    obtain ⟨e1, e2⟩ := decode_ptR s pos
    have hne := rest_ne s pos hp
    have hw := wd_le _ hne
    have hwp := wd_pos (rest s pos)
    rw [rest_len] at hw
    have hfd := pt_fffd (rest s pos)
    have hng := pt_neg (rest s pos)
    have hbad := good_bad _ hne
    have hcons := good_cons _ hne
    rw [rest_drop] at hcons
    have HD := Lib.hid (fun W hT => dec_at s pos hp W hT)
    have hpr : ptR (rest s pos) = if pt (rest s pos) < 0 then 65533 else pt (rest s pos) := rfl
    have hpb := ptR_bounds (rest s pos)
    rw [e2, e1] at hnx
    generalize ptR (rest s pos) = r at *
    generalize pt (rest s pos) = p at *
    generalize wd (rest s pos) = k at *
    have hW := Lib.iterAt_heap wr w.heap.size s pos (pos + k) hit
    have hB : Below w.heap.size w (wr.iterAt w.heap.size s (pos + k)) := Lib.below_iterAt hb.out (Nat.le_refl _) s (pos + k)
    generalize wr.iterAt w.heap.size s (pos + k) = W at *
    have HW := Lib.hid hW
    have HB := Lib.hid hB
    have HFW := Lib.hid (HF.out.below hB)
    have HI := Lib.hid hit
    clear hW hB hit e1 e2 hne
    by_cases hr : r = 65533
    · have hrb : (r == 65533) = true := by simp [hr]
      have hrn : (r != 65533) = false := by simp [hr]
      by_cases hneg : p < 0
      · obtain ⟨_, rfl⟩ := hng hneg
        have HG : Hid (pos = good s.data.toList) := Lib.hid (by rw [← hv.out, hbad hneg]; rfl)
        clear hfd hbad hcons hneg hpr hng
        subst hr
        go_wp2_with fail
        refine (HD.out _ HFW.out.tabs).mono ?_
        rintro e w1 ⟨rfl, hb1⟩
        have HB1 := Lib.hid (HB.out.trans (hb1.mono HB.out.size))
        clear hb1
        go_wp2_with fail
        go_ret
        exact ⟨ret_i64 (by rw [← HG.out]), HB1.out⟩
      · have hk3 : k = 3 := hfd (by rw [if_neg hneg] at hpr; omega)
        have HG : Hid (pos + k + good (rest s (pos + k)) = good s.data.toList) := Lib.hid (by rw [← hv.out, hcons hneg]; omega)
        have hk1 : ((k : Int) == 1) = false := by simp only [beq_eq_false_iff_ne, ne_eq]; omega
        clear hfd hbad hcons hneg hpr hng
        subst hr
        go_wp2_with fail
        refine (HD.out _ HFW.out.tabs).mono ?_
        rintro e w1 ⟨rfl, hb1⟩
        have HB1 := Lib.hid (HB.out.trans (hb1.mono HB.out.size))
        have HW1 := Lib.hid (heap_keep hb1 HW.out)
        clear hb1
        go_wp2_with fail
        go_roundw
        case rel => exact ⟨pos + k, HW1.out, by omega, HB1, HG⟩
        case measure => rw [iterPos_of HW1.out, iterPos_of HI.out]; omega
    · have hrb : (r == 65533) = false := by simpa using hr
      have hrn : (r != 65533) = true := by simpa using hr
      have hneg : ¬ p < 0 := fun h => hr (by rw [if_pos h] at hpr; exact hpr)
      have HG : Hid (pos + k + good (rest s (pos + k)) = good s.data.toList) := Lib.hid (by rw [← hv.out, hcons hneg]; omega)
      clear hfd hbad hcons hneg hpr hng
      go_wp2_with fail
      go_roundw
      case rel => exact ⟨pos + k, HW.out, by omega, HB, HG⟩
      case measure => rw [iterPos_of HW.out, iterPos_of HI.out]; omega
  · have hnx : ∀ ty, (Instr.next (.pointer (some ⟨w.heap.size, 0, none⟩)) true ty).run Tryz.prog wr = _ := fun ty => Lib.run_next_end_at wr w.heap.size s pos ty hit hp
    have HG : Hid (s.size = good s.data.toList) := Lib.hid (by rw [← hv.out, rest_end s pos hp, good_nil]; omega)
    go_wp2
    go_ret
    exact ⟨ret_i64 (by rw [← HG.out]), hb.out⟩
end Go.Proofs.YtmlclgkhnekmnaaGreatDoor
namespace Go.Proofs.YtmlclgkhnekmnaaGreatDoor
open Go.RowKit
def valV : Except Nat (List UInt8) → Value
 | .error e => .tuple #[.string ⟨#[]⟩, .int .i64 (e : Int)]
 | .ok v => .tuple #[.string ⟨v.toArray⟩, .int .i64 0]
def valE : Except Nat (List UInt8) → Nat
 | .error e => e
 | .ok _ => 0
theorem valF_eq (x : List UInt8) : valF x = valE (valR x) := by
 unfold valF
 cases valR x <;> rfl
theorem valV_shape (o : Except Nat (List UInt8)) : ∃ x, valV o = .tuple #[.string x, .int .i64 (valE o : Int)] := by
 cases o with
 | error e => exact ⟨_, rfl⟩
 | ok v => exact ⟨_, rfl⟩
set_option maxRecDepth 100000 in
set_option maxHeartbeats 1000000 in
theorem value_any (s : ByteArray) (hs : s.size ≤ 1000000) (w : World) (hF : Facts w) : Calls Tryz.prog 93 #[.string s] w fun e w' => e = .returned (valV (valR s.data.toList)) ∧ Below w.heap.size w w' := by
 have hsz : s.data.toList.length = s.size := rfl
 have HU := Lib.hid (unquoted_any s 0 (Nat.zero_le _) hs w)
 rw [rest_zero] at HU
 have HF := Lib.hid hF
 have HP := Lib.hid (fun (w : World) (h : Facts w) => pastUTF8_any s w h)
 have hg := good_le s.data.toList
 rw [hsz] at hg
 unfold valR
 rw [hsz]
 clear hF hsz
 cases hu : uqS s.data.toList with
 | none =>
  rw [hu] at HU
  unfold UqEnd at HU
  simp only [valV] at HU ⊢
  clear hu HP
  go_enter Tryz.func93, Tryz.ntmps93
  go_wp2_with fail
  refine HU.out.mono ?_
  rintro e w1 ⟨rfl, hb⟩
  have HB := Lib.hid hb
  clear hb
  go_wp2_with fail
  go_ret2
  exact ⟨rfl, HB.out⟩
 | some p =>
  obtain ⟨v, n⟩ := p
  have hn := uqS_len hu
  rw [hu] at HU
  unfold UqEnd at HU
  simp only [Nat.zero_add] at HU
  simp only
  obtain ⟨hn1, hn2, hn3⟩ := hn
  have hn2 : n ≤ s.size := hn2
  have q0 : (((n : Nat) : Int) == 0) = false := by simp only [beq_eq_false_iff_ne, ne_eq]; omega
  clear hu
  generalize good s.data.toList = g at *
  by_cases h1 : n < s.size
  · rw [if_pos (.inl h1)]
    have q1 : decide ((n : Int) < (s.size : Int)) = true := by rw [decide_eq_true_eq]; omega
    simp only [valV]
    clear HP
    go_enter Tryz.func93, Tryz.ntmps93
    go_wp2_with fail
    refine HU.out.mono ?_
    rintro e w1 ⟨v1, rfl, hown, hb⟩
    obtain ⟨A, cp, rfl⟩ := slice_form hown
    have HB := Lib.hid hb
    clear hb hown
    go_wp2_with fail
    go_ret2
    exact ⟨rfl, HB.out⟩
  · have q1 : decide ((n : Int) < (s.size : Int)) = false := by rw [decide_eq_false_iff_not]; omega
    by_cases h2 : g < s.size
    · rw [if_pos (.inr h2)]
      have q2 : decide ((g : Int) < (s.size : Int)) = true := by rw [decide_eq_true_eq]; omega
      simp only [valV]
      go_enter Tryz.func93, Tryz.ntmps93
      go_wp2_with fail
      refine HU.out.mono ?_
      rintro e w1 ⟨v1, rfl, hown, hb⟩
      obtain ⟨A, cp, rfl⟩ := slice_form hown
      have HB := Lib.hid hb
      clear hb hown
      go_wp2_with fail
      refine (HP.out _ (HF.out.below HB.out)).mono ?_
      rintro e w2 ⟨rfl, hb2⟩
      have HB2 := Lib.hid (HB.out.trans (hb2.mono HB.out.size))
      clear hb2
      go_wp2_with fail
      go_ret2
      exact ⟨rfl, HB2.out⟩
    · rw [if_neg (by omega)]
      have q2 : decide ((g : Int) < (s.size : Int)) = false := by rw [decide_eq_false_iff_not]; omega
      by_cases h3 : 4096 < v.length
      · rw [if_pos h3]
        have q3 : decide (4096 < (v.length : Int)) = true := by rw [decide_eq_true_eq]; omega
        simp only [valV]
        go_enter Tryz.func93, Tryz.ntmps93
        go_wp2_with fail
        refine HU.out.mono ?_
        rintro e w1 ⟨v1, rfl, hown, hb⟩
        obtain ⟨A, cp, rfl⟩ := slice_form hown
        have HB := Lib.hid hb
        clear hb hown
        go_wp2_with fail
        refine (HP.out _ (HF.out.below HB.out)).mono ?_
        rintro e w2 ⟨rfl, hb2⟩
        have HB2 := Lib.hid (HB.out.trans (hb2.mono HB.out.size))
        clear hb2
        go_wp2_with fail
        go_ret2
        exact ⟨rfl, HB2.out⟩
      · rw [if_neg h3]
        have q3 : decide (4096 < (v.length : Int)) = false := by rw [decide_eq_false_iff_not]; omega
        simp only [valV]
        go_enter Tryz.func93, Tryz.ntmps93
        go_wp2_with fail
        refine HU.out.mono ?_
        rintro e w1 ⟨v1, rfl, hown, hb⟩
        obtain ⟨A, cp, rfl⟩ := slice_form hown
        have HB := Lib.hid hb
        have HO := Lib.hid hown
        clear hb hown
        go_wp2_with fail
        refine (HP.out _ (HF.out.below HB.out)).mono ?_
        rintro e w2 ⟨rfl, hb2⟩
        have hcv := str_conv (ownsRow_below HO.out hb2)
        have HB2 := Lib.hid (HB.out.trans (hb2.mono HB.out.size))
        clear hb2
        go_wp2_with fail
        go_ret2
        exact ⟨rfl, HB2.out⟩
structure FSpec (FW : World → Prop) (ff : List UInt8 → Nat) (OK : List UInt8 → Prop) : Prop where
 keep : ∀ w w', FW w → Below w.heap.size w w' → FW w'
 ask : ∀ x : ByteArray, OK x.data.toList → ∀ w, FW w → Calls Tryz.prog 113 #[.string x] w fun e w' => ∃ v : Value, e = .returned (.tuple #[v, .int .i64 (ff x.data.toList : Int)]) ∧ Below w.heap.size w w'
set_option maxRecDepth 100000 in
set_option maxHeartbeats 1000000 in
theorem fault_any {FW : World → Prop} {ff : List UInt8 → Nat} {OK : List UInt8 → Prop} (hS : FSpec FW ff OK) (q : Nat) (h1 : 1 ≤ q) (h7 : q ≤ 7) (s : ByteArray) (hs : s.size ≤ 1000000) (hO : q = 4 → OK s.data.toList) (w : World) (hF : Facts w) (hW : FW w) : Calls Tryz.prog 89 #[.int .i64 (q : Int), .string s] w fun e w' => e = .returned (.int .i64 (faultF ff q s.data.toList : Int)) ∧ Below w.heap.size w w' := by
 unfold faultF
 have hc : q = 1 ∨ q = 3 ∨ q = 4 ∨ q = 5 ∨ q = 2 ∨ q = 6 ∨ q = 7 := by omega
 clear h1 h7
 rcases hc with rfl | rfl | rfl | rfl | hc
 · rw [if_pos rfl]
   have HN := Lib.hid (fun w => nameFault_any s w)
   generalize nameF s.data.toList = z at *
   go_enter Tryz.func89, Tryz.ntmps89
   go_wp2_with fail
   refine (HN.out _).mono ?_
   rintro e w1 ⟨rfl, rfl⟩
   go_wp2_with fail
   go_ret
   exact ⟨rfl, Below.refl _ _⟩
 · rw [if_neg (by omega), if_pos rfl]
   have HN := Lib.hid (int_any s hs w hF.rng)
   generalize intF s.data.toList = z at *
   go_enter Tryz.func89, Tryz.ntmps89
   go_wp2_with fail
   refine HN.out.mono ?_
   rintro e w1 ⟨n, rfl, hb⟩
   have HB := Lib.hid hb
   clear hb
   go_wp2_with fail
   go_ret
   exact ⟨rfl, HB.out⟩
 · rw [if_neg (by omega), if_neg (by omega), if_pos rfl]
   have HN := Lib.hid (hS.ask s (hO rfl) w hW)
   generalize ff s.data.toList = z at *
   clear hS hO hW hF
   go_enter Tryz.func89, Tryz.ntmps89
   go_wp2_with fail
   refine HN.out.mono ?_
   rintro e w1 ⟨v, rfl, hb⟩
   have HB := Lib.hid hb
   clear hb
   go_wp2_with fail
   go_ret
   exact ⟨rfl, HB.out⟩
 · rw [if_neg (by omega), if_neg (by omega), if_neg (by omega), if_pos rfl]
   have HN := Lib.hid (value_any s hs w hF)
   rw [valF_eq]
   obtain ⟨x, hx⟩ := valV_shape (valR s.data.toList)
   rw [hx] at HN
   generalize valE (valR s.data.toList) = z at *
   clear hx hF hW hS hO
   go_enter Tryz.func89, Tryz.ntmps89
   go_wp2_with fail
   refine HN.out.mono ?_
   rintro e w1 ⟨rfl, hb⟩
   have HB := Lib.hid hb
   clear hb
   go_wp2_with fail
   go_ret
   exact ⟨rfl, HB.out⟩
 · rw [if_neg (by omega), if_neg (by omega), if_neg (by omega), if_neg (by omega)]
   clear hS hO hW hF
   rcases hc with rfl | rfl | rfl
   all_goals
    go_enter Tryz.func89, Tryz.ntmps89
    go_wp2_with fail
    go_ret
    exact ⟨rfl, Below.refl _ _⟩
end Go.Proofs.YtmlclgkhnekmnaaGreatDoor
