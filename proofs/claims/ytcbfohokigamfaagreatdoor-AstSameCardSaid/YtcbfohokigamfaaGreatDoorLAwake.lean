/-
  emendlaw09's cut, awake: what they return; Tokens' slices as they are read. No memory that was there turns. Conditions: the variables that are read hold what their text lays (Facts); FSpec.
-/
import Derived.Test.YtcbfohokigamfaaGreatDoorLToks
namespace Go.Proofs.YtcbfohokigamfaaGreatDoor
open Go.RowKit

variable {FW : World → Prop} {ff : List UInt8 → Nat} {OK : List UInt8 → Prop}
/-- Tokens of a text that has some. -/
theorem tokens_ok (hS : FSpec FW ff OK) (s : ByteArray) (hs : s.size ≤ 1000000) (hO : floatsOk OK s) (ts : List Tok) (h : tokensL ff s.data.toList = .ok ts) (w : World) (hF : Facts w) (hW : FW w) : Calls Tryz.prog 41 #[.string s] w fun e w' => ∃ A cap, e = .returned (.tuple #[.slice A ts.length cap, .int .i64 0, .int .i64 0]) ∧ TReads w' A ts ∧ Below w.heap.size w w' := by
  refine (tokens_any hS s hs hO w hF hW).mono ?_
  rintro e w' ⟨v, rfl, ho, hb⟩
  rw [h] at ho ⊢
  obtain ⟨A, cap, rfl, hr⟩ := treads_of ho
  exact ⟨A, cap, rfl, hr, hb⟩
/-- Tokens of a text that has none. -/
theorem tokens_no (hS : FSpec FW ff OK) (s : ByteArray) (hs : s.size ≤ 1000000) (hO : floatsOk OK s) (k e0 : Nat) (h : tokensL ff s.data.toList = .error (k, e0)) (w : World) (hF : Facts w) (hW : FW w) : Calls Tryz.prog 41 #[.string s] w fun e w' => ∃ A cap, e = .returned (.tuple #[.slice A 0 cap, .int .i64 (k : Int), .int .i64 (e0 : Int)]) ∧ Below w.heap.size w w' := by
  refine (tokens_any hS s hs hO w hF hW).mono ?_
  rintro e w' ⟨v, rfl, ho, hb⟩
  rw [h] at ho ⊢
  obtain ⟨A, cap, rfl, hr⟩ := treads_of ho
  exact ⟨A, cap, rfl, hb⟩
theorem txt_list (l : List UInt8) : (txt l).toList = l := by rw [Lib.toList_data]; rfl
/-- No float stands in a text. -/
def noFloat (l : List UInt8) : Bool := (List.range l.length).all fun k => !((tokK (l.drop k)).1 == 4)
theorem no_float (OK : List UInt8 → Prop) (s : ByteArray) (h : noFloat s.data.toList = true) : floatsOk OK s := by
  intro k hk h4
  unfold noFloat at h
  rw [List.all_eq_true] at h
  have := h k (List.mem_range.2 hk)
  have e : rest s k = s.data.toList.drop k := rfl
  rw [← e, h4] at this
  simp at this
def awakeT : ByteArray := ⟨#[120, 32, 58, 61, 32, 49, 32, 47, 47, 32, 99]⟩
theorem awake_toks (ff : List UInt8 → Nat) : tokensL ff awakeT.data.toList = .ok [(1, [120], 0, 1), (6, [58, 61], 2, 4), (3, [49], 5, 6), (7, [], 6, 6)] := by kernel_rfl
theorem empty_no {s : ByteArray} (h : 0 < s.size) : s.toList.isEmpty = false := by
  rw [Lib.toList_data]
  cases hl : s.data.toList with
  | nil => exfalso; rw [Lib.size_eq, hl] at h; simp at h
  | cons a l => rfl
theorem empty_yes {s : ByteArray} (h : ¬ 0 < s.size) : s.toList.isEmpty = true := by
  rw [Lib.toList_data]
  cases hl : s.data.toList with
  | nil => rfl
  | cons a l => exfalso; rw [Lib.size_eq, hl] at h; simp at h
set_option maxHeartbeats 1000000 in
theorem name_any (s : ByteArray) (hs : s.size ≤ 1000000) (w : World) : Calls Tryz.prog 45 #[.string s] w fun e w' => e = .returned (.bool (nameB s.data.toList)) ∧ w = w' := by
  have hsz : s.data.toList.length = s.size := rfl
  by_cases h0 : 0 < s.size
  · have he := empty_no h0
    have HL := Lib.hid (fun w => isLetter_any s[0] w)
    have HP : Hid (∀ w, Calls Tryz.prog 77 #[.string s, .int .i64 0] w fun e w' => e = .returned (.int .i64 ((0 + run isW (rest s 0) : Nat) : Int)) ∧ w = w') := Lib.hid (fun w => pastWord_any s 0 (Nat.zero_le _) hs w)
    have HR := Lib.hid (fun w => reserved_any s w)
    have HN := Lib.hid (fun w => nameFault_any s w)
    have hf := fst_at isLt s 0 h0
    rw [rest_zero] at hf HP
    rw [Nat.zero_add] at HP
    unfold nameB
    rw [hf, hsz]
    generalize run isW s.data.toList = n at *
    generalize isRes s.data.toList = c at *
    generalize nameF s.data.toList = z at *
    have h00 := h0
    clear hsz hf
    cases ha : isLt s[0] with
    | false =>
      rw [ha] at HL
      clear ha
      rw [Bool.false_and, Bool.false_and, Bool.false_and]
      go_enter Tryz.func45, Tryz.ntmps45
      go_wp2_with fail
      refine (HL.out _).mono ?_
      rintro e w' ⟨rfl, rfl⟩
      go_wp2_with fail
      go_ret
      exact ⟨rfl, rfl⟩
    | true =>
      rw [ha] at HL
      clear ha
      by_cases hn : n = s.size
      · rw [decide_eq_true hn]
        have q : (((n : Nat) : Int) == (s.size : Int)) = true := by simp only [beq_iff_eq]; omega
        clear hn
        cases c with
        | true =>
          rw [Bool.not_true, Bool.and_false, Bool.false_and]
          go_enter Tryz.func45, Tryz.ntmps45
          go_wp2_with fail
          refine (HL.out _).mono ?_
          rintro e w' ⟨rfl, rfl⟩
          go_wp2_with fail
          refine (HP.out _).mono ?_
          rintro e w' ⟨rfl, rfl⟩
          go_wp2_with fail
          refine (HR.out _).mono ?_
          rintro e w' ⟨rfl, rfl⟩
          go_wp2_with fail
          go_ret
          exact ⟨rfl, rfl⟩
        | false =>
          rw [Bool.not_false, Bool.and_true, Bool.true_and, Bool.true_and]
          have hz : decide (z = 0) = (((z : Nat) : Int) == 0) := by rw [Bool.eq_iff_iff, decide_eq_true_eq, beq_iff_eq]; omega
          rw [hz]
          clear hz
          go_enter Tryz.func45, Tryz.ntmps45
          go_wp2_with fail
          refine (HL.out _).mono ?_
          rintro e w' ⟨rfl, rfl⟩
          go_wp2_with fail
          refine (HP.out _).mono ?_
          rintro e w' ⟨rfl, rfl⟩
          go_wp2_with fail
          refine (HR.out _).mono ?_
          rintro e w' ⟨rfl, rfl⟩
          go_wp2_with fail
          refine (HN.out _).mono ?_
          rintro e w' ⟨rfl, rfl⟩
          go_wp2_with fail
          go_ret
          exact ⟨rfl, rfl⟩
      · rw [decide_eq_false hn, Bool.and_false, Bool.false_and, Bool.false_and]
        have q : (((n : Nat) : Int) == (s.size : Int)) = false := by simp only [beq_eq_false_iff_ne, ne_eq]; omega
        clear hn
        go_enter Tryz.func45, Tryz.ntmps45
        go_wp2_with fail
        refine (HL.out _).mono ?_
        rintro e w' ⟨rfl, rfl⟩
        go_wp2_with fail
        refine (HP.out _).mono ?_
        rintro e w' ⟨rfl, rfl⟩
        go_wp2_with fail
        go_ret
        exact ⟨rfl, rfl⟩
  · have he := empty_yes h0
    have e : nameB s.data.toList = false := by
      have : s.data.toList = [] := List.eq_nil_of_length_eq_zero (by rw [hsz]; omega)
      rw [this]; rfl
    rw [e]
    clear e hsz
    go_enter Tryz.func45, Tryz.ntmps45
    go_wp2_with fail
    go_ret
    exact ⟨rfl, rfl⟩
/-- Is it a name that other packages may ask for? -/
def expB (s : List UInt8) : Bool := nameB s && fst (fun c => decide (65 ≤ c.toNat) && decide (c.toNat ≤ 90)) s
theorem name_ne {s : ByteArray} (h : nameB s.data.toList = true) : 0 < s.size := by
  have := fst_ne _ _ (name_is h).lt
  have := List.length_pos_iff.2 this
  exact this
theorem name_x : nameB [120] = true := by kernel_rfl
theorem name_for : nameB [102, 111, 114] = false := by kernel_rfl
set_option maxRecDepth 100000 in
set_option maxHeartbeats 1000000 in
theorem awake_any (hS : FSpec FW ff OK) (w : World) (hF : Facts w) (hW : FW w) : Calls Tryz.prog 43 #[] w fun e w' => e = .returned (.bool true) ∧ Below w.heap.size w w' := by
  have HC : Hid (Calls Tryz.prog 41 #[.string ⟨#[120, 32, 58, 61, 32, 49, 32, 47, 47, 32, 99]⟩] w fun e w' => ∃ A cap, e = .returned (.tuple #[.slice A 4 cap, .int .i64 0, .int .i64 0]) ∧ TReads w' A _ ∧ Below w.heap.size w w') := Lib.hid (tokens_ok hS awakeT (by decide) (no_float _ _ (by kernel_rfl)) _ (awake_toks ff) w hF hW)
  have H1 : Hid (∀ w, Calls Tryz.prog 45 #[.string ⟨#[120]⟩] w fun e w' => e = .returned (.bool true) ∧ w = w') := Lib.hid (fun w => by have := name_any ⟨#[120]⟩ (by decide) w; rw [name_x] at this; exact this)
  have H2 : Hid (∀ w, Calls Tryz.prog 45 #[.string ⟨#[102, 111, 114]⟩] w fun e w' => e = .returned (.bool false) ∧ w = w') := Lib.hid (fun w => by have := name_any ⟨#[102, 111, 114]⟩ (by decide) w; rw [name_for] at this; exact this)
  clear hF hW hS
  go_enter Tryz.func43, Tryz.ntmps43
  go_wp2_with fail
  refine HC.out.mono ?_
  rintro e w1 ⟨A, cap, rfl, hr, hb⟩
  obtain ⟨g, rfl, hc⟩ := hr (by decide)
  obtain ⟨a0, a1, a2, a3⟩ := hc 1 _ rfl
  obtain ⟨b0, b1, b2, b3⟩ := hc 2 _ rfl
  obtain ⟨d0, d1, d2, d3⟩ := hc 3 _ rfl
  have HB := Lib.hid hb
  have t1 : txt [58, 61] = ⟨#[58, 61]⟩ := rfl
  have t2 : txt [] = ⟨#[]⟩ := rfl
  rw [t1] at a1
  rw [t2] at d1
  clear hb hc hr t1 t2
  go_wp2_with fail
  refine (H1.out _).mono ?_
  rintro e w' ⟨rfl, rfl⟩
  go_wp2_with fail
  refine (H2.out _).mono ?_
  rintro e w' ⟨rfl, rfl⟩
  go_wp2_with fail
  go_ret
  exact ⟨rfl, HB.out⟩
/-- The first 6000 bytes of a text. -/
def cutB (s : ByteArray) : ByteArray := s.extract 0 (min s.size 6000)
theorem cutB_size (s : ByteArray) : (cutB s).size ≤ 6000 := by unfold cutB; rw [ByteArray.size_extract]; omega
theorem cut_any (s : ByteArray) (w : World) : Calls Tryz.prog 40 #[.string s] w fun e w' => e = .returned (.string (cutB s)) ∧ w = w' := by
  have e0 : (min (s.size : Int) 6000).toNat = min s.size 6000 := by omega
  unfold cutB
  rw [← e0]
  clear e0
  go_enter Tryz.func40, Tryz.ntmps40
  go_wp2_with fail
  go_ret
  exact ⟨rfl, rfl⟩
end Go.Proofs.YtcbfohokigamfaaGreatDoor
