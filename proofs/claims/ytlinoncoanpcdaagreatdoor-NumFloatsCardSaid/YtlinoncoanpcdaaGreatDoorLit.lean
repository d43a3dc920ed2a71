/-
  num's LOOK AT LITERALS: pastDigits, pastWhole, isWhole at every string: what they return; nothing in memory turns. Condition: the string is one that a machine can hold.
-/
import Derived.Test.YtlinoncoanpcdaaGreatDoorProg
import Derived.WalkKit
import Derived.WalkLawsBesides
import Derived.Lib.Hide
import Derived.Outline
import Derived.LoopTactic
import Derived.Deep.LoopGhost
namespace Go.Proofs.YtlinoncoanpcdaaGreatDoor
open Go.RowKit

/-- Is a byte a digit? -/
def isDig (c : UInt8) : Bool := decide (48 ≤ c.toNat ∧ c.toNat ≤ 57)
/-- Where the digits end that stand from place k on. -/
def past (l : List UInt8) (k : Nat) : Nat := k + ((l.drop k).takeWhile isDig).length
theorem past_end (l : List UInt8) (k : Nat) (h : l.length ≤ k) : past l k = k := by
  unfold past
  rw [List.drop_eq_nil_of_le h]
  rfl
theorem past_yes (l : List UInt8) (k : Nat) (h : k < l.length) (hd : isDig l[k] = true) : past l k = past l (k + 1) := by
  unfold past
  rw [List.drop_eq_getElem_cons h, List.takeWhile_cons, if_pos hd, List.length_cons]
  omega
theorem past_no (l : List UInt8) (k : Nat) (h : k < l.length) (hd : isDig l[k] = false) : past l k = k := by
  unfold past
  rw [List.drop_eq_getElem_cons h, List.takeWhile_cons, if_neg (by simp [hd])]
  rfl
theorem dig_of {c : UInt8} {z : Int} (h : ((c.toNat : Int) == z) = true) (h1 : 48 ≤ z) (h2 : z ≤ 57) : isDig c = true := by
  have : (c.toNat : Int) = z := by simpa using h
  unfold isDig
  simp only [decide_eq_true_eq]
  omega
theorem nodig_of {c : UInt8} (h0 : ((c.toNat : Int) == 48) = false) (h1 : ((c.toNat : Int) == 49) = false) (h2 : ((c.toNat : Int) == 50) = false) (h3 : ((c.toNat : Int) == 51) = false) (h4 : ((c.toNat : Int) == 52) = false)
    (h5 : ((c.toNat : Int) == 53) = false) (h6 : ((c.toNat : Int) == 54) = false) (h7 : ((c.toNat : Int) == 55) = false) (h8 : ((c.toNat : Int) == 56) = false) (h9 : ((c.toNat : Int) == 57) = false) : isDig c = false := by
  simp only [beq_eq_false_iff_ne, ne_eq] at h0 h1 h2 h3 h4 h5 h6 h7 h8 h9
  unfold isDig
  simp only [decide_eq_false_iff_not]
  omega
theorem round_yes (s : ByteArray) (j k : Nat) (hlt : j < s.size) (hd : isDig s[j] = true) (hp : past s.data.toList j = past s.data.toList k) : past s.data.toList (j + 1) = past s.data.toList k := by
  rw [← hp]
  exact (past_yes s.data.toList j (by simpa using hlt) hd).symm
theorem round_no (s : ByteArray) (j k : Nat) (hlt : j < s.size) (hd : isDig s[j] = false) (hp : past s.data.toList j = past s.data.toList k) : j = past s.data.toList k := by
  rw [← hp]
  exact (past_no s.data.toList j (by simpa using hlt) hd).symm
theorem ret_nat {a b : Nat} (h : a = b) : Ending.returned (.int .i64 (a : Int)) = .returned (.int .i64 (b : Int)) := by rw [h]
set_option maxHeartbeats 1000000 in
theorem past_any (s : ByteArray) (k : Nat) (hk : k ≤ s.size) (hs : s.size ≤ maxLen) (w : World) : Calls Tryz.prog 84 #[.string s, .int .i64 k] w fun e w' => e = .returned (.int .i64 (past s.data.toList k)) ∧ w = w' := by
  unfold maxLen at hs
  go_enter Tryz.func84, Tryz.ntmps84
  go_wp2
  go_step3
  go_wp2
  go_step3
  go_wp2
  go_loop [5] (fun i => ∃ j : Nat, j ≤ s.size ∧ i = .int .i64 j ∧ Hid (past s.data.toList j = past s.data.toList k)) (fun i => s.size - (RowKit.intOf i).toNat)
  case atStart => exact ⟨k, hk, rfl, Lib.hid rfl⟩
  case round =>
    obtain ⟨j, hj, rfl, hp⟩ := hrel
    by_cases hlt : j < s.size
    · go_wp2
      case roundEnd => exact ⟨⟨j + 1, by omega, by go_num, Lib.hid (round_yes s j k hlt (dig_of (by assumption) (by decide) (by decide)) hp.out)⟩, by simp [RowKit.intOf]; omega⟩
      case roundEnd => exact ⟨⟨j + 1, by omega, by go_num, Lib.hid (round_yes s j k hlt (dig_of (by assumption) (by decide) (by decide)) hp.out)⟩, by simp [RowKit.intOf]; omega⟩
      case roundEnd => exact ⟨⟨j + 1, by omega, by go_num, Lib.hid (round_yes s j k hlt (dig_of (by assumption) (by decide) (by decide)) hp.out)⟩, by simp [RowKit.intOf]; omega⟩
      case roundEnd => exact ⟨⟨j + 1, by omega, by go_num, Lib.hid (round_yes s j k hlt (dig_of (by assumption) (by decide) (by decide)) hp.out)⟩, by simp [RowKit.intOf]; omega⟩
      case roundEnd => exact ⟨⟨j + 1, by omega, by go_num, Lib.hid (round_yes s j k hlt (dig_of (by assumption) (by decide) (by decide)) hp.out)⟩, by simp [RowKit.intOf]; omega⟩
      case roundEnd => exact ⟨⟨j + 1, by omega, by go_num, Lib.hid (round_yes s j k hlt (dig_of (by assumption) (by decide) (by decide)) hp.out)⟩, by simp [RowKit.intOf]; omega⟩
      case roundEnd => exact ⟨⟨j + 1, by omega, by go_num, Lib.hid (round_yes s j k hlt (dig_of (by assumption) (by decide) (by decide)) hp.out)⟩, by simp [RowKit.intOf]; omega⟩
      case roundEnd => exact ⟨⟨j + 1, by omega, by go_num, Lib.hid (round_yes s j k hlt (dig_of (by assumption) (by decide) (by decide)) hp.out)⟩, by simp [RowKit.intOf]; omega⟩
      case roundEnd => exact ⟨⟨j + 1, by omega, by go_num, Lib.hid (round_yes s j k hlt (dig_of (by assumption) (by decide) (by decide)) hp.out)⟩, by simp [RowKit.intOf]; omega⟩
      case roundEnd => exact ⟨⟨j + 1, by omega, by go_num, Lib.hid (round_yes s j k hlt (dig_of (by assumption) (by decide) (by decide)) hp.out)⟩, by simp [RowKit.intOf]; omega⟩
      go_ret
      exact ⟨ret_nat (round_no s j k hlt (nodig_of (by assumption) (by assumption) (by assumption) (by assumption) (by assumption) (by assumption) (by assumption) (by assumption) (by assumption) (by assumption)) hp.out), rfl⟩
    · go_wp2
      go_ret
      refine ⟨ret_nat ?_, rfl⟩
      rw [← hp.out, past_end _ _ (by simp; omega)]
theorem past_le (l : List UInt8) (k : Nat) (h : k ≤ l.length) : past l k ≤ l.length := by
  unfold past
  have := (List.takeWhile_sublist isDig (l := l.drop k)).length_le
  rw [List.length_drop] at this
  omega
/-- Where the whole literal ends that a text begins with; 0, if it begins with none. -/
def wholeEnd (l : List UInt8) : Nat := if 1 < past l 0 ∧ l.headD 0 = 48 then 0 else past l 0
theorem head0 (s : ByteArray) (h : 0 < s.size) : s.data.toList.headD 0 = s[0] := by
  obtain ⟨⟨l⟩⟩ := s
  cases l with
  | nil => simp [ByteArray.size] at h
  | cons c l => rfl
theorem pastWhole_any (s : ByteArray) (hs : s.size ≤ maxLen) (w : World) : Calls Tryz.prog 80 #[.string s] w fun e w' => e = .returned (.int .i64 (wholeEnd s.data.toList)) ∧ w = w' := by
  have hle : past s.data.toList 0 ≤ s.size := by simpa using past_le s.data.toList 0 (Nat.zero_le _)
  have H : Hid (wholeEnd s.data.toList = if 1 < past s.data.toList 0 ∧ s.data.toList.headD 0 = 48 then 0 else past s.data.toList 0) := Lib.hid rfl
  have hp := past_any s 0 (Nat.zero_le _) hs w
  have HP := Lib.hid hp
  clear hp
  generalize past s.data.toList 0 = p at hle H HP
  unfold maxLen at hs
  by_cases h1 : 1 < p
  · have h0 : 0 < s.size := by omega
    have hh := head0 s h0
    by_cases hc : s[0] = 48
    · have hz : wholeEnd s.data.toList = 0 := by rw [H.out, if_pos ⟨h1, by rw [hh, hc]⟩]
      have hcb : ((s[0].toNat : Int) == 48) = true := by rw [hc]; rfl
      rw [hz]
      clear hh hc hz H
      go_enter Tryz.func80, Tryz.ntmps80
      go_wp2_with fail
      refine HP.out.mono ?_
      rintro e w' ⟨rfl, rfl⟩
      go_wp2_with fail
      go_ret
      exact ⟨rfl, rfl⟩
    · have hz : wholeEnd s.data.toList = p := by rw [H.out, if_neg]; rintro ⟨_, h⟩; rw [hh] at h; exact hc h
      have hcb : ((s[0].toNat : Int) == 48) = false := by
        simp only [beq_eq_false_iff_ne, ne_eq]
        intro h
        exact hc (UInt8.toNat_inj.1 (by show s[0].toNat = 48; omega))
      rw [hz]
      clear hh hc hz H
      go_enter Tryz.func80, Tryz.ntmps80
      go_wp2_with fail
      refine HP.out.mono ?_
      rintro e w' ⟨rfl, rfl⟩
      go_wp2_with fail
      go_ret
      exact ⟨rfl, rfl⟩
  · have hz : wholeEnd s.data.toList = p := by rw [H.out, if_neg]; rintro ⟨h, _⟩; exact h1 h
    rw [hz]
    clear hz H
    have hd : decide (1 < (p : Int)) = false := by simp; omega
    go_enter Tryz.func80, Tryz.ntmps80
    go_wp2_with fail
    refine HP.out.mono ?_
    rintro e w' ⟨rfl, rfl⟩
    go_wp2_with fail
    go_ret
    exact ⟨rfl, rfl⟩
theorem ret_bool {a b : Bool} (h : a = b) : Ending.returned (.bool a) = .returned (.bool b) := by rw [h]
theorem beq_cast (q n : Nat) : ((q : Int) == (n : Int)) = decide (q = n) := by
  rw [Bool.eq_iff_iff]
  simp only [beq_iff_eq, decide_eq_true_eq]
  omega
/-- Is a text a whole literal? -/
def wholeB (l : List UInt8) : Bool := !l.isEmpty && wholeEnd l == l.length
theorem isWhole_any (s : ByteArray) (hs : s.size ≤ maxLen) (w : World) : Calls Tryz.prog 51 #[.string s] w fun e w' => e = .returned (.bool (wholeB s.data.toList)) ∧ w = w' := by
  have HP := Lib.hid (pastWhole_any s hs w)
  unfold maxLen at hs
  have ht : s.toList = s.data.toList := ByteArray.toList_eq s
  by_cases hn : s.data.toList = []
  · have h1 : s.toList.isEmpty = true := by rw [ht, hn]; rfl
    have hz : wholeB s.data.toList = false := by unfold wholeB; rw [hn]; rfl
    rw [hz]
    clear hz ht hn
    go_enter Tryz.func51, Tryz.ntmps51
    go_wp2_with fail
    go_ret
    exact ⟨rfl, rfl⟩
  · have he : s.data.toList.isEmpty = false := by simpa using hn
    have h1 : s.toList.isEmpty = false := by rw [ht]; exact he
    have hz : wholeB s.data.toList = decide (wholeEnd s.data.toList = s.size) := by
      unfold wholeB
      rw [he, Array.length_toList]
      rfl
    rw [hz]
    generalize wholeEnd s.data.toList = q at HP
    clear hz ht hn he
    go_enter Tryz.func51, Tryz.ntmps51
    go_wp2_with fail
    refine HP.out.mono ?_
    rintro e w' ⟨rfl, rfl⟩
    go_wp2_with fail
    go_ret
    exact ⟨ret_bool (beq_cast q s.size), rfl⟩
end Go.Proofs.YtlinoncoanpcdaaGreatDoor
