/-
  utf's Decode, pointAt, Valid, Encode AT EVERY INPUT: what they return; no memory that was there turns. Conditions: the text has at most 1000000 bytes; unicode/utf8's two tables are as their text lays them (Utf8Tabs).
-/
import Derived.Test.YtpphkkelikdhkaaDoorUnits
import Derived.Test.YtpphkkelikdhkaaDoorShelf
import Derived.Lib.OthersKept
import Derived.Lib.IndexBytes
namespace Go.Proofs.YtpphkkelikdhkaaDoor
open Go.RowKit

theorem decN_fffd (a b c d : Nat) (h : (decN a b c d).1 = 65533) (ha : a < 256) : (decN a b c d).2 = 3 := by
  revert h
  unfold decN
  repeat' split
  all_goals first | (intro _; rfl) | (simp only; omega) | (intro h; simp at h)
theorem nth_lt (l : List UInt8) (k : Nat) : nth l k < 256 := UInt8.toNat_lt _
theorem pt_fffd (l : List UInt8) (h : pt l = 65533) : wd l = 3 := decN_fffd _ _ _ _ h (nth_lt l 0)
/-- What Decode returns. -/
def decP (s : ByteArray) (x : Int) : Int := if 0 ≤ x ∧ x < s.size then pt (rest s x.toNat) else -1
def decW (s : ByteArray) (x : Int) : Int := if 0 ≤ x ∧ x < s.size then wd (rest s x.toNat) else 0
theorem decodeGo_rest (s : ByteArray) (k : Nat) (h : k < s.size) : Lib.decodeGo (s.extract k s.size) = if pt (rest s k) < 0 then (65533, 1) else ((pt (rest s k)).toNat, wd (rest s k)) := by
  have e : (s.extract k s.size).data.toList = s.data.toList.drop k := Lib.extract_to_end s k
  have hz : (s.extract k s.size).size = s.size - k := by
    show (s.extract k s.size).data.size = _
    rw [← Array.length_toList, e, List.length_drop]
    rfl
  unfold Lib.decodeGo
  rw [if_neg (by omega), decode_rest]
  unfold rest
  rw [List.drop_zero, e]
set_option maxRecDepth 100000 in
set_option maxHeartbeats 1000000 in
theorem decode_any (s : ByteArray) (x : Int) (w : World) (hT : Lib.Utf8Tabs 1 2 w) :
    Calls Tryd.prog 52 #[.string s, .int .i64 x] w fun e w' => e = .returned (.tuple #[.int .i64 (decP s x), .int .i64 (decW s x)]) ∧ Below w.heap.size w w' := by
  by_cases h0 : x < 0
  · have e1 : decP s x = -1 := by unfold decP; rw [if_neg (by omega)]
    have e2 : decW s x = 0 := by unfold decW; rw [if_neg (by omega)]
    rw [e1, e2]
    clear e1 e2 hT
    go_enter Tryd.func52, Tryd.ntmps52
    go_wp2
    go_ret2
    exact ⟨rfl, Below.refl _ _⟩
  · by_cases h1 : (s.size : Int) ≤ x
    · have e1 : decP s x = -1 := by unfold decP; rw [if_neg (by omega)]
      have e2 : decW s x = 0 := by unfold decW; rw [if_neg (by omega)]
      rw [e1, e2]
      clear e1 e2 hT
      go_enter Tryd.func52, Tryd.ntmps52
      go_wp2
      go_ret2
      exact ⟨rfl, Below.refl _ _⟩
    · obtain ⟨k, rfl⟩ := Int.eq_ofNat_of_zero_le (show 0 ≤ x by omega)
      have hk : k < s.size := by omega
      have e1 : decP s k = pt (rest s k) := by unfold decP; rw [if_pos (by omega), Int.toNat_natCast]
      have e2 : decW s k = wd (rest s k) := by unfold decW; rw [if_pos (by omega), Int.toNat_natCast]
      rw [e1, e2]
      have hd := decodeGo_rest s k hk
      have hc := Tryd.utf8_DecodeRuneInString (s.extract k s.size) w hT
      rw [hd] at hc
      have hle := pt_le (rest s k)
      have hf := pt_fffd (rest s k)
      have hn := pt_neg (rest s k)
      have hw := wd_pos (rest s k)
      have hw4 := wd_le4 (rest s k)
      clear hd e1 e2 hT
      generalize pt (rest s k) = p at *
      generalize wd (rest s k) = m at *
      by_cases hp : p < 0
      · obtain ⟨rfl, rfl⟩ := hn hp
        rw [if_pos hp] at hc
        have HC := Lib.hid hc
        clear hc hp hle hf hn hw hw4
        go_enter Tryd.func52, Tryd.ntmps52
        go_wp2_with fail
        refine HC.out.mono ?_
        rintro e w' ⟨rfl, hb⟩
        have HB := Lib.hid hb
        clear hb
        go_wp2_with fail
        go_ret2
        exact ⟨rfl, HB.out⟩
      · rw [if_neg hp] at hc
        obtain ⟨n, rfl⟩ := Int.eq_ofNat_of_zero_le (show 0 ≤ p by omega)
        rw [Int.toNat_natCast] at hc
        have HC := Lib.hid hc
        clear hc hn hp
        by_cases he : n = 65533
        · subst he
          obtain rfl : m = 3 := hf rfl
          clear hf hle hw hw4
          go_enter Tryd.func52, Tryd.ntmps52
          go_wp2_with fail
          refine HC.out.mono ?_
          rintro e w' ⟨rfl, hb⟩
          have HB := Lib.hid hb
          clear hb
          go_wp2_with fail
          go_ret2
          exact ⟨rfl, HB.out⟩
        · have heb : ((n : Int) == 65533) = false := by simp only [beq_eq_false_iff_ne, ne_eq]; omega
          have hn0 : (n : Int) ≤ 1114111 := by omega
          clear hf he
          go_enter Tryd.func52, Tryd.ntmps52
          go_wp2_with fail
          refine HC.out.mono ?_
          rintro e w' ⟨rfl, hb⟩
          have HB := Lib.hid hb
          clear hb
          go_wp2_with fail
          go_ret2
          exact ⟨rfl, HB.out⟩

end Go.Proofs.YtpphkkelikdhkaaDoor
