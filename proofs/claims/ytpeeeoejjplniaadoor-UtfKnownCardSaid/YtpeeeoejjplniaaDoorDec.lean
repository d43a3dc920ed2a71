/-
  utf's Decode, pointAt, Valid, Encode AT EVERY INPUT: what they return; no memory that was there turns. Conditions: the text has at most 1000000 bytes; unicode/utf8's two tables are as their text lays them (Utf8Tabs).
-/
import Derived.Test.YtpeeeoejjplniaaDoorUnits
import Derived.Test.YtpeeeoejjplniaaDoorShelf
import Derived.Lib.OthersKept
import Derived.Lib.IndexBytes
namespace Go.Proofs.YtpeeeoejjplniaaDoor
open Go.RowKit

theorem decN_fffd (a b c d : Nat) (h : (decN a b c d).1 = 65533) (ha : a < 256) : (decN a b c d).2 = 3 := by
  revert h
  unfold decN
  repeat' split
  all_goals first | (intro _; rfl) | (simp only; omega) | (intro h; simp at h)
theorem nth_lt (l : List UInt8) (k : Nat) : nth l k < 256 := UInt8.toNat_lt _
theorem pt_fffd (l : List UInt8) (h : pt l = 65533) : wd l = 3 := decN_fffd _ _ _ _ h (nth_lt l 0)
/-- What Decode returns. -/
def decP (s : ByteArray) (x : Int) : Int := if 0 ≤ x ∧ x < s.size then pt (rest s x.toNat) else -1
def decW (s : ByteArray) (x : Int) : Int := if 0 ≤ x ∧ x < s.size then wd (rest s x.toNat) else 0
theorem decodeGo_rest (s : ByteArray) (k : Nat) (h : k < s.size) : Lib.decodeGo (s.extract k s.size) = if pt (rest s k) < 0 then (65533, 1) else ((pt (rest s k)).toNat, wd (rest s k)) := by
  have e : (s.extract k s.size).data.toList = s.data.toList.drop k := Lib.extract_to_end s k
  have hz : (s.extract k s.size).size = s.size - k := by
    show (s.extract k s.size).data.size = _
    rw [← Array.length_toList, e, List.length_drop]
    rfl
  unfold Lib.decodeGo
  rw [if_neg (by omega), decode_rest]
  unfold rest
  rw [List.drop_zero, e]
theorem ret_pair {a b c d : Int} (h : a = c) (k : b = d) : Ending.returned (.tuple #[.int .i64 a, .int .i64 b]) = .returned (.tuple #[.int .i64 c, .int .i64 d]) := by rw [h, k]
set_option maxRecDepth 100000 in
set_option maxHeartbeats 1000000 in
theorem decode_any (s : ByteArray) (x : Int) (w : World) (hT : Lib.Utf8Tabs 0 1 w) :
    Calls Tryd.prog 12 #[.string s, .int .i64 x] w fun e w' => e = .returned (.tuple #[.int .i64 (decP s x), .int .i64 (decW s x)]) ∧ Below w.heap.size w w' := by
  by_cases h0 : x < 0
  · have e1 : decP s x = -1 := by unfold decP; rw [if_neg (by omega)]
    have e2 : decW s x = 0 := by unfold decW; rw [if_neg (by omega)]
    rw [e1, e2]
    clear e1 e2 hT
    go_enter Tryd.func12, Tryd.ntmps12
    go_wp2
    go_ret2
    exact ⟨rfl, Below.refl _ _⟩
  · by_cases h1 : (s.size : Int) ≤ x
    · have e1 : decP s x = -1 := by unfold decP; rw [if_neg (by omega)]
      have e2 : decW s x = 0 := by unfold decW; rw [if_neg (by omega)]
      rw [e1, e2]
      clear e1 e2 hT
      go_enter Tryd.func12, Tryd.ntmps12
      go_wp2
      go_ret2
      exact ⟨rfl, Below.refl _ _⟩
    · obtain ⟨k, rfl⟩ := Int.eq_ofNat_of_zero_le (show 0 ≤ x by omega)
      have hk : k < s.size := by omega
      have e1 : decP s k = pt (rest s k) := by unfold decP; rw [if_pos (by omega), Int.toNat_natCast]
      have e2 : decW s k = wd (rest s k) := by unfold decW; rw [if_pos (by omega), Int.toNat_natCast]
      rw [e1, e2]
      have hd := decodeGo_rest s k hk
      have hc := Tryd.utf8_DecodeRuneInString (s.extract k s.size) w hT
      rw [hd] at hc
      have hle := pt_le (rest s k)
      have hf := pt_fffd (rest s k)
      have hn := pt_neg (rest s k)
      have hw := wd_pos (rest s k)
      have hw4 := wd_le4 (rest s k)
      clear hd e1 e2 hT
      generalize pt (rest s k) = p at *
      generalize wd (rest s k) = m at *
      by_cases hp : p < 0
      · obtain ⟨rfl, rfl⟩ := hn hp
        rw [if_pos hp] at hc
        have HC := Lib.hid hc
        clear hc hp hle hf hn hw hw4
        go_enter Tryd.func12, Tryd.ntmps12
        go_wp2_with fail
        refine HC.out.mono ?_
        rintro e w' ⟨rfl, hb⟩
        have HB := Lib.hid hb
        clear hb
        go_wp2_with fail
        go_ret2
        exact ⟨rfl, HB.out⟩
      · rw [if_neg hp] at hc
        obtain ⟨n, rfl⟩ := Int.eq_ofNat_of_zero_le (show 0 ≤ p by omega)
        rw [Int.toNat_natCast] at hc
        have HC := Lib.hid hc
        clear hc hn hp
        by_cases he : n = 65533
        · subst he
          obtain rfl : m = 3 := hf rfl
          clear hf hle hw hw4
          go_enter Tryd.func12, Tryd.ntmps12
          go_wp2_with fail
          refine HC.out.mono ?_
          rintro e w' ⟨rfl, hb⟩
          have HB := Lib.hid hb
          clear hb
          go_wp2_with fail
          go_ret2
          exact ⟨rfl, HB.out⟩
        · have heb : ((n : Int) == 65533) = false := by simp only [beq_eq_false_iff_ne, ne_eq]; omega
          have hn0 : (n : Int) ≤ 1114111 := by omega
          clear hf he
          go_enter Tryd.func12, Tryd.ntmps12
          go_wp2_with fail
          refine HC.out.mono ?_
          rintro e w' ⟨rfl, hb⟩
          have HB := Lib.hid hb
          clear hb
          go_wp2_with fail
          go_ret2
          exact ⟨rfl, HB.out⟩

theorem ret_bool {a b : Bool} (h : a = b) : Ending.returned (.bool a) = .returned (.bool b) := by rw [h]
theorem pointAt_any (s : ByteArray) (x : Int) (w : World) (hT : Lib.Utf8Tabs 0 1 w) :
    Calls Tryd.prog 32 #[.string s, .int .i64 x] w fun e w' => e = .returned (.bool (decP s x != -1)) ∧ Below w.heap.size w w' := by
  have HC := Lib.hid (decode_any s x w hT)
  clear hT
  generalize decP s x = p at *
  generalize decW s x = q at *
  go_enter Tryd.func32, Tryd.ntmps32
  go_wp2_with fail
  refine HC.out.mono ?_
  rintro e w' ⟨rfl, hb⟩
  have HB := Lib.hid hb
  clear hb
  go_wp2_with fail
  go_ret
  exact ⟨rfl, HB.out⟩
theorem iterPos_of {w : World} {k : Nat} {s : ByteArray} {pos : Nat} (h : w.heap[k]? = some (.stringIter s pos)) : w.iterPos k = pos := by
  unfold World.iterPos; rw [h]
theorem tabs_iterAt {w0 w : World} (hT : Lib.Utf8Tabs 0 1 w0) (hb : Below w0.heap.size w0 w) : Lib.Utf8Tabs 0 1 w := Go.Proofs.Utf8Tabs_below hT hb
theorem decode_rune (s : ByteArray) (k : Nat) : (((Utf8.decode s k).1 : Int) == 65533) = false → 0 ≤ pt (rest s k) := by
  intro h
  rw [decode_rest] at h
  by_cases hp : pt (rest s k) < 0
  · rw [if_pos hp] at h; simp at h
  · omega
theorem heap_keep {w w' : World} {k : Nat} {o : Obj} (hb : Below w.heap.size w w') (h : w.heap[k]? = some o) : w'.heap[k]? = some o := by
  have hlt : k < w.heap.size := (Array.getElem?_eq_some_iff.1 h).1
  rw [hb.block k hlt]; exact h
set_option maxRecDepth 100000 in
set_option maxHeartbeats 1000000 in
theorem valid_any (s : ByteArray) (w : World) (hT : Lib.Utf8Tabs 0 1 w) :
    Calls Tryd.prog 14 #[.string s] w fun e w' => e = .returned (.bool (valid s.data.toList)) ∧ Below w.heap.size w w' := by
  have HT := Lib.hid hT
  clear hT
  go_enter Tryd.func14, Tryd.ntmps14
  go_wp2
  go_loopw [] (fun wr => ∃ (pos : Nat), wr.heap[w.heap.size]? = some (.stringIter s pos) ∧ Hid (Below w.heap.size w wr) ∧ Hid (valid (rest s pos) = valid s.data.toList)) (fun wr => s.size - wr.iterPos w.heap.size)
  case atStart => exact ⟨0, World.iter_heap _ _ _, Lib.hid (below_iter _ _ _), Lib.hid (by rw [rest_zero])⟩
  case round =>
    obtain ⟨pos, hit, hb, hv⟩ := hrel
    by_cases hp : pos < s.size
    · have hnx : ∀ ty, (Instr.next (.pointer (some ⟨w.heap.size, 0, none⟩)) true ty).run Tryd.prog wr = _ := fun ty => Lib.run_next_any_at wr w.heap.size s pos ty hit hp
      have hw := rest_wd s pos hp
      have hrn := decode_rune s pos
      have hdw := decode_wd s pos
      have hcons := valid_cons _ (rest_ne s pos hp)
      rw [rest_next] at hcons
      have hdp : decP s pos = pt (rest s pos) := by unfold decP; rw [if_pos (by omega), Int.toNat_natCast]
      have hg := pt_ge (rest s pos)
      rw [hdw] at hnx
      generalize (Utf8.decode s pos).1 = r at *
      generalize wd (rest s pos) = k at *
      have hW := Lib.iterAt_heap wr w.heap.size s pos (pos + k) hit
      have hB : Below w.heap.size w (wr.iterAt w.heap.size s (pos + k)) := Lib.below_iterAt hb.out (Nat.le_refl _) s (pos + k)
      have hTW := tabs_iterAt HT.out hB
      generalize wr.iterAt w.heap.size s (pos + k) = W at *
      have HW := Lib.hid hW
      have HB := Lib.hid hB
      have HTW := Lib.hid hTW
      have HC := Lib.hid hcons
      have HP := Lib.hid hdp
      have HI := Lib.hid hit
      clear hW hB hTW hcons hdp hit
      by_cases hr : ((r : Int) == 65533) = true
      · clear hrn hdw
        by_cases hpt : pt (rest s pos) = -1
        · have hq : (decP s pos != -1) = false := by rw [HP.out, hpt]; rfl
          have HF : Hid (valid s.data.toList = false) := Lib.hid (by rw [← hv.out, HC.out, hpt]; rfl)
          have HQ := Lib.hid hq
          clear hq hpt
          go_wp2_with fail
          refine (pointAt_any s pos W HTW.out).mono ?_
          rintro e w' ⟨rfl, hb1⟩
          rw [HQ.out]
          have HB1 := Lib.hid hb1
          clear hb1
          go_wp2_with fail
          go_ret
          exact ⟨ret_bool HF.out.symm, HB.out.trans (HB1.out.mono HB.out.size)⟩
        · have hq : (decP s pos != -1) = true := by rw [HP.out]; simpa using hpt
          have HQ := Lib.hid hq
          have HF : Hid (valid (rest s (pos + k)) = valid s.data.toList) := Lib.hid (by rw [← hv.out, HC.out, decide_eq_true (by omega), Bool.true_and])
          clear hq hpt
          go_wp2_with fail
          refine (pointAt_any s pos W HTW.out).mono ?_
          rintro e w' ⟨rfl, hb1⟩
          rw [HQ.out]
          have HW1 := Lib.hid (heap_keep hb1 HW.out)
          have HB1 := Lib.hid (HB.out.trans (hb1.mono HB.out.size))
          clear hb1
          go_wp2_with fail
          go_roundw
          case rel => exact ⟨pos + k, HW1.out, HB1, HF⟩
          case measure => rw [iterPos_of HW1.out, iterPos_of HI.out]; omega
      · have hrf : ((r : Int) == 65533) = false := by simpa using hr
        have HF : Hid (valid (rest s (pos + k)) = valid s.data.toList) := Lib.hid (by rw [← hv.out, HC.out, decide_eq_true (hrn hrf), Bool.true_and])
        clear hrn hdw hr
        go_wp2_with fail
        go_roundw
        case rel => exact ⟨pos + k, HW.out, HB, HF⟩
        case measure => rw [iterPos_of HW.out, iterPos_of HI.out]; omega
    · have hnx : ∀ ty, (Instr.next (.pointer (some ⟨w.heap.size, 0, none⟩)) true ty).run Tryd.prog wr = _ := fun ty => Lib.run_next_end_at wr w.heap.size s pos ty hit hp
      go_wp2
      go_ret
      exact ⟨ret_bool (by rw [← hv.out, rest_end s pos hp, valid_nil]), hb.out⟩
theorem encode_valid (x : Int) (h : isPt x = true) : Utf8.encode x = ⟨(encL x.toNat).toArray⟩ := by
  unfold isPt at h
  rw [decide_eq_true_eq] at h
  have hv : Utf8.valid x = true := by
    unfold Utf8.valid
    rcases h with h | h <;> simp <;> omega
  unfold Utf8.encode encL encN
  simp only [hv, if_true]
  by_cases h1 : x.toNat < 128
  · rw [if_pos h1, if_pos h1]; rfl
  · rw [if_neg h1, if_neg h1]
    by_cases h2 : x.toNat < 2048
    · rw [if_pos h2, if_pos h2]; rfl
    · rw [if_neg h2, if_neg h2]
      by_cases h3 : x.toNat < 65536
      · rw [if_pos h3, if_pos h3]; rfl
      · rw [if_neg h3, if_neg h3]; rfl
theorem validRune_isPt (x : Int) : Lib.validRune x = isPt x := rfl
theorem enc_yes (x : Int) (h : isPt x = true) (w : World) : Calls Tryd.prog 16 #[.int .i64 x] w fun e w' => e = .returned (.tuple #[.string ⟨(encL x.toNat).toArray⟩, .int .i64 0]) ∧ w = w' := by
  have he := encode_valid x h
  have hb : 0 ≤ x ∧ x ≤ 1114111 := by unfold isPt at h; rw [decide_eq_true_eq] at h; omega
  rw [← he]
  have HV : Hid (Lib.validRune x = true) := Lib.hid (by rw [validRune_isPt]; exact h)
  clear he h
  obtain ⟨h0, h1⟩ := hb
  go_enter Tryd.func16, Tryd.ntmps16
  go_wp2_with fail
  refine (Tryd.utf8_ValidRune x _).mono ?_
  rintro e w' ⟨rfl, rfl⟩
  rw [HV.out]
  go_wp2_with fail
  go_ret2
  exact ⟨rfl, rfl⟩
theorem enc_no (x : Int) (h : isPt x = false) (w : World) : Calls Tryd.prog 16 #[.int .i64 x] w fun e w' => e = .returned (.tuple #[.string ⟨#[]⟩, .int .i64 8]) ∧ w = w' := by
  by_cases h0 : x < 0
  · clear h
    go_enter Tryd.func16, Tryd.ntmps16
    go_wp2_with fail
    go_ret2
    exact ⟨rfl, rfl⟩
  · by_cases h1 : 1114111 < x
    · clear h
      go_enter Tryd.func16, Tryd.ntmps16
      go_wp2_with fail
      go_ret2
      exact ⟨rfl, rfl⟩
    · have HV : Hid (Lib.validRune x = false) := Lib.hid (by rw [validRune_isPt]; exact h)
      clear h
      go_enter Tryd.func16, Tryd.ntmps16
      go_wp2_with fail
      refine (Tryd.utf8_ValidRune x _).mono ?_
      rintro e w' ⟨rfl, rfl⟩
      rw [HV.out]
      go_wp2_with fail
      go_ret2
      exact ⟨rfl, rfl⟩
end Go.Proofs.YtpeeeoejjplniaaDoor
