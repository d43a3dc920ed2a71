/-
  utf's Valid AT EVERY INPUT: what it returns; no memory that was there turns. Condition: unicode/utf8's two tables are as their text lays them (Utf8Tabs).
-/
import Derived.Test.YtpphkkelikdhkaaDoorDec
namespace Go.Proofs.YtpphkkelikdhkaaDoor
open Go.RowKit

theorem pointAt_any (s : ByteArray) (x : Int) (w : World) (hT : Lib.Utf8Tabs 1 2 w) :
    Calls Tryd.prog 34 #[.string s, .int .i64 x] w fun e w' => e = .returned (.bool (decP s x != -1)) ∧ Below w.heap.size w w' := by
  have HC := Lib.hid (decode_any s x w hT)
  clear hT
  generalize decP s x = p at *
  generalize decW s x = q at *
  go_enter Tryd.func34, Tryd.ntmps34
  go_wp2_with fail
  refine HC.out.mono ?_
  rintro e w' ⟨rfl, hb⟩
  have HB := Lib.hid hb
  clear hb
  go_wp2_with fail
  go_ret
  exact ⟨rfl, HB.out⟩
theorem tabs_iterAt {w0 w : World} (hT : Lib.Utf8Tabs 1 2 w0) (hb : Below w0.heap.size w0 w) : Lib.Utf8Tabs 1 2 w := Go.Proofs.Utf8Tabs_below hT hb
theorem decode_rune (s : ByteArray) (k : Nat) : (((Utf8.decode s k).1 : Int) == 65533) = false → 0 ≤ pt (rest s k) := by
  intro h
  rw [decode_rest] at h
  by_cases hp : pt (rest s k) < 0
  · rw [if_pos hp] at h; simp at h
  · omega
set_option maxRecDepth 100000 in
set_option maxHeartbeats 1000000 in
theorem valid_any (s : ByteArray) (w : World) (hT : Lib.Utf8Tabs 1 2 w) :
    Calls Tryd.prog 10 #[.string s] w fun e w' => e = .returned (.bool (valid s.data.toList)) ∧ Below w.heap.size w w' := by
  have HT := Lib.hid hT
  clear hT
  go_enter Tryd.func10, Tryd.ntmps10
  go_wp2
  go_loopw [] (fun wr => ∃ (pos : Nat), wr.heap[w.heap.size]? = some (.stringIter s pos) ∧ Hid (Below w.heap.size w wr) ∧ Hid (valid (rest s pos) = valid s.data.toList)) (fun wr => s.size - wr.iterPos w.heap.size)
  case atStart => exact ⟨0, World.iter_heap _ _ _, Lib.hid (below_iter _ _ _), Lib.hid (by rw [rest_zero])⟩
  case round =>
    obtain ⟨pos, hit, hb, hv⟩ := hrel
    by_cases hp : pos < s.size
    · have hnx : ∀ ty, (Instr.next (.pointer (some ⟨w.heap.size, 0, none⟩)) true ty).run Tryd.prog wr = _ := fun ty => Lib.run_next_any_at wr w.heap.size s pos ty hit hp
      have hw := rest_wd s pos hp
      have hrn := decode_rune s pos
      have hdw := decode_wd s pos
      have hcons := valid_cons _ (rest_ne s pos hp)
      rw [rest_next] at hcons
      have hdp : decP s pos = pt (rest s pos) := by unfold decP; rw [if_pos (by omega), Int.toNat_natCast]
      have hg := pt_ge (rest s pos)
      rw [hdw] at hnx
      generalize (Utf8.decode s pos).1 = r at *
      generalize wd (rest s pos) = k at *
      have hW := Lib.iterAt_heap wr w.heap.size s pos (pos + k) hit
      have hB : Below w.heap.size w (wr.iterAt w.heap.size s (pos + k)) := Lib.below_iterAt hb.out (Nat.le_refl _) s (pos + k)
      have hTW := tabs_iterAt HT.out hB
      generalize wr.iterAt w.heap.size s (pos + k) = W at *
      have HW := Lib.hid hW
      have HB := Lib.hid hB
      have HTW := Lib.hid hTW
      have HC := Lib.hid hcons
      have HP := Lib.hid hdp
      have HI := Lib.hid hit
      clear hW hB hTW hcons hdp hit
      by_cases hr : ((r : Int) == 65533) = true
      · clear hrn hdw
        by_cases hpt : pt (rest s pos) = -1
        · have hq : (decP s pos != -1) = false := by rw [HP.out, hpt]; rfl
          have HF : Hid (valid s.data.toList = false) := Lib.hid (by rw [← hv.out, HC.out, hpt]; rfl)
          have HQ := Lib.hid hq
          clear hq hpt
          go_wp2_with fail
          refine (pointAt_any s pos W HTW.out).mono ?_
          rintro e w' ⟨rfl, hb1⟩
          rw [HQ.out]
          have HB1 := Lib.hid hb1
          clear hb1
          go_wp2_with fail
          go_ret
          exact ⟨ret_bool HF.out.symm, HB.out.trans (HB1.out.mono HB.out.size)⟩
        · have hq : (decP s pos != -1) = true := by rw [HP.out]; simpa using hpt
          have HQ := Lib.hid hq
          have HF : Hid (valid (rest s (pos + k)) = valid s.data.toList) := Lib.hid (by rw [← hv.out, HC.out, decide_eq_true (by omega), Bool.true_and])
          clear hq hpt
          go_wp2_with fail
          refine (pointAt_any s pos W HTW.out).mono ?_
          rintro e w' ⟨rfl, hb1⟩
          rw [HQ.out]
          have HW1 := Lib.hid (heap_keep hb1 HW.out)
          have HB1 := Lib.hid (HB.out.trans (hb1.mono HB.out.size))
          clear hb1
          go_wp2_with fail
          go_roundw
          case rel => exact ⟨pos + k, HW1.out, HB1, HF⟩
          case measure => rw [iterPos_of HW1.out, iterPos_of HI.out]; omega
      · have hrf : ((r : Int) == 65533) = false := by simpa using hr
        have HF : Hid (valid (rest s (pos + k)) = valid s.data.toList) := Lib.hid (by rw [← hv.out, HC.out, decide_eq_true (hrn hrf), Bool.true_and])
        clear hrn hdw hr
        go_wp2_with fail
        go_roundw
        case rel => exact ⟨pos + k, HW.out, HB, HF⟩
        case measure => rw [iterPos_of HW.out, iterPos_of HI.out]; omega
    · have hnx : ∀ ty, (Instr.next (.pointer (some ⟨w.heap.size, 0, none⟩)) true ty).run Tryd.prog wr = _ := fun ty => Lib.run_next_end_at wr w.heap.size s pos ty hit hp
      go_wp2
      go_ret
      exact ⟨ret_bool (by rw [← hv.out, rest_end s pos hp, valid_nil]), hb.out⟩
end Go.Proofs.YtpphkkelikdhkaaDoor
