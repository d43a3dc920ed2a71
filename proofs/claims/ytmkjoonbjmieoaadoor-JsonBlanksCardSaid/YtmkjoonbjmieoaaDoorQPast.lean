/-
  jtext's pastUTF8 AT EVERY TEXT: where its points end; no memory that was there turns. Condition: unicode/utf8's two tables are as their text lays them (Facts).
-/
import Derived.Test.YtmkjoonbjmieoaaDoorQEsc
import Derived.Lib.OthersKept
namespace Go.Proofs.YtmkjoonbjmieoaaDoor
open Go.RowKit

theorem decN_fffd (a b c d : Nat) (h : (decN a b c d).1 = 65533) (ha : a < 256) : (decN a b c d).2 = 3 := by
  revert h
  unfold decN
  repeat' split
  all_goals first | (intro _; rfl) | (simp only; omega) | (intro h; simp at h)
theorem pt_fffd (l : List UInt8) (h : pt l = 65533) : wd l = 3 := decN_fffd _ _ _ _ h (nth_lt l 0)
theorem iterPos_of {w : World} {k : Nat} {s : ByteArray} {pos : Nat} (h : w.heap[k]? = some (.stringIter s pos)) : w.iterPos k = pos := by
  unfold World.iterPos; rw [h]
theorem heap_keep0 {w w' : World} {k : Nat} {o : Obj} (hb : Below w.heap.size w w') (h : w.heap[k]? = some o) : w'.heap[k]? = some o := by
  have hlt : k < w.heap.size := (Array.getElem?_eq_some_iff.1 h).1
  rw [hb.block k hlt]; exact h
theorem below_iter (w : World) (s : ByteArray) (pos : Nat) : Below w.heap.size w (w.iter s pos) := (Below.refl _ _).alloc (Nat.le_refl _) _

theorem decode_ptR (s : ByteArray) (k : Nat) : (((Utf8.decode s k).1 : Nat) : Int) = ptR (rest s k) ∧ (Utf8.decode s k).2 = wd (rest s k) := by
  have h := decode_pt s k
  have e : s.data.toList.drop k = rest s k := rfl
  rw [e] at h
  unfold ptR
  by_cases hp : pt (rest s k) < 0
  · rw [if_pos hp] at h ⊢
    rw [h, (pt_neg _ hp).2]
    exact ⟨rfl, rfl⟩
  · rw [if_neg hp] at h ⊢
    rw [h]
    exact ⟨by simp only; omega, rfl⟩
set_option maxRecDepth 100000 in
set_option maxHeartbeats 1000000 in
theorem pastUTF8_any (s : ByteArray) (w : World) (hF : Facts w) :
    Calls Tryd.prog 23 #[.string s] w fun e w' => e = .returned (.int .i64 (good s.data.toList : Nat)) ∧ Below w.heap.size w w' := by
  have HF := Lib.hid hF
  clear hF
  go_enter Tryd.func23, Tryd.ntmps23
  go_wp2
  go_loopw [] (fun wr => ∃ (pos : Nat), wr.heap[w.heap.size]? = some (.stringIter s pos) ∧ pos ≤ s.size ∧ Hid (Below w.heap.size w wr) ∧ Hid (pos + good (rest s pos) = good s.data.toList)) (fun wr => s.size - wr.iterPos w.heap.size)
  case atStart => exact ⟨0, World.iter_heap _ _ _, Nat.zero_le _, Lib.hid (below_iter _ _ _), Lib.hid (by rw [rest_zero, Nat.zero_add])⟩
  case round =>
    obtain ⟨pos, hit, hple, hb, hv⟩ := hrel
    by_cases hp : pos < s.size
    · have hnx : ∀ ty, (Instr.next (.pointer (some ⟨w.heap.size, 0, none⟩)) true ty).run Tryd.prog wr = _ := fun ty => Lib.run_next_any_at wr w.heap.size s pos ty hit hp
      obtain ⟨e1, e2⟩ := decode_ptR s pos
      have hne := rest_ne s pos hp
      have hw := wd_le _ hne
      have hwp := wd_pos (rest s pos)
      rw [rest_len] at hw
      have hfd := pt_fffd (rest s pos)
      have hng := pt_neg (rest s pos)
      have hbad := good_bad _ hne
      have hcons := good_cons _ hne
      rw [rest_drop] at hcons
      have HD := Lib.hid (fun W hT => dec_at s pos hp W hT)
      have hpr : ptR (rest s pos) = if pt (rest s pos) < 0 then 65533 else pt (rest s pos) := rfl
      have hpb := ptR_bounds (rest s pos)
      rw [e2, e1] at hnx
      generalize ptR (rest s pos) = r at *
      generalize pt (rest s pos) = p at *
      generalize wd (rest s pos) = k at *
      have hW := Lib.iterAt_heap wr w.heap.size s pos (pos + k) hit
      have hB : Below w.heap.size w (wr.iterAt w.heap.size s (pos + k)) := Lib.below_iterAt hb.out (Nat.le_refl _) s (pos + k)
      generalize wr.iterAt w.heap.size s (pos + k) = W at *
      have HW := Lib.hid hW
      have HB := Lib.hid hB
      have HFW := Lib.hid (HF.out.below hB)
      have HI := Lib.hid hit
      clear hW hB hit e1 e2 hne
      by_cases hr : r = 65533
      · have hrb : (r == 65533) = true := by simp [hr]
        have hrn : (r != 65533) = false := by simp [hr]
        by_cases hneg : p < 0
        · obtain ⟨_, rfl⟩ := hng hneg
          have HG : Hid (pos = good s.data.toList) := Lib.hid (by rw [← hv.out, hbad hneg]; rfl)
          clear hfd hbad hcons hneg hpr hng
          subst hr
          go_wp2_with fail
          refine (HD.out _ HFW.out.tabs).mono ?_
          rintro e w1 ⟨rfl, hb1⟩
          have HB1 := Lib.hid (HB.out.trans (hb1.mono HB.out.size))
          clear hb1
          go_wp2_with fail
          go_ret
          exact ⟨ret_i64 (by rw [← HG.out]), HB1.out⟩
        · have hk3 : k = 3 := hfd (by rw [if_neg hneg] at hpr; omega)
          have HG : Hid (pos + k + good (rest s (pos + k)) = good s.data.toList) := Lib.hid (by rw [← hv.out, hcons hneg]; omega)
          have hk1 : ((k : Int) == 1) = false := by simp only [beq_eq_false_iff_ne, ne_eq]; omega
          clear hfd hbad hcons hneg hpr hng
          subst hr
          go_wp2_with fail
          refine (HD.out _ HFW.out.tabs).mono ?_
          rintro e w1 ⟨rfl, hb1⟩
          have HB1 := Lib.hid (HB.out.trans (hb1.mono HB.out.size))
          have HW1 := Lib.hid (heap_keep0 hb1 HW.out)
          clear hb1
          go_wp2_with fail
          go_roundw
          case rel => exact ⟨pos + k, HW1.out, by omega, HB1, HG⟩
          case measure => rw [iterPos_of HW1.out, iterPos_of HI.out]; omega
      · have hrb : (r == 65533) = false := by simpa using hr
        have hrn : (r != 65533) = true := by simpa using hr
        have hneg : ¬ p < 0 := fun h => hr (by rw [if_pos h] at hpr; exact hpr)
        have HG : Hid (pos + k + good (rest s (pos + k)) = good s.data.toList) := Lib.hid (by rw [← hv.out, hcons hneg]; omega)
        clear hfd hbad hcons hneg hpr hng
        go_wp2_with fail
        go_roundw
        case rel => exact ⟨pos + k, HW.out, by omega, HB, HG⟩
        case measure => rw [iterPos_of HW.out, iterPos_of HI.out]; omega
    · have hnx : ∀ ty, (Instr.next (.pointer (some ⟨w.heap.size, 0, none⟩)) true ty).run Tryd.prog wr = _ := fun ty => Lib.run_next_end_at wr w.heap.size s pos ty hit hp
      have HG : Hid (s.size = good s.data.toList) := Lib.hid (by rw [← hv.out, rest_end s pos hp, good_nil]; omega)
      go_wp2
      go_ret
      exact ⟨ret_i64 (by rw [← HG.out]), hb.out⟩
end Go.Proofs.YtmkjoonbjmieoaaDoor
