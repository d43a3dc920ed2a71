/-
  THE LAW FramePuts: any body, and a body of any number of bytes up to 2 to the 19, as a frame, is the document's. Conditions: what the variables that are read hold (Facts).
-/
import Derived.Test.YtmaihiklcdidbaaDoorPut
import Derived.Deep.OwnRows
namespace Go.Proofs.YtmaihiklcdidbaaDoor
open Go.RowKit

set_option maxRecDepth 100000 in
set_option maxHeartbeats 1000000 in
theorem puts_any (b : ByteArray) (n : Int) (hn0 : 0 ≤ n) (hn1 : n ≤ 4294967295) (w : World) (hb : b.size ≤ maxLen) (hF : Facts w) : Calls Tryd.prog 4 #[.string b, .int .u32 n] w fun e w' => e = .returned (.bool true) ∧ Below w.heap.size w w' := by
  have HC := Lib.hid (cut_any b (by unfold maxLen at hb; omega) w)
  obtain ⟨k, hk⟩ : ∃ k : Nat, n % 524288 = k := ⟨(n % 524288).toNat, by omega⟩
  have hk2 : k < 524288 := by omega
  have hm := run_make_row' (P := Tryd.prog) 42 5 (.int .u8 0) 1 Tryd.underlying42 u8_info rfl .u32 .u32 k (by omega) (by omega) w
  obtain ⟨W1, hW1⟩ : ∃ W1, W1 = w.alloc (.cells (madeCells #[.int .u8 0] k) 5) := ⟨_, rfl⟩
  have hrow : W1.rowIs w.heap.size 5 k (fun _ => .int .u8 0) := by rw [hW1]; exact World.rowIs_made w _ k _
  have hBI : Lib.BytesIn W1 (some ⟨w.heap.size, 0, none⟩) k (nums (List.replicate k 0)) := by
    intro _
    refine ⟨w.heap.size, 0, rfl, fun j hj => ?_⟩
    obtain ⟨c, hb, hn, hc⟩ := hrow
    rw [Nat.zero_add]
    have : W1.cell? ⟨w.heap.size, j, none⟩ = c[j]? := by simp [World.cell?, hb]
    rw [this, hc j hj]
    unfold nums
    rw [List.getD_eq_getElem?_getD, List.getElem?_map, List.getElem?_replicate, if_pos hj]
    rfl
  have hcv := hBI.convert (by rw [nums_len, List.length_replicate]) k 42 5 9 Tryd.underlying42 Tryd.underlying5 Tryd.underlying9
  rw [str_nums] at hcv
  have hb1 : Below w.heap.size w W1 := by rw [hW1]; exact alloc_below _ _
  have hl1 : (txt (b.data.toList.take 3000)).size ≤ 3000 := by show (List.toArray _).size ≤ _; simp; omega
  have hl2 : (txt (List.replicate k 0)).size ≤ 524288 := by show (List.toArray _).size ≤ _; simp; omega
  generalize txt (List.replicate k 0) = Z at *
  generalize txt (b.data.toList.take 3000) = B at *
  have HP1 := Lib.hid (fun W (h : Below w.heap.size w W) => put_any B (by omega) W (hF.below h))
  have HP2 := Lib.hid (fun W (h : Below w.heap.size w W) => put_any Z (by omega) W (hF.below h))
  have HR1 := Lib.hid (refPut_any B (by omega))
  have HR2 := Lib.hid (refPut_any Z (by omega))
  have HA := Lib.hid (fun W (h : Below w.heap.size w W) => awake_any W (hF.below h))
  rw [hW1] at hcv
  generalize txt (putP B.data.toList) = PB at *
  generalize txt (putP Z.data.toList) = PZ at *
  have HB1 := Lib.hid hb1
  have HW1 := Lib.hid hW1
  clear hb1 hW1 hrow hBI hl1 hl2
  go_enter Tryd.func4, Tryd.ntmps4
  go_wp2_with fail
  refine HC.out.mono ?_
  rintro e w1 ⟨rfl, rfl⟩
  go_wp2_with fail
  rw [← HW1.out]
  refine (HP1.out _ HB1.out).mono ?_
  rintro e w2 ⟨rfl, hb2⟩
  have HB2 := Lib.hid (HB1.out.trans (hb2.mono HB1.out.size))
  clear hb2
  go_wp2_with fail
  refine (HR1.out w2).mono ?_
  rintro e w3 ⟨rfl, hb3⟩
  have HB3 := Lib.hid (HB2.out.trans (hb3.mono HB2.out.size))
  clear hb3
  have e1 : (PB.toList == PB.toList) = true := by simp
  have e2 : (PZ.toList == PZ.toList) = true := by simp
  go_wp2_with fail
  refine (HP2.out _ HB3.out).mono ?_
  rintro e w4 ⟨rfl, hb4⟩
  have HB4 := Lib.hid (HB3.out.trans (hb4.mono HB3.out.size))
  clear hb4
  go_wp2_with fail
  refine (HR2.out w4).mono ?_
  rintro e w5 ⟨rfl, hb5⟩
  have HB5 := Lib.hid (HB4.out.trans (hb5.mono HB4.out.size))
  clear hb5
  go_wp2_with fail
  refine (HA.out _ HB5.out).mono ?_
  rintro e w6 ⟨rfl, hb6⟩
  have HB6 := Lib.hid (HB5.out.trans (hb6.mono HB5.out.size))
  clear hb6
  go_wp2_with fail
  go_ret
  exact ⟨rfl, HB6.out⟩
end Go.Proofs.YtmaihiklcdidbaaDoor
