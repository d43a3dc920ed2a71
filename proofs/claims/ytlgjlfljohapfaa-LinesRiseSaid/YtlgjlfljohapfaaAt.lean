/-
  lines' At AT EVERY TEXT of at most 1000000 bytes, every place: the line of the place, and the units ahead of it there; no memory that was there turns. Condition: the text's length.
-/
import Derived.Test.YtlgjlfljohapfaaPlace
namespace Go.Proofs.Ytlgjlfljohapfaa
open Go.RowKit Go.Shelf

set_option maxRecDepth 100000 in
set_option maxHeartbeats 4000000 in
theorem at_any (s : ByteArray) (hs : s.size ≤ 1000000) (p : Int) (w : World) : Calls Try.prog 37 #[.string s, .int .i64 p] w fun e w' =>
    e = .returned (.agg #[.int .i64 (lineN s.data.toList (clip s.data.toList p) : Int), .int .i64 (charP s.data.toList (clip s.data.toList p) : Int)]) ∧ Below w.heap.size w w' := by
  have hcl := clip_le s.data.toList p
  have hsz : s.data.toList.length = s.size := rfl
  have hmm : min (max p 0) (s.size : Int) = (clip s.data.toList p : Int) := by unfold clip; rw [hsz]; omega
  have HC := Lib.hid (fun w => lineOf_any s hs (clip s.data.toList p) w)
  have hbd := rows_bound _ _ _ _ (lineN_some s.data.toList (clip s.data.toList p))
  have hfr := lineN_from s.data.toList (clip s.data.toList p)
  have hch : charP s.data.toList (clip s.data.toList p) = unitsAt (piece s.data.toList (rowN s.data.toList (lineN s.data.toList (clip s.data.toList p)))) ((clip s.data.toList p : Int) - (rowN s.data.toList (lineN s.data.toList (clip s.data.toList p))).1) := rfl
  rw [hsz] at hbd hcl
  rw [hch]
  clear hch
  generalize clip s.data.toList p = c at *
  generalize lineN s.data.toList c = n at *
  generalize rowN s.data.toList n = r at *
  obtain ⟨f, t⟩ := r
  simp only at HC hbd hfr
  have HU := Lib.hid (fun w => unitsAt_any (s.extract f t) ((c : Int) - f) (Nat.le_trans (ext_le _ _ _) hs) w)
  rw [ext_piece] at HU
  simp only
  generalize unitsAt (piece s.data.toList (f, t)) ((c : Int) - f) = q at *
  clear hsz
  have HM := Lib.hid hmm
  clear hmm
  go_enter Try.func37, Try.ntmps37
  go_wp2_with fail
  rw [HM.out]
  refine (HC.out _).mono ?_
  rintro e w1 ⟨rfl, hb⟩
  have HB := Lib.hid hb
  clear hb
  go_wp2_with fail
  have b0 := alloc_below w (.cells #[.int .i64 0, .int .i64 0] 79)
  have b1 := alloc_below w1 (.cells #[.int .i64 (f : Int), .int .i64 (t : Int)] 107)
  have HB1 := Lib.hid ((b0.trans (HB.out.mono b0.size)).trans (b1.mono (Nat.le_trans b0.size HB.out.size)))
  have HR0 := Lib.hid (heap_keep b1 (heap_keep HB.out (alloc_top w #[.int .i64 0, .int .i64 0] 79)))
  have hne : w.heap.size ≠ w1.heap.size := by have := HB.out.size; rw [World.size_alloc] at this; omega
  have HNE := Lib.hid hne
  have k2 := alloc_top w1 #[.int .i64 (f : Int), .int .i64 (t : Int)] 107
  have HS0 : Hid ((w1.alloc (.cells #[.int .i64 (f : Int), .int .i64 (t : Int)] 107)).cell? ⟨w1.heap.size, 0, none⟩ = some (.int .i64 (f : Int)) ∧ (w1.alloc (.cells #[.int .i64 (f : Int), .int .i64 (t : Int)] 107)).cell? ⟨w1.heap.size, 1, none⟩ = some (.int .i64 (t : Int))) := Lib.hid ⟨(cell_at (i := 0) k2).trans rfl, (cell_at (i := 1) k2).trans rfl⟩
  have hsl : ∀ W, (Instr.slice 9 (.string s) (some (.int .i64 (f : Int))) (some (.int .i64 (t : Int))) none).run Try.prog W = .ok (.string (s.extract f t)) W := fun W => by
    rw [run_slice_string W 9 s .i64 .i64 f t Try.underlying9 (by omega) (by omega) (by omega), Int.toNat_natCast, Int.toNat_natCast]
  have hwr : IntKind.i64.wrap ((c : Int) - (f : Int)) = (c : Int) - (f : Int) := IntWalk.i64_in _ (by omega)
  clear k2 HB b0 b1 hne
  go_region_held3 (fun w' => w'.cell? ⟨w1.heap.size, 0, none⟩ = some (.int .i64 (f : Int)) ∧ w'.cell? ⟨w1.heap.size, 1, none⟩ = some (.int .i64 (t : Int))) (first | exact HS0.out | exact two_keep HS0.out kq | exact two_set HNE.out (two_keep HS0.out kq)) (first | (go_at_call 58; refine (HU.out _).mono ?_; rintro e wq ⟨rfl, kq⟩; have hqr := heap_keep (below_drew kq) HR0.out; have hq0 := cell_at (i := 0) hqr; have hq1 := cell_at (i := 1) hqr; have hq2 := frozen_of_row wq w.heap.size 0 _ _ hqr; have hq3 := frozen_of_row wq w.heap.size 1 _ _ hqr))
  have HB2 := Lib.hid (((HB1.out.trans ((below_drew kq).mono HB1.out.size)).setCell (p := ⟨w.heap.size, 0, none⟩) (Nat.le_refl _) (.int .i64 n)).setCell (p := ⟨w.heap.size, 1, none⟩) (Nat.le_refl _) (.int .i64 q))
  have hz := setCell2_heap (x := .int .i64 n) (y := .int .i64 q) (heap_keep (below_drew kq) HR0.out)
  have g0 := cell_at (i := 0) hz
  have g1 := cell_at (i := 1) hz
  clear HS0 hq0 hq1 hq2 hq3 hqr
  go_wp2_with fail
  refine bodyPost_ret (v := .agg #[.int .i64 n, .int .i64 q]) ?_ rfl ⟨rfl, HB2.out⟩
  simp [results, Try.f37, go_sem, g0, g1]
end Go.Proofs.Ytlgjlfljohapfaa
