/-
  emendref06.At AT EVERY TEXT of at most 1000000 bytes, every place: the line of the place, and the units ahead of it there; no memory that was there turns. Condition: the text's length.
-/
import Derived.Test.YtnmbclkpncjebaaRefPlace
namespace Go.Proofs.Ytnmbclkpncjebaa
open Go.RowKit

/-- The last of the first i lines that begins at a place or ahead of it. -/
def lastL (n i : Nat) : Nat := min (i - 1) n
theorem lastL_hit {l : List UInt8} {p i : Nat} {r : Nat × Nat} (h : (rows l 0)[i]? = some r) (hr : r.1 ≤ p) : lastL (lineN l p) (i + 1) = i := by
  have h1 := (upto_iff l p 0 i r h).2 hr
  unfold lastL lineN
  omega
theorem lastL_miss {l : List UInt8} {p i : Nat} {r : Nat × Nat} (h : (rows l 0)[i]? = some r) (hr : ¬ r.1 ≤ p) : lastL (lineN l p) (i + 1) = lastL (lineN l p) i := by
  have h1 : ¬ i < upto (rows l 0) p := fun x => hr ((upto_iff l p 0 i r h).1 x)
  have h2 := upto_pos l p
  unfold lastL lineN
  omega
theorem lastL_end (l : List UInt8) (p : Nat) : lastL (lineN l p) (rows l 0).length = lineN l p := by
  have := lineN_lt l p
  unfold lastL
  omega
set_option maxRecDepth 100000 in
set_option maxHeartbeats 4000000 in
theorem refAt_low (s : ByteArray) (hs : s.size ≤ 1000000) (p : Int) (hA : p < 0) (w : World) : Calls Try.prog 18 #[.string s, .int .i64 p] w fun e w' =>
    e = .returned (.agg #[.int .i64 (lineN s.data.toList (clip s.data.toList p) : Int), .int .i64 (charP s.data.toList (clip s.data.toList p) : Int)]) ∧ Below w.heap.size w w' := by
  have hcl := clip_le s.data.toList p
  have hsz : s.data.toList.length = s.size := rfl
  have hmm : min (max p 0) (s.size : Int) = (clip s.data.toList p : Int) := by unfold clip; rw [hsz]; omega
  have HP := Lib.hid (fun w => refLines_any s hs w)
  unfold LinesEnd at HP
  have hlt := lineN_lt s.data.toList (clip s.data.toList p)
  have hln := lineN_some s.data.toList (clip s.data.toList p)
  have hbd := rows_bound _ _ _ _ hln
  have hfr := lineN_from s.data.toList (clip s.data.toList p)
  have hlen := rows_len s.data.toList 0
  have HHit := Lib.hid (fun (i : Nat) (r : Nat × Nat) (h : (rows s.data.toList 0)[i]? = some r) => And.intro (lastL_hit (p := clip s.data.toList p) h) (lastL_miss (p := clip s.data.toList p) h))
  have HEnd := Lib.hid (lastL_end s.data.toList (clip s.data.toList p))
  have hch : charP s.data.toList (clip s.data.toList p) = unitsAt (piece s.data.toList (rowN s.data.toList (lineN s.data.toList (clip s.data.toList p)))) ((clip s.data.toList p : Int) - (rowN s.data.toList (lineN s.data.toList (clip s.data.toList p))).1) := rfl
  rw [hsz] at hbd hcl hlen
  rw [hch]
  clear hch
  generalize clip s.data.toList p = c at *
  generalize lineN s.data.toList c = n at *
  generalize rowN s.data.toList n = r at *
  obtain ⟨f, t⟩ := r
  simp only at hbd hfr
  have HU := Lib.hid (fun w => refUnitsAt_any (s.extract f t) ((c : Int) - f) (Nat.le_trans (ext_le _ _ _) hs) w)
  rw [ext_piece] at HU
  simp only
  clear hsz
  obtain rfl : c = 0 := by omega
  obtain rfl : f = 0 := by omega
  have hq0 : (((0 : Nat) : Int) - ((0 : Nat) : Int)) = 0 := rfl
  rw [hq0] at HU
  rw [hq0]
  generalize unitsAt (piece s.data.toList (0, t)) 0 = q at *
  clear hmm hfr hq0
  generalize rows s.data.toList 0 = rs at *
  have HN := Lib.hid hln
  clear hln
  go_enter Try.func18, Try.ntmps18
  go_wp2_with fail
  refine (HP.out _).mono ?_
  rintro e w1 ⟨v, rfl, hown, hb⟩
  obtain ⟨A, cap, rfl, hrd⟩ := rreads_of hown
  obtain ⟨g, rfl, hc⟩ := hrd (by omega)
  have HB := Lib.hid hb
  have HC := Lib.hid hc
  clear hb hown hrd hc
  go_wp2_with fail
  go_loopw [6, 7] (fun u x wr => ∃ k : Nat, k ≤ rs.length ∧ u = .int .i64 (lastL n k : Int) ∧ x = .int .i64 (k : Int) ∧ wr = w1) (fun u x _ => rs.length - (intOf x).toNat)
  case atStart => exact ⟨0, by omega, by simp [lastL], by go_num, rfl⟩
  case round =>
    obtain ⟨k, hk, rfl, rfl, rfl⟩ := hrel
    by_cases hlt2 : k < rs.length
    · have hrk := List.getElem?_eq_getElem hlt2
      obtain ⟨y, hy⟩ : ∃ y, rs[k] = y := ⟨_, rfl⟩
      rw [hy] at hrk
      have c0 := (HC.out k _ hrk).1
      have hh := HHit.out k y hrk
      by_cases hle : y.1 ≤ 0
      · have HL := Lib.hid (hh.1 hle)
        have dl : decide ((y.1 : Int) ≤ 0) = true := by simp only [decide_eq_true_eq]; omega
        clear hh hy hrk
        go_wp2_with fail
        go_roundw
        case rel => exact ⟨k + 1, by omega, by rw [HL.out], by go_num, by first | rfl | trivial⟩
        case measure => simp [intOf]; omega
      · have HL := Lib.hid (hh.2 hle)
        have dl : decide ((y.1 : Int) ≤ 0) = false := by simp only [decide_eq_false_iff_not]; omega
        clear hh hy hrk
        go_wp2_with fail
        go_roundw
        case rel => exact ⟨k + 1, by omega, by rw [HL.out], by go_num, by first | rfl | trivial⟩
        case measure => simp [intOf]; omega
    · obtain rfl : k = rs.length := by omega
      have HE := HEnd
      rw [HE.out]
      have c0 := (HC.out n _ HN.out).1
      have c1 := (HC.out n _ HN.out).2
      simp only at c0 c1
      go_wp2_with fail
      have b0 := alloc_below w (.cells #[.int .i64 0, .int .i64 0] 33)
      have b1 := alloc_below wr (.cells #[.int .i64 0, .int .i64 (t : Int)] 30)
      have HB1 := Lib.hid ((b0.trans (HB.out.mono b0.size)).trans (b1.mono (Nat.le_trans b0.size HB.out.size)))
      have HR0 := Lib.hid (heap_keep b1 (heap_keep HB.out (alloc_top w #[.int .i64 0, .int .i64 0] 33)))
      have hne : w.heap.size ≠ wr.heap.size := by have := HB.out.size; rw [World.size_alloc] at this; omega
      have HNE := Lib.hid hne
      have k2 := alloc_top wr #[.int .i64 0, .int .i64 (t : Int)] 30
      have HS0 : Hid ((wr.alloc (.cells #[.int .i64 0, .int .i64 (t : Int)] 30)).cell? ⟨wr.heap.size, 0, none⟩ = some (.int .i64 0) ∧ (wr.alloc (.cells #[.int .i64 0, .int .i64 (t : Int)] 30)).cell? ⟨wr.heap.size, 1, none⟩ = some (.int .i64 (t : Int))) := Lib.hid ⟨(cell_at (i := 0) k2).trans rfl, (cell_at (i := 1) k2).trans rfl⟩
      have hsl : ∀ W, (Instr.slice 9 (.string s) (some (.int .i64 0)) (some (.int .i64 (t : Int))) none).run Try.prog W = .ok (.string (s.extract 0 t)) W := fun W => by
        rw [run_slice_string W 9 s .i64 .i64 0 t Try.underlying9 (by omega) (by omega) (by omega), Int.toNat_natCast]; rfl
      skip
      clear k2 HB b0 b1 hne c0 c1 HE HHit HC HEnd HP HN
      go_region_held3 (fun w' => w'.cell? ⟨wr.heap.size, 0, none⟩ = some (.int .i64 0) ∧ w'.cell? ⟨wr.heap.size, 1, none⟩ = some (.int .i64 (t : Int))) (first | exact HS0.out | exact two_keep HS0.out kq | exact two_set HNE.out (two_keep HS0.out kq)) (first | (go_at_call 36; refine (HU.out _).mono ?_; rintro e wq ⟨rfl, kq⟩; have hqr := heap_keep (below_drew kq) HR0.out; have hq0 := cell_at (i := 0) hqr; have hq1 := cell_at (i := 1) hqr; have hq2 := frozen_of_row wq w.heap.size 0 _ _ hqr; have hq3 := frozen_of_row wq w.heap.size 1 _ _ hqr))
      have HB2 := Lib.hid (((HB1.out.trans ((below_drew kq).mono HB1.out.size)).setCell (p := ⟨w.heap.size, 0, none⟩) (Nat.le_refl _) (.int .i64 n)).setCell (p := ⟨w.heap.size, 1, none⟩) (Nat.le_refl _) (.int .i64 q))
      have hz := setCell2_heap (x := .int .i64 n) (y := .int .i64 q) (heap_keep (below_drew kq) HR0.out)
      have g0 := cell_at (i := 0) hz
      have g1 := cell_at (i := 1) hz
      clear HS0 hq0 hq1 hq2 hq3 hqr
      go_wp2_with fail
      refine bodyPost_ret (v := .agg #[.int .i64 n, .int .i64 q]) ?_ rfl ⟨rfl, HB2.out⟩
      simp [results, Try.f18, go_sem, g0, g1]
set_option maxRecDepth 100000 in
set_option maxHeartbeats 4000000 in
theorem refAt_high (s : ByteArray) (hs : s.size ≤ 1000000) (p : Int) (hA : ¬ p < 0) (hB : (s.size : Int) < p) (w : World) : Calls Try.prog 18 #[.string s, .int .i64 p] w fun e w' =>
    e = .returned (.agg #[.int .i64 (lineN s.data.toList (clip s.data.toList p) : Int), .int .i64 (charP s.data.toList (clip s.data.toList p) : Int)]) ∧ Below w.heap.size w w' := by
  have hcl := clip_le s.data.toList p
  have hsz : s.data.toList.length = s.size := rfl
  have hmm : min (max p 0) (s.size : Int) = (clip s.data.toList p : Int) := by unfold clip; rw [hsz]; omega
  have HP := Lib.hid (fun w => refLines_any s hs w)
  unfold LinesEnd at HP
  have hlt := lineN_lt s.data.toList (clip s.data.toList p)
  have hln := lineN_some s.data.toList (clip s.data.toList p)
  have hbd := rows_bound _ _ _ _ hln
  have hfr := lineN_from s.data.toList (clip s.data.toList p)
  have hlen := rows_len s.data.toList 0
  have HHit := Lib.hid (fun (i : Nat) (r : Nat × Nat) (h : (rows s.data.toList 0)[i]? = some r) => And.intro (lastL_hit (p := clip s.data.toList p) h) (lastL_miss (p := clip s.data.toList p) h))
  have HEnd := Lib.hid (lastL_end s.data.toList (clip s.data.toList p))
  have hch : charP s.data.toList (clip s.data.toList p) = unitsAt (piece s.data.toList (rowN s.data.toList (lineN s.data.toList (clip s.data.toList p)))) ((clip s.data.toList p : Int) - (rowN s.data.toList (lineN s.data.toList (clip s.data.toList p))).1) := rfl
  rw [hsz] at hbd hcl hlen
  rw [hch]
  clear hch
  generalize clip s.data.toList p = c at *
  generalize lineN s.data.toList c = n at *
  generalize rowN s.data.toList n = r at *
  obtain ⟨f, t⟩ := r
  simp only at hbd hfr
  have HU := Lib.hid (fun w => refUnitsAt_any (s.extract f t) ((c : Int) - f) (Nat.le_trans (ext_le _ _ _) hs) w)
  rw [ext_piece] at HU
  simp only
  generalize unitsAt (piece s.data.toList (f, t)) ((c : Int) - f) = q at *
  clear hsz
  obtain rfl : c = s.size := by omega
  clear hmm
  generalize rows s.data.toList 0 = rs at *
  have HN := Lib.hid hln
  clear hln
  go_enter Try.func18, Try.ntmps18
  go_wp2_with fail
  refine (HP.out _).mono ?_
  rintro e w1 ⟨v, rfl, hown, hb⟩
  obtain ⟨A, cap, rfl, hrd⟩ := rreads_of hown
  obtain ⟨g, rfl, hc⟩ := hrd (by omega)
  have HB := Lib.hid hb
  have HC := Lib.hid hc
  clear hb hown hrd hc
  go_wp2_with fail
  go_loopw [6, 7] (fun u x wr => ∃ k : Nat, k ≤ rs.length ∧ u = .int .i64 (lastL n k : Int) ∧ x = .int .i64 (k : Int) ∧ wr = w1) (fun u x _ => rs.length - (intOf x).toNat)
  case atStart => exact ⟨0, by omega, by simp [lastL], by go_num, rfl⟩
  case round =>
    obtain ⟨k, hk, rfl, rfl, rfl⟩ := hrel
    by_cases hlt2 : k < rs.length
    · have hrk := List.getElem?_eq_getElem hlt2
      obtain ⟨y, hy⟩ : ∃ y, rs[k] = y := ⟨_, rfl⟩
      rw [hy] at hrk
      have c0 := (HC.out k _ hrk).1
      have hh := HHit.out k y hrk
      by_cases hle : y.1 ≤ s.size
      · have HL := Lib.hid (hh.1 hle)
        have dl : decide ((y.1 : Int) ≤ (s.size : Int)) = true := by simp; omega
        clear hh hy hrk
        go_wp2_with fail
        go_roundw
        case rel => exact ⟨k + 1, by omega, by rw [HL.out], by go_num, by first | rfl | trivial⟩
        case measure => simp [intOf]; omega
      · have HL := Lib.hid (hh.2 hle)
        have dl : decide ((y.1 : Int) ≤ (s.size : Int)) = false := by simp; omega
        clear hh hy hrk
        go_wp2_with fail
        go_roundw
        case rel => exact ⟨k + 1, by omega, by rw [HL.out], by go_num, by first | rfl | trivial⟩
        case measure => simp [intOf]; omega
    · obtain rfl : k = rs.length := by omega
      have HE := HEnd
      rw [HE.out]
      have c0 := (HC.out n _ HN.out).1
      have c1 := (HC.out n _ HN.out).2
      simp only at c0 c1
      go_wp2_with fail
      have b0 := alloc_below w (.cells #[.int .i64 0, .int .i64 0] 33)
      have b1 := alloc_below wr (.cells #[.int .i64 (f : Int), .int .i64 (t : Int)] 30)
      have HB1 := Lib.hid ((b0.trans (HB.out.mono b0.size)).trans (b1.mono (Nat.le_trans b0.size HB.out.size)))
      have HR0 := Lib.hid (heap_keep b1 (heap_keep HB.out (alloc_top w #[.int .i64 0, .int .i64 0] 33)))
      have hne : w.heap.size ≠ wr.heap.size := by have := HB.out.size; rw [World.size_alloc] at this; omega
      have HNE := Lib.hid hne
      have k2 := alloc_top wr #[.int .i64 (f : Int), .int .i64 (t : Int)] 30
      have HS0 : Hid ((wr.alloc (.cells #[.int .i64 (f : Int), .int .i64 (t : Int)] 30)).cell? ⟨wr.heap.size, 0, none⟩ = some (.int .i64 (f : Int)) ∧ (wr.alloc (.cells #[.int .i64 (f : Int), .int .i64 (t : Int)] 30)).cell? ⟨wr.heap.size, 1, none⟩ = some (.int .i64 (t : Int))) := Lib.hid ⟨(cell_at (i := 0) k2).trans rfl, (cell_at (i := 1) k2).trans rfl⟩
      have hsl : ∀ W, (Instr.slice 9 (.string s) (some (.int .i64 (f : Int))) (some (.int .i64 (t : Int))) none).run Try.prog W = .ok (.string (s.extract f t)) W := fun W => by
        rw [run_slice_string W 9 s .i64 .i64 f t Try.underlying9 (by omega) (by omega) (by omega), Int.toNat_natCast, Int.toNat_natCast]
      have hwr : IntKind.i64.wrap ((s.size : Int) - (f : Int)) = (s.size : Int) - (f : Int) := IntWalk.i64_in _ (by omega)
      clear k2 HB b0 b1 hne c0 c1 HE HHit HC HEnd HP HN
      go_region_held3 (fun w' => w'.cell? ⟨wr.heap.size, 0, none⟩ = some (.int .i64 (f : Int)) ∧ w'.cell? ⟨wr.heap.size, 1, none⟩ = some (.int .i64 (t : Int))) (first | exact HS0.out | exact two_keep HS0.out kq | exact two_set HNE.out (two_keep HS0.out kq)) (first | (go_at_call 36; refine (HU.out _).mono ?_; rintro e wq ⟨rfl, kq⟩; have hqr := heap_keep (below_drew kq) HR0.out; have hq0 := cell_at (i := 0) hqr; have hq1 := cell_at (i := 1) hqr; have hq2 := frozen_of_row wq w.heap.size 0 _ _ hqr; have hq3 := frozen_of_row wq w.heap.size 1 _ _ hqr))
      have HB2 := Lib.hid (((HB1.out.trans ((below_drew kq).mono HB1.out.size)).setCell (p := ⟨w.heap.size, 0, none⟩) (Nat.le_refl _) (.int .i64 n)).setCell (p := ⟨w.heap.size, 1, none⟩) (Nat.le_refl _) (.int .i64 q))
      have hz := setCell2_heap (x := .int .i64 n) (y := .int .i64 q) (heap_keep (below_drew kq) HR0.out)
      have g0 := cell_at (i := 0) hz
      have g1 := cell_at (i := 1) hz
      clear HS0 hq0 hq1 hq2 hq3 hqr
      go_wp2_with fail
      refine bodyPost_ret (v := .agg #[.int .i64 n, .int .i64 q]) ?_ rfl ⟨rfl, HB2.out⟩
      simp [results, Try.f18, go_sem, g0, g1]
set_option maxRecDepth 100000 in
set_option maxHeartbeats 4000000 in
theorem refAt_mid (s : ByteArray) (hs : s.size ≤ 1000000) (p : Int) (hA : ¬ p < 0) (hB : ¬ (s.size : Int) < p) (w : World) : Calls Try.prog 18 #[.string s, .int .i64 p] w fun e w' =>
    e = .returned (.agg #[.int .i64 (lineN s.data.toList (clip s.data.toList p) : Int), .int .i64 (charP s.data.toList (clip s.data.toList p) : Int)]) ∧ Below w.heap.size w w' := by
  have hcl := clip_le s.data.toList p
  have hsz : s.data.toList.length = s.size := rfl
  have hmm : min (max p 0) (s.size : Int) = (clip s.data.toList p : Int) := by unfold clip; rw [hsz]; omega
  have HP := Lib.hid (fun w => refLines_any s hs w)
  unfold LinesEnd at HP
  have hlt := lineN_lt s.data.toList (clip s.data.toList p)
  have hln := lineN_some s.data.toList (clip s.data.toList p)
  have hbd := rows_bound _ _ _ _ hln
  have hfr := lineN_from s.data.toList (clip s.data.toList p)
  have hlen := rows_len s.data.toList 0
  have HHit := Lib.hid (fun (i : Nat) (r : Nat × Nat) (h : (rows s.data.toList 0)[i]? = some r) => And.intro (lastL_hit (p := clip s.data.toList p) h) (lastL_miss (p := clip s.data.toList p) h))
  have HEnd := Lib.hid (lastL_end s.data.toList (clip s.data.toList p))
  have hch : charP s.data.toList (clip s.data.toList p) = unitsAt (piece s.data.toList (rowN s.data.toList (lineN s.data.toList (clip s.data.toList p)))) ((clip s.data.toList p : Int) - (rowN s.data.toList (lineN s.data.toList (clip s.data.toList p))).1) := rfl
  rw [hsz] at hbd hcl hlen
  rw [hch]
  clear hch
  generalize clip s.data.toList p = c at *
  generalize lineN s.data.toList c = n at *
  generalize rowN s.data.toList n = r at *
  obtain ⟨f, t⟩ := r
  simp only at hbd hfr
  have HU := Lib.hid (fun w => refUnitsAt_any (s.extract f t) ((c : Int) - f) (Nat.le_trans (ext_le _ _ _) hs) w)
  rw [ext_piece] at HU
  simp only
  generalize unitsAt (piece s.data.toList (f, t)) ((c : Int) - f) = q at *
  clear hsz
  obtain rfl : p = (c : Int) := by omega
  clear hmm
  generalize rows s.data.toList 0 = rs at *
  have HN := Lib.hid hln
  clear hln
  go_enter Try.func18, Try.ntmps18
  go_wp2_with fail
  refine (HP.out _).mono ?_
  rintro e w1 ⟨v, rfl, hown, hb⟩
  obtain ⟨A, cap, rfl, hrd⟩ := rreads_of hown
  obtain ⟨g, rfl, hc⟩ := hrd (by omega)
  have HB := Lib.hid hb
  have HC := Lib.hid hc
  clear hb hown hrd hc
  go_wp2_with fail
  go_loopw [6, 7] (fun u x wr => ∃ k : Nat, k ≤ rs.length ∧ u = .int .i64 (lastL n k : Int) ∧ x = .int .i64 (k : Int) ∧ wr = w1) (fun u x _ => rs.length - (intOf x).toNat)
  case atStart => exact ⟨0, by omega, by simp [lastL], by go_num, rfl⟩
  case round =>
    obtain ⟨k, hk, rfl, rfl, rfl⟩ := hrel
    by_cases hlt2 : k < rs.length
    · have hrk := List.getElem?_eq_getElem hlt2
      obtain ⟨y, hy⟩ : ∃ y, rs[k] = y := ⟨_, rfl⟩
      rw [hy] at hrk
      have c0 := (HC.out k _ hrk).1
      have hh := HHit.out k y hrk
      by_cases hle : y.1 ≤ c
      · have HL := Lib.hid (hh.1 hle)
        have dl : decide ((y.1 : Int) ≤ (c : Int)) = true := by simp; omega
        clear hh hy hrk
        go_wp2_with fail
        go_roundw
        case rel => exact ⟨k + 1, by omega, by rw [HL.out], by go_num, by first | rfl | trivial⟩
        case measure => simp [intOf]; omega
      · have HL := Lib.hid (hh.2 hle)
        have dl : decide ((y.1 : Int) ≤ (c : Int)) = false := by simp; omega
        clear hh hy hrk
        go_wp2_with fail
        go_roundw
        case rel => exact ⟨k + 1, by omega, by rw [HL.out], by go_num, by first | rfl | trivial⟩
        case measure => simp [intOf]; omega
    · obtain rfl : k = rs.length := by omega
      have HE := HEnd
      rw [HE.out]
      have c0 := (HC.out n _ HN.out).1
      have c1 := (HC.out n _ HN.out).2
      simp only at c0 c1
      go_wp2_with fail
      have b0 := alloc_below w (.cells #[.int .i64 0, .int .i64 0] 33)
      have b1 := alloc_below wr (.cells #[.int .i64 (f : Int), .int .i64 (t : Int)] 30)
      have HB1 := Lib.hid ((b0.trans (HB.out.mono b0.size)).trans (b1.mono (Nat.le_trans b0.size HB.out.size)))
      have HR0 := Lib.hid (heap_keep b1 (heap_keep HB.out (alloc_top w #[.int .i64 0, .int .i64 0] 33)))
      have hne : w.heap.size ≠ wr.heap.size := by have := HB.out.size; rw [World.size_alloc] at this; omega
      have HNE := Lib.hid hne
      have k2 := alloc_top wr #[.int .i64 (f : Int), .int .i64 (t : Int)] 30
      have HS0 : Hid ((wr.alloc (.cells #[.int .i64 (f : Int), .int .i64 (t : Int)] 30)).cell? ⟨wr.heap.size, 0, none⟩ = some (.int .i64 (f : Int)) ∧ (wr.alloc (.cells #[.int .i64 (f : Int), .int .i64 (t : Int)] 30)).cell? ⟨wr.heap.size, 1, none⟩ = some (.int .i64 (t : Int))) := Lib.hid ⟨(cell_at (i := 0) k2).trans rfl, (cell_at (i := 1) k2).trans rfl⟩
      have hsl : ∀ W, (Instr.slice 9 (.string s) (some (.int .i64 (f : Int))) (some (.int .i64 (t : Int))) none).run Try.prog W = .ok (.string (s.extract f t)) W := fun W => by
        rw [run_slice_string W 9 s .i64 .i64 f t Try.underlying9 (by omega) (by omega) (by omega), Int.toNat_natCast, Int.toNat_natCast]
      have hwr : IntKind.i64.wrap ((c : Int) - (f : Int)) = (c : Int) - (f : Int) := IntWalk.i64_in _ (by omega)
      clear k2 HB b0 b1 hne c0 c1 HE HHit HC HEnd HP HN
      go_region_held3 (fun w' => w'.cell? ⟨wr.heap.size, 0, none⟩ = some (.int .i64 (f : Int)) ∧ w'.cell? ⟨wr.heap.size, 1, none⟩ = some (.int .i64 (t : Int))) (first | exact HS0.out | exact two_keep HS0.out kq | exact two_set HNE.out (two_keep HS0.out kq)) (first | (go_at_call 36; refine (HU.out _).mono ?_; rintro e wq ⟨rfl, kq⟩; have hqr := heap_keep (below_drew kq) HR0.out; have hq0 := cell_at (i := 0) hqr; have hq1 := cell_at (i := 1) hqr; have hq2 := frozen_of_row wq w.heap.size 0 _ _ hqr; have hq3 := frozen_of_row wq w.heap.size 1 _ _ hqr))
      have HB2 := Lib.hid (((HB1.out.trans ((below_drew kq).mono HB1.out.size)).setCell (p := ⟨w.heap.size, 0, none⟩) (Nat.le_refl _) (.int .i64 n)).setCell (p := ⟨w.heap.size, 1, none⟩) (Nat.le_refl _) (.int .i64 q))
      have hz := setCell2_heap (x := .int .i64 n) (y := .int .i64 q) (heap_keep (below_drew kq) HR0.out)
      have g0 := cell_at (i := 0) hz
      have g1 := cell_at (i := 1) hz
      clear HS0 hq0 hq1 hq2 hq3 hqr
      go_wp2_with fail
      refine bodyPost_ret (v := .agg #[.int .i64 n, .int .i64 q]) ?_ rfl ⟨rfl, HB2.out⟩
      simp [results, Try.f18, go_sem, g0, g1]
theorem refAt_any (s : ByteArray) (hs : s.size ≤ 1000000) (p : Int) (w : World) : Calls Try.prog 18 #[.string s, .int .i64 p] w fun e w' =>
    e = .returned (.agg #[.int .i64 (lineN s.data.toList (clip s.data.toList p) : Int), .int .i64 (charP s.data.toList (clip s.data.toList p) : Int)]) ∧ Below w.heap.size w w' := by
  by_cases hA : p < 0
  · exact refAt_low s hs p hA w
  · by_cases hB : (s.size : Int) < p
    · exact refAt_high s hs p hA hB w
    · exact refAt_mid s hs p hA hB w
end Go.Proofs.Ytnmbclkpncjebaa
