/-
  emendref06.Offset AT EVERY TEXT of at most 1000000 bytes, every Pos: the place, the error's number; no memory that was there turns. Condition: the text's length.
-/
import Derived.Test.YtnmbclkpncjebaaRefPlace
namespace Go.Proofs.Ytnmbclkpncjebaa
open Go.RowKit

set_option maxRecDepth 100000 in
set_option maxHeartbeats 4000000 in
theorem refOffset_any (s : ByteArray) (hs : s.size ≤ 1000000) (a b : Int) (w : World) : Calls Try.prog 16 #[.string s, .agg #[.int .i64 a, .int .i64 b]] w fun e w' =>
    e = .returned (.tuple #[.int .i64 (offW s.data.toList a b), .int .i64 (offE a b)]) ∧ Below w.heap.size w w' := by
  by_cases ha : a < 0
  · have e1 : offW s.data.toList a b = 0 := by unfold offW; rw [if_pos (.inl ha)]
    have e2 : offE a b = 2 := by unfold offE; rw [if_pos (.inl ha)]
    rw [e1, e2]
    have d1 : decide (a < 0) = true := decide_eq_true ha
    clear e1 e2
    go_enter Try.func16, Try.ntmps16
    go_wp2_with fail
    go_ret2
    exact ⟨rfl, by first | exact Below.refl _ _ | exact alloc_below _ _⟩
  have d1 : decide (a < 0) = false := decide_eq_false ha
  by_cases hbn : b < 0
  · have e1 : offW s.data.toList a b = 0 := by unfold offW; rw [if_pos (.inr hbn)]
    have e2 : offE a b = 2 := by unfold offE; rw [if_pos (.inr hbn)]
    rw [e1, e2]
    have d2 : decide (b < 0) = true := decide_eq_true hbn
    clear e1 e2 ha
    go_enter Try.func16, Try.ntmps16
    go_wp2_with fail
    go_ret2
    exact ⟨rfl, by first | exact Below.refl _ _ | exact alloc_below _ _⟩
  have d2 : decide (b < 0) = false := decide_eq_false hbn
  have e1 : offW s.data.toList a b = offP s.data.toList a b := by unfold offW; rw [if_neg (fun h => h.elim ha hbn)]
  have e2 : offE a b = 0 := by unfold offE; rw [if_neg (fun h => h.elim ha hbn)]
  rw [e1, e2]
  obtain ⟨m, rfl⟩ := Int.eq_ofNat_of_zero_le (show 0 ≤ a by omega)
  have hlen := rows_len s.data.toList 0
  rw [show s.data.toList.length = s.size from rfl] at hlen
  have HP := Lib.hid (fun w => refLines_any s hs w)
  unfold LinesEnd at HP
  by_cases hr : (rows s.data.toList 0).length ≤ m
  · have HV : Hid (offP s.data.toList ((m : Nat) : Int) b = s.size) := Lib.hid (offP_beyond (by rw [Int.toNat_natCast]; omega))
    generalize rows s.data.toList 0 = rs at *
    clear e1 e2 ha hbn
    go_enter Try.func16, Try.ntmps16
    go_wp2_with fail
    refine (HP.out _).mono ?_
    rintro e w1 ⟨v, rfl, hown, hb⟩
    obtain ⟨A, cap, rfl, hrd⟩ := rreads_of hown
    have k := heap_keep hb (alloc_top w #[.int .i64 ((m : Nat) : Int), .int .i64 b] 33)
    have p0 := cell_at (i := 0) k
    have p1 := cell_at (i := 1) k
    have HB := Lib.hid hb
    clear hb hown hrd k
    go_wp2_with fail
    go_ret2
    exact ⟨ret_pair (by rw [HV.out]) rfl, (alloc_below w _).trans (HB.out.mono (alloc_below w _).size)⟩
  · have hrm := List.getElem?_eq_getElem (show m < (rows s.data.toList 0).length by omega)
    have hV := offP_row (l := s.data.toList) (n := ((m : Nat) : Int)) b (by rw [Int.toNat_natCast]; exact hrm)
    have hbd := rows_bound _ _ _ _ hrm
    have hle := byteAt_le (piece s.data.toList (rows s.data.toList 0)[m]) b
    rw [piece_len hrm] at hle
    rw [show s.data.toList.length = s.size from rfl] at hbd
    obtain ⟨r, hre⟩ : ∃ r, (rows s.data.toList 0)[m] = r := ⟨_, rfl⟩
    rw [hre] at hrm hV hbd hle
    clear hre
    generalize rows s.data.toList 0 = rs at *
    obtain ⟨f, t⟩ := r
    have HBy := Lib.hid (fun w => refByte_any (s.extract f t) b (Nat.le_trans (ext_le _ _ _) hs) w)
    rw [ext_piece] at HBy
    simp only at hbd hle hV
    have HV := Lib.hid hV
    have HRM := Lib.hid hrm
    generalize byteAt (piece s.data.toList (f, t)) b = q at *
    clear e1 e2 ha hbn hV hrm
    go_enter Try.func16, Try.ntmps16
    go_wp2_with fail
    refine (HP.out _).mono ?_
    rintro e w1 ⟨v, rfl, hown, hb⟩
    obtain ⟨A, cap, rfl, hrd⟩ := rreads_of hown
    obtain ⟨g, rfl, hc⟩ := hrd (by omega)
    have c0 := (hc m _ HRM.out).1
    have c1 := (hc m _ HRM.out).2
    have k := heap_keep hb (alloc_top w #[.int .i64 ((m : Nat) : Int), .int .i64 b] 33)
    have p0 := cell_at (i := 0) k
    have p1 := cell_at (i := 1) k
    have HB := Lib.hid hb
    have HK := Lib.hid k
    clear hb hown hrd hc k
    simp only at c0 c1
    go_wp2_with fail
    have b0 := alloc_below w (.cells #[.int .i64 ((m : Nat) : Int), .int .i64 b] 33)
    have b1 := alloc_below w1 (.cells #[.int .i64 (f : Int), .int .i64 (t : Int)] 30)
    have HB1 := Lib.hid ((b0.trans (HB.out.mono b0.size)).trans (b1.mono (Nat.le_trans b0.size HB.out.size)))
    have k1 := heap_keep b1 HK.out
    have k2 := alloc_top w1 #[.int .i64 (f : Int), .int .i64 (t : Int)] 30
    have HS0 : Hid ((w1.alloc (.cells #[.int .i64 (f : Int), .int .i64 (t : Int)] 30)).cell? ⟨w1.heap.size, 0, none⟩ = some (.int .i64 (f : Int)) ∧ (w1.alloc (.cells #[.int .i64 (f : Int), .int .i64 (t : Int)] 30)).cell? ⟨w1.heap.size, 1, none⟩ = some (.int .i64 (t : Int)) ∧ (w1.alloc (.cells #[.int .i64 (f : Int), .int .i64 (t : Int)] 30)).cell? ⟨w.heap.size, 1, none⟩ = some (.int .i64 b)) := Lib.hid ⟨(cell_at (i := 0) k2).trans rfl, (cell_at (i := 1) k2).trans rfl, (cell_at (i := 1) k1).trans rfl⟩
    have hsl : ∀ W, (Instr.slice 9 (.string s) (some (.int .i64 (f : Int))) (some (.int .i64 (t : Int))) none).run Try.prog W = .ok (.string (s.extract f t)) W := fun W => by
      rw [run_slice_string W 9 s .i64 .i64 f t Try.underlying9 (by omega) (by omega) (by omega), Int.toNat_natCast, Int.toNat_natCast]
    clear k1 k2 b0 b1 HB HK c0 c1 p0 p1
    go_region_held3 (fun w' => w'.cell? ⟨w1.heap.size, 0, none⟩ = some (.int .i64 (f : Int)) ∧ w'.cell? ⟨w1.heap.size, 1, none⟩ = some (.int .i64 (t : Int)) ∧ w'.cell? ⟨w.heap.size, 1, none⟩ = some (.int .i64 b)) (first | exact HS0.out | exact three_keep HS0.out kq) (first | (go_at_call 33; refine (HBy.out _).mono ?_; rintro e wq ⟨rfl, kq⟩))
    have HB2 := Lib.hid (HB1.out.trans ((below_drew kq).mono HB1.out.size))
    clear HS0 kq
    go_wp2_with fail
    go_ret2
    exact ⟨ret_pair (by rw [HV.out, IntWalk.i64_in _ (by omega)]; push_cast; rfl) rfl, HB2.out⟩
end Go.Proofs.Ytnmbclkpncjebaa
