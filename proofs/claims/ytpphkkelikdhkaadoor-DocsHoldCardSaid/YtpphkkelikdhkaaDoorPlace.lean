/-
  lines' Line, Offset, At, Full, Cut AT EVERY TEXT of at most 1000000 bytes, every number, Pos, place, range: what they return (offW, offE; clip, lineN, charP); no memory that was there turns. Condition: the text's length.
-/
import Derived.Test.YtpphkkelikdhkaaDoorLineOf
import Derived.Deep.RegionHeld3
import Derived.IntWalk
namespace Go.Proofs.YtpphkkelikdhkaaDoor
open Go.RowKit Go.Shelf

theorem ext_piece (s : ByteArray) (f t : Nat) : (s.extract f t).data.toList = piece s.data.toList (f, t) := by
  rw [ByteArray.data_extract, Array.toList_extract, List.extract_eq_take_drop]
  rfl
theorem ext_le (s : ByteArray) (f t : Nat) : (s.extract f t).size ≤ s.size := by
  rw [ByteArray.size_extract]
  omega
theorem cell_keep {W W' : World} {a : Addr} {v : Value} (hb : Below W.heap.size W W') (h : W.cell? a = some v) : W'.cell? a = some v := (World.cell?_of_block (hb.block a.block (World.block_lt_of_cell? W a h))).trans h
theorem below_drew {W W' : World} (k : Below W.drew.heap.size W.drew W') : Below W.heap.size W W' := ⟨k.os, k.tape, k.output, k.size, k.block⟩
theorem three_keep {W W' : World} {p q r : Addr} {x y z : Value} (h : W.cell? p = some x ∧ W.cell? q = some y ∧ W.cell? r = some z) (k : Below W.drew.heap.size W.drew W') : W'.cell? p = some x ∧ W'.cell? q = some y ∧ W'.cell? r = some z :=
  ⟨cell_keep (below_drew k) h.1, cell_keep (below_drew k) h.2.1, cell_keep (below_drew k) h.2.2⟩
theorem two_keep {W W' : World} {p q : Addr} {x y : Value} (h : W.cell? p = some x ∧ W.cell? q = some y) (k : Below W.drew.heap.size W.drew W') : W'.cell? p = some x ∧ W'.cell? q = some y :=
  ⟨cell_keep (below_drew k) h.1, cell_keep (below_drew k) h.2⟩
theorem two_set {W : World} {R B : Nat} {x y a b : Value} (hne : R ≠ B) (h : W.cell? ⟨B, 0, none⟩ = some x ∧ W.cell? ⟨B, 1, none⟩ = some y) : ((W.setCell ⟨R, 0, none⟩ a).setCell ⟨R, 1, none⟩ b).cell? ⟨B, 0, none⟩ = some x ∧ ((W.setCell ⟨R, 0, none⟩ a).setCell ⟨R, 1, none⟩ b).cell? ⟨B, 1, none⟩ = some y := by
  rw [World.cell?_setCell_far _ _ _ _ hne, World.cell?_setCell_far _ _ _ _ hne, World.cell?_setCell_far _ _ _ _ hne, World.cell?_setCell_far _ _ _ _ hne]
  exact h
/-- What Offset returns: the place, the error's number. -/
def offW (l : List UInt8) (a b : Int) : Int := if a < 0 ∨ b < 0 then 0 else offP l a b
def offE (a b : Int) : Int := if a < 0 ∨ b < 0 then 2 else 0
theorem numV_nat {l : List UInt8} {a : Int} (h : ¬ a < 0) : numV l a = (rows l 0)[a.toNat]? := by unfold numV; rw [if_neg h]
set_option maxRecDepth 100000 in
set_option maxHeartbeats 2000000 in
theorem offset_any (s : ByteArray) (hs : s.size ≤ 1000000) (a b : Int) (w : World) : Calls Tryd.prog 85 #[.string s, .agg #[.int .i64 a, .int .i64 b]] w fun e w' =>
    e = .returned (.tuple #[.int .i64 (offW s.data.toList a b), .int .i64 (offE a b)]) ∧ Below w.heap.size w w' := by
  by_cases ha : a < 0
  · have e1 : offW s.data.toList a b = 0 := by unfold offW; rw [if_pos (.inl ha)]
    have e2 : offE a b = 2 := by unfold offE; rw [if_pos (.inl ha)]
    rw [e1, e2]
    have d1 : decide (a < 0) = true := decide_eq_true ha
    clear e1 e2
    go_enter Tryd.func85, Tryd.ntmps85
    go_wp2_with fail
    go_ret2
    exact ⟨rfl, by first | exact Below.refl _ _ | exact alloc_below _ _⟩
  have d1 : decide (a < 0) = false := decide_eq_false ha
  by_cases hbn : b < 0
  · have e1 : offW s.data.toList a b = 0 := by unfold offW; rw [if_pos (.inr hbn)]
    have e2 : offE a b = 2 := by unfold offE; rw [if_pos (.inr hbn)]
    rw [e1, e2]
    have d2 : decide (b < 0) = true := decide_eq_true hbn
    clear e1 e2 ha
    go_enter Tryd.func85, Tryd.ntmps85
    go_wp2_with fail
    go_ret2
    exact ⟨rfl, by first | exact Below.refl _ _ | exact alloc_below _ _⟩
  have d2 : decide (b < 0) = false := decide_eq_false hbn
  have e1 : offW s.data.toList a b = offP s.data.toList a b := by unfold offW; rw [if_neg (fun h => h.elim ha hbn)]
  have e2 : offE a b = 0 := by unfold offE; rw [if_neg (fun h => h.elim ha hbn)]
  rw [e1, e2]
  have HC := Lib.hid (fun w => numbered_any s hs a w)
  have hnv := numV_nat (l := s.data.toList) ha
  cases hr : (rows s.data.toList 0)[a.toNat]? with
  | none =>
    rw [hnv, hr] at HC
    have HV : Hid (offP s.data.toList a b = s.size) := Lib.hid (offP_beyond (by rw [List.getElem?_eq_none_iff] at hr; omega))
    simp only [numA, numB, Option.isSome_none] at HC
    clear e1 e2 hnv hr ha hbn
    go_enter Tryd.func85, Tryd.ntmps85
    go_wp2_with fail
    refine (HC.out _).mono ?_
    rintro e w1 ⟨rfl, hb⟩
    have HB := Lib.hid hb
    clear hb
    go_wp2_with fail
    go_ret2
    exact ⟨ret_pair (by rw [HV.out]) rfl, ((alloc_below w _).trans (HB.out.mono (alloc_below w _).size)).trans ((alloc_below w1 _).mono (Nat.le_trans (alloc_below w _).size HB.out.size))⟩
  | some r =>
    rw [hnv, hr] at HC
    have hV := offP_row (l := s.data.toList) (n := a) b hr
    have hbd := rows_bound _ _ _ _ hr
    have hle := byteAt_le (piece s.data.toList r) b
    rw [piece_len hr] at hle
    have hsz : s.data.toList.length = s.size := rfl
    rw [hsz] at hbd
    obtain ⟨f, t⟩ := r
    have HBy := Lib.hid (fun w => byte_any (s.extract f t) b (Nat.le_trans (ext_le _ _ _) hs) w)
    rw [ext_piece] at HBy
    simp only [numA, numB, Option.isSome_some] at HC hbd hle
    have HV := Lib.hid hV
    generalize byteAt (piece s.data.toList (f, t)) b = q at *
    clear e1 e2 hnv hr ha hbn hV hsz
    go_enter Tryd.func85, Tryd.ntmps85
    go_wp2_with fail
    refine (HC.out _).mono ?_
    rintro e w1 ⟨rfl, hb⟩
    have HB := Lib.hid hb
    clear hb
    go_wp2_with fail
    have HB1 := Lib.hid (((alloc_below w (.cells #[.int .i64 a, .int .i64 b] 50)).trans (HB.out.mono (alloc_below w _).size)).trans ((alloc_below w1 (.cells #[.int .i64 (f : Int), .int .i64 (t : Int)] 125)).mono (Nat.le_trans (alloc_below w (.cells #[.int .i64 a, .int .i64 b] 50)).size HB.out.size)))
    have k1 := heap_keep (alloc_below w1 (.cells #[.int .i64 (f : Int), .int .i64 (t : Int)] 125)) (heap_keep HB.out (alloc_top w #[.int .i64 a, .int .i64 b] 50))
    have k2 := alloc_top w1 #[.int .i64 (f : Int), .int .i64 (t : Int)] 125
    have HS0 : Hid ((w1.alloc (.cells #[.int .i64 (f : Int), .int .i64 (t : Int)] 125)).cell? ⟨w1.heap.size, 0, none⟩ = some (.int .i64 (f : Int)) ∧ (w1.alloc (.cells #[.int .i64 (f : Int), .int .i64 (t : Int)] 125)).cell? ⟨w1.heap.size, 1, none⟩ = some (.int .i64 (t : Int)) ∧ (w1.alloc (.cells #[.int .i64 (f : Int), .int .i64 (t : Int)] 125)).cell? ⟨w.heap.size, 1, none⟩ = some (.int .i64 b)) := Lib.hid ⟨(cell_at (i := 0) k2).trans rfl, (cell_at (i := 1) k2).trans rfl, (cell_at (i := 1) k1).trans rfl⟩
    have hsl : ∀ W, (Instr.slice 9 (.string s) (some (.int .i64 (f : Int))) (some (.int .i64 (t : Int))) none).run Tryd.prog W = .ok (.string (s.extract f t)) W := fun W => by
      rw [run_slice_string W 9 s .i64 .i64 f t Tryd.underlying9 (by omega) (by omega) (by omega), Int.toNat_natCast, Int.toNat_natCast]
    clear k1 k2 HB
    go_region_held3 (fun w' => w'.cell? ⟨w1.heap.size, 0, none⟩ = some (.int .i64 (f : Int)) ∧ w'.cell? ⟨w1.heap.size, 1, none⟩ = some (.int .i64 (t : Int)) ∧ w'.cell? ⟨w.heap.size, 1, none⟩ = some (.int .i64 b)) (first | exact HS0.out | exact three_keep HS0.out kq) (first | (go_at_call 93; refine (HBy.out _).mono ?_; rintro e wq ⟨rfl, kq⟩))
    have HB2 := Lib.hid (HB1.out.trans ((below_drew kq).mono HB1.out.size))
    clear HS0 kq
    go_wp2_with fail
    go_ret2
    exact ⟨ret_pair (by rw [HV.out, IntWalk.i64_in _ (by omega)]; push_cast; rfl) rfl, HB2.out⟩
end Go.Proofs.YtpphkkelikdhkaaDoor
