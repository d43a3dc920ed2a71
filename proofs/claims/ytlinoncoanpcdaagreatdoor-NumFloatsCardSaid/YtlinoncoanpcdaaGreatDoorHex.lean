/-
  strconv.FormatUint AT BASE 16, AND num.Show, AT EVERY NUMBER: which text they return; nothing that was in memory turns. Condition: Facts (the listed variables), the number is a uint64.
-/
import Derived.Test.YtlinoncoanpcdaaGreatDoorRun
import Derived.Test.YtlinoncoanpcdaaGreatDoorLaid
import Derived.Test.YtlinoncoanpcdaaGreatDoorShelf
import Derived.WalkLawsBesides
import Derived.Outline
import Derived.LoopTactic
import Derived.Laws.BitsAllLaws
import Derived.Lib.Hide
namespace Go.Proofs.YtlinoncoanpcdaaGreatDoor
open Go.RowKit Go.Lib

/-- The text of the digits. -/
def digits36 : ByteArray := ⟨#[48, 49, 50, 51, 52, 53, 54, 55, 56, 57, 97, 98, 99, 100, 101, 102, 103, 104, 105, 106, 107, 108, 109, 110, 111, 112, 113, 114, 115, 116, 117, 118, 119, 120, 121, 122]⟩
/-- A hex digit. -/
def hexc (d : Nat) : UInt8 := digits36.data.getD d 48
/-- The k lowest hex digits of a number, the highest of them first. -/
def digs (u : Nat) : Nat → List UInt8
  | 0 => []
  | k + 1 => hexc (u / 16 ^ k % 16) :: digs u k
theorem digs_length (u : Nat) : ∀ k, (digs u k).length = k
  | 0 => rfl
  | k + 1 => by rw [digs, List.length_cons, digs_length u k]
theorem digs_pad (u m : Nat) (h : u / 16 ^ m = 0) : ∀ n, digs u (m + n) = List.replicate n 48 ++ digs u m
  | 0 => rfl
  | n + 1 => by
    have h1 : u / 16 ^ (m + n) = 0 := by rw [Nat.pow_add, ← Nat.div_div_eq_div_mul, h, Nat.zero_div]
    rw [show m + (n + 1) = (m + n) + 1 from rfl, digs, h1, digs_pad u m h n]
    rfl
/-- The block of 65 bytes, the written ones at its end. -/
def block65 (ds : List UInt8) : Array Value := (List.replicate (65 - ds.length) (Value.int .u8 0) ++ ds.map fun b => Value.int .u8 (b.toNat : Int)).toArray
theorem block65_nil : Tryz.zeroCells139 = block65 [] := by kernel_rfl
theorem block65_set (ds : List UInt8) (c : UInt8) (h : ds.length < 65) : (block65 ds).setIfInBounds (64 - ds.length) (.int .u8 (c.toNat : Int)) = block65 (c :: ds) := by
  unfold block65
  rw [List.length_cons, show 65 - ds.length = (64 - ds.length) + 1 from by omega, show 65 - (ds.length + 1) = 64 - ds.length from by omega]
  rw [List.setIfInBounds_toArray, List.replicate_succ', List.append_assoc, List.set_append_right (h := by simp)]
  simp
theorem block65_size (ds : List UInt8) (h : ds.length ≤ 65) : (block65 ds).size = 65 := by
  unfold block65
  simp
  omega
theorem block65_at (ds : List UInt8) (h : ds.length < 65) : (block65 ds)[65 - ds.length - 1]? = some (.int .u8 0) := by
  unfold block65
  rw [List.getElem?_toArray, List.getElem?_append_left (by simp; omega), List.getElem?_replicate, if_pos (by omega)]
theorem less15' (u k : Nat) (hu : u < 18446744073709551616) (h : 16 ≤ u / 16 ^ k) : k ≤ 14 := by
  rcases Nat.lt_or_ge 14 k with hk | hk
  · exfalso
    have h1 : 16 ^ 15 ≤ 16 ^ k := Nat.pow_le_pow_right (by decide) hk
    have h2 : u / 16 ^ k ≤ u / 16 ^ 15 := Nat.div_le_div_left h1 (by decide)
    have h3 : u / 16 ^ 15 < 16 := Nat.div_lt_of_lt_mul (by simpa using hu)
    omega
  · exact hk
theorem hexc_get (d : Nat) (h : d < digits36.size) : digits36[d] = hexc d := by
  have h' : d < 36 := h
  unfold hexc
  simp only [Array.getD]
  rw [dif_pos (show d < digits36.data.size from h)]
  rfl
theorem round_end (u k b : Nat) (w : World) (hb : b = u / 16 ^ k) (hk : k ≤ 14) (hlt : b % 16 < digits36.size) :
    w.alloc (Obj.cells ((block65 (digs u k)).setIfInBounds (65 - k - 1) (Value.int IntKind.u8 (digits36[b % 16].toNat : Int))) 139) = w.alloc (Obj.cells (block65 (digs u (k + 1))) 139) := by
  rw [hexc_get, hb, digs]
  have := block65_set (digs u k) (hexc (u / 16 ^ k % 16)) (by rw [digs_length]; omega)
  rw [digs_length] at this
  rw [show 65 - k - 1 = 64 - k from by omega, this]
theorem block65_last (ds : List UInt8) (_h : ds.length ≤ 65) (j : Nat) (hj : j < ds.length) : (block65 ds)[65 - ds.length + j]? = some (.int .u8 (ds[j].toNat : Int)) := by
  unfold block65
  rw [List.getElem?_toArray, List.getElem?_append_right (by simp)]
  simp [hj]
/-- The text of the block's end. -/
theorem conv_end (u k : Nat) (w : World) (hk : k ≤ 15) :
    (convert 77 9 (.slice (some ⟨w.heap.size, 64 - k, none⟩) (k + 1) (k + 1))).run Tryz.prog (w.alloc (.cells (block65 (digs u (k + 1))) 139)) = .ok (.string ⟨(digs u (k + 1)).toArray⟩) (w.alloc (.cells (block65 (digs u (k + 1))) 139)) := by
  have h := run_convert_bytes_back (P := Tryz.prog) (w.alloc (.cells (block65 (digs u (k + 1))) 139)) 77 9 5 ⟨w.heap.size, 64 - k, none⟩ (k + 1) (digs u (k + 1)) Tryz.underlying77 Tryz.underlying5 Tryz.underlying9 (fun j hj => by
    rw [Lib.add_plain]
    have hl := digs_length u (k + 1)
    have := block65_last (digs u (k + 1)) (by omega) j hj
    rw [hl, show 65 - (k + 1) + j = 64 - k + j from by omega] at this
    rw [World.cell?_alloc_at _ _ _ _ rfl]
    exact this)
  rw [digs_length] at h
  exact h
theorem conv_walk (u k b : Nat) (w : World) (hb : b = u / 16 ^ k) (hlt : b < 16) (hk : k ≤ 15) (hs : b < (⟨#[48, 49, 50, 51, 52, 53, 54, 55, 56, 57, 97, 98, 99, 100, 101, 102, 103, 104, 105, 106, 107, 108, 109, 110, 111, 112, 113, 114, 115, 116, 117, 118, 119, 120, 121, 122]⟩ : ByteArray).size) :
    (convert 77 9 (.slice (some ⟨w.heap.size, 64 - k, none⟩) (k + 1) (k + 1))).run Tryz.prog (w.alloc (.cells ((block65 (digs u k)).setIfInBounds (65 - k - 1) (.int .u8 ((⟨#[48, 49, 50, 51, 52, 53, 54, 55, 56, 57, 97, 98, 99, 100, 101, 102, 103, 104, 105, 106, 107, 108, 109, 110, 111, 112, 113, 114, 115, 116, 117, 118, 119, 120, 121, 122]⟩ : ByteArray)[b].toNat : Int))) 139)) =
      .ok (.string ⟨(digs u (k + 1)).toArray⟩) (w.alloc (.cells (block65 (digs u (k + 1))) 139)) := by
  have e : w.alloc (.cells ((block65 (digs u k)).setIfInBounds (65 - k - 1) (.int .u8 ((⟨#[48, 49, 50, 51, 52, 53, 54, 55, 56, 57, 97, 98, 99, 100, 101, 102, 103, 104, 105, 106, 107, 108, 109, 110, 111, 112, 113, 114, 115, 116, 117, 118, 119, 120, 121, 122]⟩ : ByteArray)[b].toNat : Int))) 139) = w.alloc (.cells (block65 (digs u (k + 1))) 139) := by
    have e0 : (⟨#[48, 49, 50, 51, 52, 53, 54, 55, 56, 57, 97, 98, 99, 100, 101, 102, 103, 104, 105, 106, 107, 108, 109, 110, 111, 112, 113, 114, 115, 116, 117, 118, 119, 120, 121, 122]⟩ : ByteArray)[b] = hexc b := hexc_get b hs
    rw [e0, digs, ← hb, Nat.mod_eq_of_lt hlt]
    have := block65_set (digs u k) (hexc b) (by rw [digs_length]; omega)
    rw [digs_length] at this
    rw [show 65 - k - 1 = 64 - k from by omega, this]
  rw [e]
  exact conv_end u k w hk
theorem slice_end (k : Nat) (w : World) (hk : k ≤ 15) (W : World) : (Instr.sliceAt 139 (.pointer (some ⟨w.heap.size, 0, none⟩)) (some (.int .i64 (65 - (k : Int) - 1))) none none).run Tryz.prog W = .ok (.slice (some ⟨w.heap.size, 64 - k, none⟩) (k + 1) (k + 1)) W := by
  have hal : Tryz.prog.arrayLen 139 = 65 := by kernel_rfl
  rw [run_sliceAt_array_l W 139 ⟨w.heap.size, 0, none⟩ (by simp [Program.arrayLen, Program.elem, Tryz.underlying139]) .i64 (65 - (k : Int) - 1) (by omega) (by rw [hal]; omega)]
  have hz : (sizeOf (Tryz.prog.elem 139)).run Tryz.prog W = .ok 1 W := by kernel_rfl
  rw [hz, hal]
  have ht : (65 - (k : Int) - 1).toNat = 64 - k := by omega
  simp only [Result.andThen, slicedAt, ht]
  rw [if_neg (by omega), Lib.add_plain, show 65 - (64 - k) = k + 1 from by omega]
  simp
theorem and15 (a : Nat) (h : a < 18446744073709551616) : bits BinOp.and IntKind.u64 (a : Int) 15 = ((a % 16 : Nat) : Int) := by
  have := u64_and_nat a 15 h (by decide)
  rw [show ((15 : Nat) : Int) = 15 from rfl] at this
  rw [this, show (15 : Nat) = 2 ^ 4 - 1 from rfl, Nat.and_two_pow_sub_one_eq_mod]
theorem tz16 (w : World) (h : Facts w) : Calls Tryz.prog 141 #[.int .u64 16] w fun e w' => e = .returned (.int .i64 4) ∧ w = w' := by
  have hc : w.cell? ⟨12, 15, none⟩ = some (.int .u8 4) := h.bruijn.cell (by kernel_rfl) 15 (by decide)
  clear h
  have hix : IntKind.u64.wrap (bits BinOp.and IntKind.u64 16 (IntKind.u64.wrap (-16)) * 285870213051353865) / 288230376151711744 = 15 := by kernel_rfl
  go_enter Tryz.func141, Tryz.ntmps141
  go_wp2
  go_ret
  exact ⟨rfl, rfl⟩
theorem tz (w : World) (h : Facts w) : Calls Tryz.prog 123 #[.int .u64 16] w fun e w' => e = .returned (.int .i64 4) ∧ w = w' := by
  go_enter Tryz.func123, Tryz.ntmps123
  go_wp2_with fail
  refine (tz16 _ h).mono ?_
  rintro e w' ⟨rfl, rfl⟩
  go_wp2_with fail
  go_ret
  exact ⟨rfl, rfl⟩
/-- How the digits come: some n of them, no more than are wanted but for a lone nought. -/
def HexEnd (u : Nat) (w : World) (mk : Value → Value) (e : Ending) (w' : World) : Prop := ∃ n, 1 ≤ n ∧ n ≤ 16 ∧ u / 16 ^ n = 0 ∧ e = .returned (mk (.string ⟨(digs u n).toArray⟩)) ∧ Below w.heap.size w w'
set_option maxRecDepth 100000 in
set_option maxHeartbeats 1000000 in
theorem bits16 (u : Nat) (w : World) (h : Facts w) (hu : u < 18446744073709551616) : Calls Tryz.prog 106 #[.slice none 0 0, .int .u64 u, .int .i64 16, .bool false, .bool false] w (HexEnd u w (fun s => .tuple #[.slice none 0 0, s])) := by
  go_enter Tryz.func106, Tryz.ntmps106
  go_wp2_with fail
  refine (power16 _).mono ?_
  rintro e w' ⟨rfl, rfl⟩
  go_wp2_with fail
  refine (tz _ (h.below ((Below.refl _ _).alloc (Nat.le_refl _) _))).mono ?_
  rintro e w' ⟨rfl, rfl⟩
  go_wp2_with fail
  go_loopw [1, 13] (fun a i wr => ∃ (k b : Nat), Hid (b = u / 16 ^ k) ∧ k ≤ 15 ∧ a = .int .u64 (b : Int) ∧ i = .int .i64 (65 - k : Int) ∧ wr = w.alloc (.cells (block65 (digs u k)) 139)) (fun a _ _ => (RowKit.intOf a).toNat)
  case atStart => exact ⟨0, u, Lib.hid (by simp), by omega, rfl, rfl, by rw [block65_nil]; rfl⟩
  case round =>
    obtain ⟨k, b, hb, hk, rfl, rfl, rfl⟩ := hrel
    by_cases hlt : 16 ≤ b
    · have h1 : b < 18446744073709551616 := by rw [hb.out]; exact Nat.lt_of_le_of_lt (Nat.div_le_self _ _) hu
      have hk14 : k ≤ 14 := less15' u k hu (hb.out ▸ hlt)
      have hand := and15 b h1
      have hcell : (block65 (digs u k))[65 - k - 1]? = some (.int .u8 0) := by
        have := block65_at (digs u k) (by rw [digs_length]; omega)
        rwa [digs_length] at this
      clear h1
      go_wp2
      refine ⟨⟨k + 1, b / 16, Lib.hid ?_, by omega, by go_num, ?_, round_end u k b w hb.out hk14 _⟩, ?_⟩
      · rw [hb.out, Nat.div_div_eq_div_mul, ← Nat.pow_succ]
      · congr 1; omega
      · simp [RowKit.intOf]; omega
    · have hk15 : k ≤ 15 := hk
      have hcell : (block65 (digs u k))[65 - k - 1]? = some (.int .u8 0) := by
        have := block65_at (digs u k) (by rw [digs_length]; omega)
        rwa [digs_length] at this
      have hb16 : b < 16 := by omega
      have hsl := fun W => slice_end k w hk15 W
      have hcv := conv_walk u k b w hb.out hb16 hk15
      go_wp2
      go_ret2
      refine ⟨k + 1, by omega, by omega, ?_, rfl, (Below.refl _ _).alloc (Nat.le_refl _) _⟩
      rw [Nat.pow_succ, ← Nat.div_div_eq_div_mul, ← hb.out]
      omega
theorem format16 (u : Nat) (w : World) (h : Facts w) (hu : u < 18446744073709551616) : Calls Tryz.prog 90 #[.int .u64 u, .int .i64 16] w (HexEnd u w id) := by
  go_enter Tryz.func90, Tryz.ntmps90
  go_wp2_with fail
  refine (bits16 u _ h hu).mono ?_
  rintro e w' ⟨n, h1, h2, h3, rfl, hb⟩
  have HB := Lib.hid hb
  have H3 := Lib.hid h3
  clear hb h3
  go_wp2_with fail
  go_ret
  exact ⟨n, h1, h2, H3.out, rfl, HB.out⟩
theorem formatU16 (u : Nat) (w : World) (h : Facts w) (hu : u < 18446744073709551616) : Calls Tryz.prog 65 #[.int .u64 u, .int .i64 16] w (HexEnd u w id) := by
  go_enter Tryz.func65, Tryz.ntmps65
  go_wp2_with fail
  refine (format16 u _ h hu).mono ?_
  rintro e w' ⟨n, h1, h2, h3, rfl, hb⟩
  have HB := Lib.hid hb
  have H3 := Lib.hid h3
  clear hb h3
  go_wp2_with fail
  go_ret
  exact ⟨n, h1, h2, H3.out, rfl, HB.out⟩
theorem bits_run (b : Nat) (w : World) : (callFunc 17 #[.float .f64 b]).run Tryz.prog w = .ok (.value (.int .u64 b)) w := by kernel_rfl
theorem frombits_run (n : Int) (w : World) : (callFunc 22 #[.int .u64 n]).run Tryz.prog w = .ok (.value (.float .f64 n.toNat)) w := by kernel_rfl
/-- Is a word a not-a-number? -/
def nanB (f : Nat) : Bool := !(Ieee.double.order f f == some .eq)
theorem isNaN_any (f : Nat) (w : World) : Calls Tryz.prog 64 #[.float .f64 f] w fun e w' => e = .returned (.bool (nanB f)) ∧ w = w' := by
  go_enter Tryz.func64, Tryz.ntmps64
  go_wp2
  go_ret
  exact ⟨rfl, rfl⟩
theorem show_nan (f : Nat) (w : World) (h : nanB f = true) : Calls Tryz.prog 21 #[.float .f64 f] w fun e w' => e = .returned (.string ⟨#[55, 102, 102, 56, 48, 48, 48, 48, 48, 48, 48, 48, 48, 48, 48, 49]⟩) ∧ w = w' := by
  go_enter Tryz.func21, Tryz.ntmps21
  go_wp2_with fail
  refine (isNaN_any f _).mono ?_
  rintro e w' ⟨rfl, rfl⟩
  rw [h]
  go_wp2_with fail
  go_ret
  exact ⟨rfl, rfl⟩
theorem repeat_replicate (n : Nat) : repeatL [48] n = List.replicate n 48 := by
  induction n with
  | zero => rfl
  | succ n ih => rw [repeatL, ih]; rfl
theorem concat_end (f n : Nat) (h2 : n ≤ 16) (h3 : f / 16 ^ n = 0) (W : World) : (Op.stringOp .add ⟨(repeatL [48] (16 - n)).toArray⟩ ⟨(digs f n).toArray⟩).run Tryz.prog W = .ok (.string ⟨(digs f 16).toArray⟩) W := by
  have e : (⟨(repeatL [48] (16 - n)).toArray⟩ ++ ⟨(digs f n).toArray⟩ : ByteArray) = ⟨(digs f 16).toArray⟩ := by
    rw [show (16 : Nat) = n + (16 - n) from by omega, digs_pad f n h3 (16 - n), repeat_replicate, show n + (16 - n) - n = 16 - n from by omega]
    ext1
    simp
  have hl : (repeatL [48] (16 - n)).toArray.size + (digs f n).toArray.size ≤ 9223372036854775807 := by
    rw [repeat_replicate, List.size_toArray, List.size_toArray, List.length_replicate, digs_length]
    omega
  rw [← e]
  exact run_string_add_sum _ _ _ hl
set_option maxHeartbeats 400000 in
theorem show_num (f : Nat) (w : World) (h : Facts w) (hn : nanB f = false) (hf : f < 18446744073709551616) : Calls Tryz.prog 21 #[.float .f64 f] w fun e w' => e = .returned (.string ⟨(digs f 16).toArray⟩) ∧ Below w.heap.size w w' := by
  have HF := Lib.hid hf
  clear hf
  have hbits := fun w => bits_run f w
  go_enter Tryz.func21, Tryz.ntmps21
  go_wp2_with fail
  refine (isNaN_any f _).mono ?_
  rintro e w' ⟨rfl, rfl⟩
  rw [hn]
  go_wp2_with fail
  refine (formatU16 f _ h HF.out).mono ?_
  rintro e w1 ⟨n, h1, h2, h3, rfl, hb⟩
  have HB := Lib.hid hb
  have H3 := Lib.hid h3
  have HL := Lib.hid (digs_length f n)
  clear hb h3
  go_wp2_with fail
  have e1 : wrap64 (16 - ((digs f n).length : Int)) = ((16 - n : Nat) : Int) := by rw [HL.out, IntWalk.wrap64_in _ ⟨by omega, by omega⟩]; omega
  rw [e1]
  refine (Tryz.strings_Repeat ⟨#[48]⟩ (16 - n) _ (by omega) (by show 1 * (16 - n) ≤ _; omega)).mono ?_
  rintro e w2 ⟨rfl, hb2⟩
  have HB2 := Lib.hid hb2
  clear hb2 e1
  have hadd := fun W => concat_end f n h2 H3.out W
  go_wp2_with fail
  go_ret
  exact ⟨rfl, HB.out.trans (HB2.out.mono HB.out.size)⟩
end Go.Proofs.YtlinoncoanpcdaaGreatDoor
