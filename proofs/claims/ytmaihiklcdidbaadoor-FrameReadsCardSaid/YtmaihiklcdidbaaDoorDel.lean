/-
  slices.Delete AT frame's LIST OF KNOWN LINES (at most two): which are known then, in the same memory; nothing else turns. No condition.
-/
import Derived.Test.YtmaihiklcdidbaaDoorNum
import Derived.Deep.RegionLaw
import Derived.Shelf.RegionOpenPlain
import Derived.Lib.SliceRun
import Derived.Lib.Walk
namespace Go.Proofs.YtmaihiklcdidbaaDoor
open Go.RowKit

def txt (l : List UInt8) : ByteArray := ⟨l.toArray⟩
def lenV : Value := .string (txt lenN)
def typV : Value := .string (txt typN)
def lenF (BL : Nat) : Value := .func (.func 38) #[] #[.pointer (some ⟨BL, 0, none⟩)]
def typF : Value := .func (.func 40) #[] #[]
def emp : Value := .string ⟨#[]⟩
/-- The memory of the known lines: kl, kt: is a length, is a type known still? -/
def kCells (BL : Nat) : Bool → Bool → Array Value
  | true, true => #[lenV, lenF BL, typV, typF]
  | false, true => #[typV, typF, emp, .nilFunc]
  | true, false => #[lenV, lenF BL, emp, .nilFunc]
  | false, false => #[emp, .nilFunc, emp, .nilFunc]
def kN (kl kt : Bool) : Nat := kl.toNat + kt.toNat
theorem set2 {w : World} {A : Nat} {a b c d : Value} (h : w.heap[A]? = some (.cells #[a, b, c, d] 69 (0, 0))) (x y : Value) :
    (w.setCells A 0 [x, y]).heap[A]? = some (.cells #[x, y, c, d] 69 (0, 0)) ∧ (w.setCells A 2 [x, y]).heap[A]? = some (.cells #[a, b, x, y] 69 (0, 0)) := by
  constructor
  · exact heap_setCell_same _ A 1 _ _ y (heap_setCell_same w A 0 _ _ x h)
  · exact heap_setCell_same _ A 3 _ _ y (heap_setCell_same w A 2 _ _ x h)
/-- Nothing that was there has turned but blocks of a kind. -/
structure Fr (X : Nat → Prop) (w w' : World) : Prop where
  os : w'.os = w.os
  tape : w'.tape = w.tape
  output : w'.output = w.output
  size : w.heap.size ≤ w'.heap.size
  block : ∀ k, k < w.heap.size → ¬ X k → w'.heap[k]? = w.heap[k]?
theorem Fr.refl (X : Nat → Prop) (w : World) : Fr X w w := ⟨rfl, rfl, rfl, Nat.le_refl _, fun _ _ _ => rfl⟩
theorem Fr.trans {X : Nat → Prop} {a b c : World} (h : Fr X a b) (k : Fr X b c) : Fr X a c :=
  ⟨k.os.trans h.os, k.tape.trans h.tape, k.output.trans h.output, Nat.le_trans h.size k.size, fun i hi hx => (k.block i (Nat.lt_of_lt_of_le hi h.size) hx).trans (h.block i hi hx)⟩
theorem Fr.chain {X Y : Nat → Prop} {a b c : World} (h : Fr X a b) (k : Fr Y b c) (hyx : ∀ i, i < a.heap.size → Y i → X i) : Fr X a c :=
  ⟨k.os.trans h.os, k.tape.trans h.tape, k.output.trans h.output, Nat.le_trans h.size k.size, fun i hi hx => (k.block i (Nat.lt_of_lt_of_le hi h.size) (fun hy => hx (hyx i hi hy))).trans (h.block i hi hx)⟩
theorem Fr.mono {X Y : Nat → Prop} {a b : World} (h : Fr X a b) (hxy : ∀ k, k < a.heap.size → X k → Y k) : Fr Y a b :=
  ⟨h.os, h.tape, h.output, h.size, fun k hk hy => h.block k hk (fun hx => hy (hxy k hk hx))⟩
theorem Fr.of_below {X : Nat → Prop} {a b : World} (h : Below a.heap.size a b) : Fr X a b := ⟨h.os, h.tape, h.output, h.size, fun k hk _ => h.block k hk⟩
theorem Fr.to_below {X : Nat → Prop} {B : Nat} {a b : World} (h : Fr X a b) (hB : B ≤ a.heap.size) (hx : ∀ k, X k → B ≤ k) : Below B a b :=
  ⟨h.os, h.tape, h.output, h.size, fun k hk => h.block k (by omega) (fun hh => by have := hx k hh; omega)⟩
theorem Fr.setCell {X : Nat → Prop} {a b : World} (h : Fr X a b) {R i : Nat} (hR : X R ∨ a.heap.size ≤ R) (v : Value) : Fr X a (b.setCell ⟨R, i, none⟩ v) := by
  have hs : (b.setCell ⟨R, i, none⟩ v).heap.size = b.heap.size := World.size_setCell ..
  refine ⟨h.os, h.tape, h.output, by rw [hs]; exact h.size, fun k hk hx => ?_⟩
  have hne : R ≠ k := by
    rintro rfl
    rcases hR with hR | hR
    · exact hx hR
    · omega
  rw [heap_setCell_other b ⟨R, i, none⟩ k v (Ne.symm hne)]
  exact h.block k hk hx
theorem Fr.alloc {X : Nat → Prop} {a b : World} (h : Fr X a b) (o : Obj) : Fr X a (b.alloc o) :=
  h.trans (Fr.of_below (alloc_below b o))
theorem Fr.keep {X : Nat → Prop} {a b : World} (h : Fr X a b) {k : Nat} {o : Obj} (hk : a.heap[k]? = some o) (hx : ¬ X k) : b.heap[k]? = some o := (h.block k (heap_lt hk) hx).trans hk
theorem set2_fr {w : World} {A i : Nat} (x y : Value) : Fr (· = A) w (w.setCells A i [x, y]) :=
  ((Fr.refl (· = A) w).setCell (R := A) (i := i) (.inl rfl) x).setCell (R := A) (i := i + 1) (.inl rfl) y
theorem drew_fr {X : Nat → Prop} {w : World} : Fr X w w.drew := Fr.of_below (Below.refl _ w).drew
theorem line_info : (Tryd.prog.info? 69).map (fun i => (i.zero, i.size, i.bytes)) = some (some (.agg #[emp, .nilFunc]), 2, 24) := by kernel_rfl
theorem run_clear2 (w : World) (A o c : Nat) (ho : o = 0 ∨ o = 2) {cs : Array Value} (hs : cs.size = 4) (h : w.heap[A]? = some (.cells cs 69 (0, 0))) (ty : TypeId) :
    (Builtin.clear_ #[70] ty #[.slice (some ⟨A, o, none⟩) 1 c]).run Tryd.prog w = .ok (.tuple #[]) (w.setCells A o [emp, .nilFunc]) := by
  have hst := run_storeCells_cells (P := Tryd.prog) A o [emp, .nilFunc] 0 w (by
    intro j hj
    have hj : j < 2 := hj
    rw [cell_at h, Array.getElem?_eq_getElem (by omega)]
    rfl) (by
    intro j hj
    exact frozen_of_row w A _ cs _ h) (by
    intro v hv
    rcases List.mem_cons.1 hv with rfl | hv
    · rfl
    · rcases List.mem_singleton.1 hv with rfl
      rfl)
  simp only [Nat.add_zero] at hst
  have hz : (Builtin.zeroCells (Value.agg #[emp, .nilFunc]).cells 1).toList = [emp, .nilFunc] := by kernel_rfl
  simp [Builtin.clear_, run_underlying Tryd.underlying70, Tryd.zeroValue69, show (Builtin.zeroCells (Value.agg #[.string ⟨#[]⟩, .nilFunc]).cells 1).toList = [emp, .nilFunc] from hz, hst]

set_option maxRecDepth 100000 in
set_option maxHeartbeats 1000000 in
theorem del20 (A : Nat) (a b c d : Value) (h3 : c.oneCell' = true) (h4 : d.oneCell' = true) (w : World) (h : w.heap[A]? = some (.cells #[a, b, c, d] 69 (0, 0))) :
    Calls Tryd.prog 55 #[.slice (some ⟨A, 0, none⟩) 2 2, .int .i64 0, .int .i64 1] w fun e w' => e = .returned (.slice (some ⟨A, 0, none⟩) 1 2) ∧ w'.heap[A]? = some (.cells #[c, d, emp, .nilFunc] 69 (0, 0)) ∧ Fr (· = A) w w' := by
  obtain ⟨i0, hi0, hz0, hz1, hz2⟩ := info_parts line_info
  have hd : w.drew.heap[A]? = some (.cells #[a, b, c, d] 69 (0, 0)) := h
  have hsrc : Hid (∀ t u, ([c, d] : List Value)[t]? = some u → w.drew.cell? ((⟨A, 2, none⟩ : Addr).add t) = some u) := Lib.hid (by
    intro t u hu
    have e : (⟨A, 2, none⟩ : Addr).add t = ⟨A, 2 + t, none⟩ := by rw [Addr.add_lit]
    rw [e, cell_at hd]
    match t, hu with
    | 0, hu => exact hu
    | 1, hu => exact hu
    | t + 2, hu => simp at hu)
  have hone : Hid (∀ u ∈ ([c, d] : List Value), u.oneCell' = true) := Lib.hid (by
    intro u hu
    simp at hu
    rcases hu with rfl | rfl <;> assumption)
  have hsp : Hid (∀ t, t < ([c, d] : List Value).length → (w.drew.cell? ⟨A, 0 + 0 * 2 + t, none⟩).isSome = true ∧ w.drew.frozen? ⟨A, 0 + 0 * 2 + t, none⟩ = false) := Lib.hid (by
    intro t ht
    refine ⟨?_, frozen_of_row w.drew A _ _ _ hd⟩
    have ht : t < 2 := ht
    rw [cell_at hd, Array.getElem?_eq_getElem (by simp; omega)]
    rfl)
  obtain ⟨W1, hW1⟩ : ∃ W1, W1 = w.drew.setCells A (0 + 0 * 2) [c, d] := ⟨_, rfl⟩
  have hh1 : W1.heap[A]? = some (.cells #[c, d, c, d] 69 (0, 0)) := by rw [hW1]; exact (set2 hd _ _).1
  have hb1 : Fr (· = A) w W1 := by rw [hW1]; exact drew_fr.trans (set2_fr _ _)
  have hcl := fun ty => run_clear2 W1 A 2 1 (by decide) rfl hh1 ty
  have H2 := Lib.hid (set2 hh1 emp .nilFunc)
  have HB := Lib.hid (hb1.trans (set2_fr (i := 2) emp .nilFunc))
  have hW : Hid (W1 = w.drew.setCells A (0 + 0 * 2) [c, d]) := Lib.hid hW1
  have mixed : Tryd.prog.follows .mixedOrders = true := by kernel_rfl
  clear hW1 hh1 hb1 h hd h3 h4
  go_enter Tryd.func55, Tryd.ntmps55
  go_wp2_with fail
  go_region_law_o (refine step_append_room rfl (.tmp 22) (.tmp 25) 70 rfl 69 i0 2 Tryd.underlying70 hi0 hz1 A 0 0 2 (by simp [Act.eval, Act.put]) ⟨A, 2, none⟩ 1 1 [c, d] (by simp [Act.eval, Act.put]) rfl hsrc.out hone.out (by omega) hsp.out ?_; rw [← hW.out])
  go_wp2
  go_ret
  exact ⟨rfl, H2.out.2, HB.out⟩

set_option maxRecDepth 100000 in
set_option maxHeartbeats 1000000 in
theorem del21 (A : Nat) (a b c d : Value) (w : World) (h : w.heap[A]? = some (.cells #[a, b, c, d] 69 (0, 0))) :
    Calls Tryd.prog 55 #[.slice (some ⟨A, 0, none⟩) 2 2, .int .i64 1, .int .i64 2] w fun e w' => e = .returned (.slice (some ⟨A, 0, none⟩) 1 2) ∧ w'.heap[A]? = some (.cells #[a, b, emp, .nilFunc] 69 (0, 0)) ∧ Fr (· = A) w w' := by
  obtain ⟨i0, hi0, hz0, hz1, hz2⟩ := info_parts line_info
  have hd : w.drew.heap[A]? = some (.cells #[a, b, c, d] 69 (0, 0)) := h
  have hsrc : Hid (∀ t u, ([] : List Value)[t]? = some u → w.drew.cell? ((⟨A, 0, none⟩ : Addr).add t) = some u) := Lib.hid (by
    intro t u hu
    have e : (⟨A, 0, none⟩ : Addr).add t = ⟨A, 0 + t, none⟩ := by rw [Addr.add_lit]
    rw [e, cell_at hd]
    match t, hu with
    | 0, hu => simp at hu
    | 1, hu => simp at hu
    | t + 2, hu => simp at hu)
  have hone : Hid (∀ u ∈ ([] : List Value), u.oneCell' = true) := Lib.hid (by
    intro u hu
    simp at hu
    )
  have hsp : Hid (∀ t, t < ([] : List Value).length → (w.drew.cell? ⟨A, 0 + 1 * 2 + t, none⟩).isSome = true ∧ w.drew.frozen? ⟨A, 0 + 1 * 2 + t, none⟩ = false) := Lib.hid (by
    intro t ht
    refine ⟨?_, frozen_of_row w.drew A _ _ _ hd⟩
    have ht : t < 0 := ht
    rw [cell_at hd, Array.getElem?_eq_getElem (by simp; omega)]
    rfl)
  obtain ⟨W1, hW1⟩ : ∃ W1, W1 = w.drew.setCells A (0 + 1 * 2) [] := ⟨_, rfl⟩
  have hh1 : W1.heap[A]? = some (.cells #[a, b, c, d] 69 (0, 0)) := by rw [hW1]; exact hd
  have hb1 : Fr (· = A) w W1 := by rw [hW1]; exact drew_fr
  have hcl := fun ty => run_clear2 W1 A 2 1 (by decide) rfl hh1 ty
  have H2 := Lib.hid (set2 hh1 emp .nilFunc)
  have HB := Lib.hid (hb1.trans (set2_fr (i := 2) emp .nilFunc))
  have hW : Hid (W1 = w.drew.setCells A (0 + 1 * 2) []) := Lib.hid hW1
  have mixed : Tryd.prog.follows .mixedOrders = true := by kernel_rfl
  clear hW1 hh1 hb1 h hd
  go_enter Tryd.func55, Tryd.ntmps55
  go_wp2_with fail
  go_region_law_o (refine step_append_room rfl (.tmp 22) (.tmp 25) 70 rfl 69 i0 2 Tryd.underlying70 hi0 hz1 A 0 1 2 (by simp [Act.eval, Act.put]) ⟨A, 0, none⟩ 0 0 [] (by simp [Act.eval, Act.put]) rfl hsrc.out hone.out (by omega) hsp.out ?_; rw [← hW.out])
  go_wp2
  go_ret
  exact ⟨rfl, H2.out.2, HB.out⟩

set_option maxRecDepth 100000 in
set_option maxHeartbeats 1000000 in
theorem del10 (A : Nat) (a b c d : Value) (w : World) (h : w.heap[A]? = some (.cells #[a, b, c, d] 69 (0, 0))) :
    Calls Tryd.prog 55 #[.slice (some ⟨A, 0, none⟩) 1 2, .int .i64 0, .int .i64 1] w fun e w' => e = .returned (.slice (some ⟨A, 0, none⟩) 0 2) ∧ w'.heap[A]? = some (.cells #[emp, .nilFunc, c, d] 69 (0, 0)) ∧ Fr (· = A) w w' := by
  obtain ⟨i0, hi0, hz0, hz1, hz2⟩ := info_parts line_info
  have hd : w.drew.heap[A]? = some (.cells #[a, b, c, d] 69 (0, 0)) := h
  have hsrc : Hid (∀ t u, ([] : List Value)[t]? = some u → w.drew.cell? ((⟨A, 2, none⟩ : Addr).add t) = some u) := Lib.hid (by
    intro t u hu
    have e : (⟨A, 2, none⟩ : Addr).add t = ⟨A, 2 + t, none⟩ := by rw [Addr.add_lit]
    rw [e, cell_at hd]
    match t, hu with
    | 0, hu => simp at hu
    | 1, hu => simp at hu
    | t + 2, hu => simp at hu)
  have hone : Hid (∀ u ∈ ([] : List Value), u.oneCell' = true) := Lib.hid (by
    intro u hu
    simp at hu
    )
  have hsp : Hid (∀ t, t < ([] : List Value).length → (w.drew.cell? ⟨A, 0 + 0 * 2 + t, none⟩).isSome = true ∧ w.drew.frozen? ⟨A, 0 + 0 * 2 + t, none⟩ = false) := Lib.hid (by
    intro t ht
    refine ⟨?_, frozen_of_row w.drew A _ _ _ hd⟩
    have ht : t < 0 := ht
    rw [cell_at hd, Array.getElem?_eq_getElem (by simp; omega)]
    rfl)
  obtain ⟨W1, hW1⟩ : ∃ W1, W1 = w.drew.setCells A (0 + 0 * 2) [] := ⟨_, rfl⟩
  have hh1 : W1.heap[A]? = some (.cells #[a, b, c, d] 69 (0, 0)) := by rw [hW1]; exact hd
  have hb1 : Fr (· = A) w W1 := by rw [hW1]; exact drew_fr
  have hcl := fun ty => run_clear2 W1 A 0 2 (by decide) rfl hh1 ty
  have H2 := Lib.hid (set2 hh1 emp .nilFunc)
  have HB := Lib.hid (hb1.trans (set2_fr (i := 0) emp .nilFunc))
  have hW : Hid (W1 = w.drew.setCells A (0 + 0 * 2) []) := Lib.hid hW1
  have mixed : Tryd.prog.follows .mixedOrders = true := by kernel_rfl
  clear hW1 hh1 hb1 h hd
  go_enter Tryd.func55, Tryd.ntmps55
  go_wp2_with fail
  go_region_law_o (refine step_append_room rfl (.tmp 22) (.tmp 25) 70 rfl 69 i0 2 Tryd.underlying70 hi0 hz1 A 0 0 2 (by simp [Act.eval, Act.put]) ⟨A, 2, none⟩ 0 1 [] (by simp [Act.eval, Act.put]) rfl hsrc.out hone.out (by omega) hsp.out ?_; rw [← hW.out])
  go_wp2
  go_ret
  exact ⟨rfl, H2.out.1, HB.out⟩
end Go.Proofs.YtmaihiklcdidbaaDoor
