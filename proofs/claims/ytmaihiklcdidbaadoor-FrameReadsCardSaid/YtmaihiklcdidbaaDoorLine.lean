/-
  frame's closures: tellAll's (is this the line's name?), lengthIn's (the length that a value tells); which of the known lines a name is. No memory that was there turns, but the length's own. Conditions: the texts' lengths; what the variables that are read hold (Facts).
-/
import Derived.Test.YtmaihiklcdidbaaDoorDel
import Derived.Test.YtmaihiklcdidbaaDoorPrint
import Derived.Shelf.SlicesQ.IndexFunc
namespace Go.Proofs.YtmaihiklcdidbaaDoor
open Go.RowKit

theorem okF_len : ∀ (j : Nat) b, (txt lenN).data.toList[j]? = some b → OkF b := by
  have h : ∀ c ∈ lenN, c.toNat < 128 ∧ foldT c.toNat < 128 ∧ foldT (foldT c.toNat) = c.toNat := by decide +kernel
  exact fun j b hb => h b (List.mem_of_getElem? hb)
theorem okF_typ : ∀ (j : Nat) b, (txt typN).data.toList[j]? = some b → OkF b := by
  have h : ∀ c ∈ typN, c.toNat < 128 ∧ foldT c.toNat < 128 ∧ foldT (foldT c.toNat) = c.toNat := by decide +kernel
  exact fun j b hb => h b (List.mem_of_getElem? hb)
/-- A known line: true: of a length. -/
def lnm (b : Bool) : List UInt8 := if b then lenN else typN
def lfn (BL : Nat) (b : Bool) : Value := if b then lenF BL else typF
theorem okF_lnm (b : Bool) : ∀ (j : Nat) c, (txt (lnm b)).data.toList[j]? = some c → OkF c := by
  cases b
  · exact okF_typ
  · exact okF_len
set_option maxRecDepth 100000 in
set_option maxHeartbeats 1000000 in
theorem isNamed_any (name : ByteArray) (hs : name.size < 4294967281) (b : Bool) (BL N : Nat) (w : World) (hN : w.cell? ⟨N, 0, none⟩ = some (.string name)) (hF : Facts w) :
    Calls Tryd.prog 53 #[.agg #[.string (txt (lnm b)), lfn BL b], .pointer (some ⟨N, 0, none⟩)] w fun e w' => e = .returned (.bool (Lib.equalFold name.data.toList (lnm b))) ∧ Below w.heap.size w w' := by
  have HC : Hid (∀ w, Facts w → Calls Tryd.prog 54 #[.string name, .string (txt (lnm b))] w fun e w' => e = .returned (.bool (Lib.equalFold name.data.toList (lnm b))) ∧ Below w.heap.size w w') := Lib.hid (fun w hF => fold_any name (txt (lnm b)) hs (okF_lnm b) w hF)
  have hx : (lfn BL b).oneCell' = true := by cases b <;> rfl
  generalize Lib.equalFold name.data.toList (lnm b) = r at *
  have HB := Lib.hid (alloc_below w (.cells #[.string (txt (lnm b)), lfn BL b] 69))
  have hN2 := cell_keep HB.out hN
  have HF := Lib.hid (hF.below HB.out)
  have hl := alloc_top w #[.string (txt (lnm b)), lfn BL b] 69
  generalize txt (lnm b) = n at *
  generalize lfn BL b = f at *
  clear hF
  go_enter Tryd.func53, Tryd.ntmps53
  go_wp2_with fail
  refine (HC.out _ HF.out).mono ?_
  rintro e w1 ⟨rfl, hb⟩
  have HB1 := Lib.hid (HB.out.trans (hb.mono HB.out.size))
  clear hb
  go_wp2_with fail
  go_ret
  exact ⟨rfl, HB1.out⟩
def line_ren : Go.Shelf.Ren := ⟨fun | 6 => 52 | n => n, fun | 0 => 0 | 3 => 3 | 4 => 4 | 22 => 70 | 23 => 69 | 25 => 89 | n => n, fun | n => n⟩
theorem line_lays : SlLaysH0.n6 Tryd.prog line_ren := {
  mixed := by kernel_rfl
  f6 := ⟨ "slices.IndexFunc[[]emend/frame.line,emend/frame.line]", by decide, Tryd.func52.trans (congrArg some (by kernel_rfl))⟩
  t0 := Tryd.underlying0
  a0 := Tryd.isAgg0
  z0 := Tryd.sizeOf0
  v0 := Tryd.zeroValue0
  t3 := Tryd.underlying3
  a3 := Tryd.isAgg3
  z3 := Tryd.sizeOf3
  v3 := Tryd.zeroValue3
  t4 := Tryd.underlying4
  a4 := Tryd.isAgg4
  z4 := Tryd.sizeOf4
  v4 := Tryd.zeroValue4
  t22 := Tryd.underlying70
  a22 := Tryd.isAgg70
  z22 := Tryd.sizeOf70
  v22 := Tryd.zeroValue70
  t25 := Tryd.underlying89
  a25 := Tryd.isAgg89
  z25 := Tryd.sizeOf89
  v25 := Tryd.zeroValue89 }
def lineE (BL : Nat) (b : Bool) : List Value := [.string (txt (lnm b)), lfn BL b]
/-- The known lines, in order. -/
def knownL : Bool → Bool → List Bool
  | true, true => [true, false]
  | false, true => [false]
  | true, false => [true]
  | false, false => []
theorem known_cells {w : World} {A BL : Nat} {kl kt : Bool} (h : w.heap[A]? = some (.cells (kCells BL kl kt) 69 (0, 0))) :
    ∀ j, j < (knownL kl kt).length → ∀ i v, (lineE BL (knownL kl kt)[j]!)[i]? = some v → w.cell? ⟨A, 0 + j * 2 + i, none⟩ = some v := by
  intro j hj i v hi
  rw [cell_at h]
  have hi2 : i < 2 := (List.getElem?_eq_some_iff.1 hi).1
  cases kl <;> cases kt
  · simp [knownL] at hj
  · obtain rfl : j = 0 := by simp [knownL] at hj; omega
    rcases (show i = 0 ∨ i = 1 by omega) with rfl | rfl <;> exact hi
  · obtain rfl : j = 0 := by simp [knownL] at hj; omega
    rcases (show i = 0 ∨ i = 1 by omega) with rfl | rfl <;> exact hi
  · rcases (show j = 0 ∨ j = 1 by simp [knownL] at hj; omega) with rfl | rfl <;> rcases (show i = 0 ∨ i = 1 by omega) with rfl | rfl <;> exact hi
/-- At which place of the known lines stands one of this name? -/
def findV (name : List UInt8) (kl kt : Bool) : Int := Lib.idxBy (fun _ y => Lib.equalFold name (lnm y)) (knownL kl kt) default
theorem find_any (name : ByteArray) (hs : name.size < 4294967281) (A BL N : Nat) (kl kt : Bool) (w : World) (hA : w.heap[A]? = some (.cells (kCells BL kl kt) 69 (0, 0))) (hN : w.cell? ⟨N, 0, none⟩ = some (.string name)) (hF : Facts w) :
    Calls Tryd.prog 52 #[.slice (some ⟨A, 0, none⟩) (kN kl kt) 2, .func (.func 53) #[] #[.pointer (some ⟨N, 0, none⟩)]] w fun e w' => e = .returned (.int .i64 (findV name.data.toList kl kt)) ∧ Below w.heap.size w w' := by
  have eg : ∀ args w, (callFunc 53 args).run Tryd.prog w = .ok (.enter 53 args) w := enters_of Tryd.func53 (by kernel_rfl) rfl
  have hk : (knownL kl kt).length = kN kl kt := by cases kl <;> cases kt <;> rfl
  have hk2 : kN kl kt ≤ 2 := by cases kl <;> cases kt <;> decide
  have h := AnyQ.slices_IndexFunc line_lays 2 Tryd.isAgg69 Tryd.sizeOf69 (lineE BL) (fun _ => rfl) (fun b => Lib.equalFold name.data.toList (lnm b)) 53 #[.pointer (some ⟨N, 0, none⟩)] eg A 0 (kN kl kt) 2 (knownL kl kt) w
    (fun W b hb => (isNamed_any name hs b BL N W (cell_keep hb hN) (hF.below hb)).mono fun e w' ⟨h1, h2⟩ => ⟨h1, hb.trans (h2.mono hb.size)⟩) (by omega) (by omega) (heap_lt hA) (known_cells hA)
  rw [← hk, List.take_length] at h
  rw [← hk]
  exact h
/-- What a line is, of those that are known. -/
theorem find_len (name : List UInt8) (kl kt : Bool) (h : Lib.equalFold name lenN = true) : findV name kl kt = if kl then 0 else -1 := by
  have h2 : Lib.equalFold name typN = false := by
    cases hx : Lib.equalFold name typN with
    | false => rfl
    | true =>
      have h3 := fold_len _ _ h
      have h4 := fold_len _ _ hx
      rw [h3] at h4
      simp [lenN, typN] at h4
  cases kl <;> cases kt <;> simp [findV, knownL, Lib.idxBy, Lib.idxByFrom, lnm, h, h2]
theorem find_typ (name : List UInt8) (kl kt : Bool) (h2 : Lib.equalFold name lenN = false) (h : Lib.equalFold name typN = true) : findV name kl kt = if kt then (if kl then 1 else 0) else -1 := by
  cases kl <;> cases kt <;> simp [findV, knownL, Lib.idxBy, Lib.idxByFrom, lnm, h, h2]
theorem find_no (name : List UInt8) (kl kt : Bool) (h2 : Lib.equalFold name lenN = false) (h : Lib.equalFold name typN = false) : findV name kl kt = -1 := by
  cases kl <;> cases kt <;> simp [findV, knownL, Lib.idxBy, Lib.idxByFrom, lnm, h, h2]
set_option maxRecDepth 100000 in
set_option maxHeartbeats 1000000 in
theorem lenTell_any (v : ByteArray) (BL : Nat) (old : Int) (w : World) (hL : w.heap[BL]? = some (.cells #[.int .i64 old] 2 (0, 0))) (hF : Facts w) :
    Calls Tryd.prog 38 #[.string v, .pointer (some ⟨BL, 0, none⟩)] w fun e w' => e = .returned (.bool (numP v.data.toList).isSome) ∧ ∃ W1, Below w.heap.size w W1 ∧ w' = W1.setCell ⟨BL, 0, none⟩ (.int .i64 (((numP v.data.toList).getD 0 : Nat) : Int)) := by
  have HC := Lib.hid (lengthOf_any v w hF)
  obtain ⟨o, ho⟩ : ∃ o, o = numP v.data.toList := ⟨_, rfl⟩
  rw [← ho] at HC ⊢
  clear ho hF
  unfold numV at HC
  generalize o.isSome = b at *
  generalize ((o.getD 0 : Nat) : Int) = n at *
  go_enter Tryd.func38, Tryd.ntmps38
  go_wp2_with fail
  refine HC.out.mono ?_
  rintro e w1 ⟨rfl, hb⟩
  have hL1 := heap_keep hb hL
  have c0 := cell_at hL1 0
  have f0 := frozen_of_row w1 BL 0 _ _ hL1
  have HB := Lib.hid hb
  clear hb hL hL1
  go_wp2_with fail
  go_ret
  exact ⟨rfl, w1, HB.out, rfl⟩
end Go.Proofs.YtmaihiklcdidbaaDoor
