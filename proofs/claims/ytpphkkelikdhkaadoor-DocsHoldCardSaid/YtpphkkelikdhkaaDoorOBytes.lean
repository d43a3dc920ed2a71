/-
  BYTES IN MEMORY: a row of bytes as a text; a row of noughts that is made. No condition but those that each theorem says.
-/
import Derived.Lib.BufferWrite
import Derived.Laws.BytesString
import Derived.OwnWalk
import Derived.Test.YtpphkkelikdhkaaDoorOKnown0
namespace Go.Proofs.YtpphkkelikdhkaaDoor
open Go.RowKit Go.Lib

theorem fold_push (l : List UInt8) : ∀ a : ByteArray, ((l.map fun c => (c.toNat : Int))).foldl (fun r n => r.push (UInt8.ofNat n.toNat)) a = ⟨a.data ++ l.toArray⟩ := by
  induction l with
  | nil => intro a; simp
  | cons x l ih =>
    intro a
    rw [List.map_cons, List.foldl_cons, ih, Int.toNat_natCast]
    simp [ByteArray.push]
theorem cells_ints (l : List UInt8) : byteCells l = (l.map fun c => (c.toNat : Int)).map (Value.int .u8) := by unfold byteCells; rw [List.map_map]; rfl
/-- A row of bytes as a text. -/
theorem str_conv {W : World} {g cap : Nat} {l : List UInt8} (hc : ∀ j v, (byteCells l)[j]? = some v → W.cell? ⟨g, j, none⟩ = some v) : (convert 48 9 (.slice (some ⟨g, 0, none⟩) l.length cap)).run Tryd.prog W = .ok (.string ⟨l.toArray⟩) W := by
  rw [run_convert_bytes_string W 48 9 5 _ _ _ Tryd.underlying48 Tryd.underlying5 Tryd.underlying9]
  rw [run_bytesToString W ⟨g, 0, none⟩ _ _ (l.map fun c => (c.toNat : Int)) (by
    rw [← cells_ints, ← byteCells_length l]
    refine run_loadCells_list W ⟨g, 0, none⟩ (byteCells l) (fun j v hj => ?_)
    rw [show (⟨g, 0, none⟩ : Addr).add j = ⟨g, 0 + j, none⟩ from by rw [Addr.add_lit], Nat.zero_add]
    exact hc j v hj)]
  rw [fold_push]
  simp [ByteArray.empty, ByteArray.emptyWithCapacity]
  rfl
theorem u8Info : (Tryd.prog.info? 5).map (fun i => (i.zero, i.size, i.bytes)) = some (some (.int .u8 0), 1, 1) := by kernel_rfl
def zrow (n : Nat) : Array Value := (byteCells (List.replicate n 0)).toArray
theorem made_zero (n : Nat) : madeCells (Value.int .u8 0).cells (n * 1) = zrow n := by
  unfold madeCells zrow byteCells
  apply Array.ext'
  simp
  apply List.ext_getElem
  · simp
  · intro i h1 h2
    simp [Value.cells, Nat.mod_one]
theorem zrow_conv (n : Nat) {W : World} {g : Nat} (h : W.heap[g]? = some (.cells (zrow n) 5 (0, 0))) : (convert 48 9 (.slice (some ⟨g, 0, none⟩) n n)).run Tryd.prog W = .ok (.string (zeroT n)) W := by
  have := str_conv (cap := n) (l := List.replicate n 0) (fun j v hj => by rw [cell_at h]; unfold zrow; simpa using hj)
  rw [List.length_replicate] at this
  exact this
theorem zrow_make (n : Nat) (h : n ≤ 200000) (W : World) : (Instr.makeSlice 48 (.int .i64 (n : Int)) (.int .i64 (n : Int))).run Tryd.prog W = .ok (.slice (some ⟨W.heap.size, 0, none⟩) n n) (W.alloc (.cells (zrow n) 5)) := by
  obtain ⟨i0, hi0, hz0, hz1, hz2⟩ := info_parts u8Info
  have h := run_make (P := Tryd.prog) W 48 5 i0 (.int .u8 0) Tryd.underlying48 hi0 hz0 .i64 .i64 (n : Int) (n : Int) (by omega) (by omega) (by rw [hz2]; omega) (by omega)
  rw [hz1, Int.toNat_natCast, made_zero] at h
  exact h
end Go.Proofs.YtpphkkelikdhkaaDoor
