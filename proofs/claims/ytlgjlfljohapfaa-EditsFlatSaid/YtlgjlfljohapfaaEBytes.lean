/-
  BYTES IN MEMORY: a text copied into a row of bytes, as far as there is room; a row of bytes as a text. No condition but those that each theorem says.
-/
import Derived.Lib.BufferWrite
import Derived.Laws.BytesString
import Derived.Test.YtlgjlfljohapfaaESize
namespace Go.Proofs.Ytlgjlfljohapfaa
open Go.RowKit Go.Lib

/-- 'copy(dst, s)' of a text: as many bytes as there is room for. -/
theorem run_copy_min {P : Program} (w : World) (dT sT ty elem : TypeId) (g o dLen dCap n : Nat) (s : ByteArray) (cur : Array Value) (t : TypeId) (hn : n = Nat.min s.size dLen)
    (hu : P.underlying dT = some (.slice elem)) (hs : (P.info? elem).map (·.size) = some 1) (hg : w.heap[g]? = some (.cells cur t (0, 0))) (hfit : o + n ≤ cur.size) :
    (Builtin.copy_ #[dT, sT] ty #[.slice (some ⟨g, o, none⟩) dLen dCap, .string s]).run P w =
      .ok (goInt n) (w.setRow g (cur.toList.take o ++ byteCells (s.data.toList.take n) ++ cur.toList.drop (o + n)).toArray) := by
  have hlen : (byteCells (s.data.toList.take n)).length = n := by
    rw [byteCells_length, List.length_take]
    have h1 : n ≤ s.size := by rw [hn]; exact Nat.min_le_left _ _
    have h2 : s.data.toList.length = s.size := rfl
    omega
  have hst := run_storeCells_at P g o t (byteCells (s.data.toList.take n)) 0 cur w hg (by rw [hlen]; simpa using hfit) (byteCells_one _)
  have htk : List.take n (List.map (fun b : UInt8 => Value.int IntKind.u8 (b.toNat : Int)) s.data.toList) = byteCells (s.data.toList.take n) := by
    unfold byteCells
    rw [List.map_take]
  rw [hlen] at hst
  simp only [Nat.add_zero] at hst
  cases hq : P.info? elem with
  | none => simp [hq] at hs
  | some i =>
    simp [Builtin.copy_, run_underlying hu, Builtin.lenOf, Builtin.firstCells, sizeOf, typeInfo, hq, ← hn]
    rw [htk, hst]
    simp [Result.andThen]
theorem fold_push (l : List UInt8) : ∀ a : ByteArray, ((l.map fun c => (c.toNat : Int))).foldl (fun r n => r.push (UInt8.ofNat n.toNat)) a = ⟨a.data ++ l.toArray⟩ := by
  induction l with
  | nil => intro a; simp
  | cons x l ih =>
    intro a
    rw [List.map_cons, List.foldl_cons, ih, Int.toNat_natCast]
    simp [ByteArray.push]
theorem cells_ints (l : List UInt8) : byteCells l = (l.map fun c => (c.toNat : Int)).map (Value.int .u8) := by unfold byteCells; rw [List.map_map]; rfl
/-- A row of bytes as a text. -/
theorem str_conv {W : World} {g cap : Nat} {l : List UInt8} (hg : W.heap[g]? = some (.cells (byteCells l).toArray 5 (0, 0))) : (convert 73 9 (.slice (some ⟨g, 0, none⟩) l.length cap)).run Try.prog W = .ok (.string (textOf l)) W := by
  rw [run_convert_bytes_string W 73 9 5 _ _ _ Try.underlying73 Try.underlying5 Try.underlying9]
  rw [run_bytesToString W ⟨g, 0, none⟩ _ _ (l.map fun c => (c.toNat : Int)) (by
    rw [← cells_ints, ← byteCells_length l]
    refine run_loadCells_list W ⟨g, 0, none⟩ (byteCells l) (fun j v hj => ?_)
    rw [show (⟨g, 0, none⟩ : Addr).add j = ⟨g, 0 + j, none⟩ from by rw [Addr.add_lit], Nat.zero_add, cell_at hg]
    simpa using hj)]
  rw [fold_push]
  simp [ByteArray.empty, ByteArray.emptyWithCapacity, textOf]
  rfl
/-- What stands in a row of T bytes when some were written. -/
def bdl (T : Nat) (l : List UInt8) : List UInt8 := l.take T ++ List.replicate (T - l.length) 0
theorem bdl_len (T : Nat) (l : List UInt8) : (bdl T l).length = T := by
  unfold bdl
  rw [List.length_append, List.length_take, List.length_replicate]
  omega
theorem bdl_full (l : List UInt8) : bdl l.length l = l := by unfold bdl; simp
theorem bdl_step (T o m : Nat) (l x : List UInt8) (h1 : l.length < T → o = l.length) (hm : m = Nat.min x.length (T - l.length)) : (bdl T l).take o ++ x.take m ++ (bdl T l).drop (o + m) = bdl T (l ++ x) := by
  by_cases h : l.length < T
  · have ho := h1 h
    subst ho
    have e1 : l.take T = l := List.take_of_length_le (by omega)
    have e2 : x.take m = x.take (T - l.length) := by
      rw [hm]
      by_cases hx : x.length ≤ T - l.length
      · rw [show Nat.min x.length (T - l.length) = x.length from Nat.min_eq_left hx, List.take_of_length_le (Nat.le_refl _), List.take_of_length_le hx]
      · rw [show Nat.min x.length (T - l.length) = T - l.length from Nat.min_eq_right (by omega)]
    unfold bdl
    rw [e1, List.take_append_of_le_length (Nat.le_refl _), List.take_of_length_le (Nat.le_refl _), List.drop_append, List.drop_eq_nil_of_le (by omega), List.nil_append, List.drop_replicate, e2, List.take_append, e1, List.length_append]
    congr 2
    have hmm : m = min x.length (T - l.length) := hm
    omega
  · have e0 : T - l.length = 0 := by omega
    have hm0 : m = 0 := by
      rw [hm, e0]
      exact Nat.min_zero _
    subst hm0
    unfold bdl
    rw [e0, List.take_zero, List.append_nil, Nat.add_zero, List.take_append_drop, List.replicate_zero, List.append_nil, List.length_append, show T - (l.length + x.length) = 0 by omega, List.replicate_zero, List.append_nil, List.take_append_of_le_length (by omega)]
/-- 'x[m:]' of a slice that is as long as it may be. -/
theorem slice_from (g o R m : Nat) (h : m ≤ R) (W : World) :
    (Instr.slice 73 (.slice (some ⟨g, o, none⟩) R R) (some (.int .i64 (m : Int))) none none).run Try.prog W = .ok (.slice (some ⟨g, (if R = m then o else o + m), none⟩) (R - m) (R - m)) W := by
  have hz : ∀ W, (sizeOf 5).run Try.prog W = .ok 1 W := fun W => by kernel_rfl
  have he : Try.prog.elem 73 = 5 := by kernel_rfl
  have hu : Try.prog.underlying 73 = some (.slice (Try.prog.elem 73)) := by rw [he]; exact Try.underlying73
  rw [run_slice_l W 73 (some ⟨g, o, none⟩) R R hu .i64 (m : Int) (by omega) (by omega), he, hz]
  simp only [Result.andThen, sliced, Int.toNat_natCast, Nat.mul_one]
  by_cases hm : R = m
  · simp [hm]
  · simp [hm, Addr.add]
end Go.Proofs.Ytlgjlfljohapfaa
