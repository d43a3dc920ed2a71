/-
  emendref02's low, Point, Bytes, Encode AT EVERY INPUT that they are asked: what they return; no memory that was there turns. Condition of Bytes: the number is from 0 to 2097151.
-/
import Derived.Test.YtnmbclkpncjebaaUnits
import Derived.Laws.BytesString
import Derived.Laws.NewBlocks
namespace Go.Proofs.Ytnmbclkpncjebaa
open Go.RowKit

theorem low_any (b : Int) (h0 : 0 ≤ b) (h1 : b ≤ 255) (w : World) : Calls Try.prog 54 #[.int .u8 b] w fun e w' => e = .returned (.int .i64 (b % 64)) ∧ w = w' := by
  go_enter Try.func54, Try.ntmps54
  go_wp2
  go_ret
  exact ⟨rfl, rfl⟩
theorem point_any (n : Int) (w : World) : Calls Try.prog 55 #[.int .i64 n] w fun e w' => e = .returned (.bool (isPt n)) ∧ w = w' := by
  by_cases h0 : n < 0
  · have e : isPt n = false := by unfold isPt; rw [decide_eq_false_iff_not]; omega
    have d0 : decide (0 ≤ n) = false := by simp; omega
    rw [e]
    clear e
    go_enter Try.func55, Try.ntmps55
    go_wp2
    go_ret
    exact ⟨rfl, rfl⟩
  · by_cases h1 : 1114111 < n
    · have e : isPt n = false := by unfold isPt; rw [decide_eq_false_iff_not]; omega
      have d0 : decide (0 ≤ n) = true := by simp; omega
      have d1 : decide (n ≤ 1114111) = false := by simp; omega
      rw [e]
      clear e
      go_enter Try.func55, Try.ntmps55
      go_wp2
      go_ret
      exact ⟨rfl, rfl⟩
    · have d0 : decide (0 ≤ n) = true := by simp; omega
      have d1 : decide (n ≤ 1114111) = true := by simp; omega
      by_cases h2 : n < 55296
      · have e : isPt n = true := by unfold isPt; rw [decide_eq_true_eq]; omega
        have d2 : decide (n < 55296) = true := by simp; omega
        rw [e]
        clear e
        go_enter Try.func55, Try.ntmps55
        go_wp2
        go_ret
        exact ⟨rfl, rfl⟩
      · have d2 : decide (n < 55296) = false := by simp; omega
        by_cases h3 : 57343 < n
        · have e : isPt n = true := by unfold isPt; rw [decide_eq_true_eq]; omega
          have d3 : decide (57343 < n) = true := by simp; omega
          rw [e]
          clear e
          go_enter Try.func55, Try.ntmps55
          go_wp2
          go_ret
          exact ⟨rfl, rfl⟩
        · have e : isPt n = false := by unfold isPt; rw [decide_eq_false_iff_not]; omega
          have d3 : decide (57343 < n) = false := by simp; omega
          rw [e]
          clear e
          go_enter Try.func55, Try.ntmps55
          go_wp2
          go_ret
          exact ⟨rfl, rfl⟩
/-- A point's bytes as cells. -/
def cellsB (n : Nat) : List Value := (encN n).map fun (x : Nat) => Value.int .u8 (x : Int)
set_option maxRecDepth 100000 in
theorem bytes_any (n : Nat) (hn : n ≤ 1114111) (w : World) : Calls Try.prog 56 #[.int .i64 (n : Int)] w fun e w' =>
    e = .returned (.slice (some ⟨w.heap.size, 0, none⟩) (encN n).length (encN n).length) ∧ w.alloc (.cells (cellsB n).toArray 5) = w' := by
  by_cases h1 : n < 128
  · have e : encN n = [n] := by unfold encN; rw [if_pos h1]
    unfold cellsB
    rw [e]
    clear e
    have d : (n : Int) ≤ 127 := by omega
    go_enter Try.func56, Try.ntmps56
    go_wp2
    go_ret
    exact ⟨rfl, rfl⟩
  · have d1 : ¬ (n : Int) ≤ 127 := by omega
    by_cases h2 : n < 2048
    · have e : encN n = [192 + n / 64, 128 + n % 64] := by unfold encN; rw [if_neg h1, if_pos h2]
      unfold cellsB
      rw [e]
      clear e
      have d : (n : Int) ≤ 2047 := by omega
      go_enter Try.func56, Try.ntmps56
      go_wp2
      go_ret
      exact ⟨rfl, rfl⟩
    · have d2 : ¬ (n : Int) ≤ 2047 := by omega
      by_cases h3 : n < 65536
      · have e : encN n = [224 + n / 4096, 128 + n / 64 % 64, 128 + n % 64] := by unfold encN; rw [if_neg h1, if_neg h2, if_pos h3]
        unfold cellsB
        rw [e]
        clear e
        have d : (n : Int) ≤ 65535 := by omega
        go_enter Try.func56, Try.ntmps56
        go_wp2
        go_ret
        exact ⟨rfl, rfl⟩
      · have e : encN n = [240 + n / 262144, 128 + n / 4096 % 64, 128 + n / 64 % 64, 128 + n % 64] := by unfold encN; rw [if_neg h1, if_neg h2, if_neg h3]
        unfold cellsB
        rw [e]
        clear e
        have d3 : ¬ (n : Int) ≤ 65535 := by omega
        have d : (n : Int) ≤ 1114111 := by omega
        go_enter Try.func56, Try.ntmps56
        go_wp2
        go_ret
        exact ⟨rfl, rfl⟩
theorem fold_push (l : List Nat) : ∀ a : ByteArray, (l.map fun (x : Nat) => (x : Int)).foldl (fun r n => r.push (UInt8.ofNat n.toNat)) a = ⟨a.data ++ (l.map UInt8.ofNat).toArray⟩ := by
  induction l with
  | nil => intro a; simp
  | cons x l ih =>
    intro a
    rw [List.map_cons, List.foldl_cons, ih, Int.toNat_natCast]
    simp [ByteArray.push]
/-- The conversion of a point's bytes to a text. -/
theorem str_run (n : Nat) (W : World) (B : Nat) (k : Nat) (hk : k = (encN n).length) (hc : ∀ j v, (cellsB n)[j]? = some v → W.cell? ⟨B, j, none⟩ = some v) :
    (convert 89 9 (.slice (some ⟨B, 0, none⟩) k k)).run Try.prog W = .ok (.string ⟨(encL n).toArray⟩) W := by
  subst hk
  rw [run_convert_bytes_string W 89 9 5 _ _ _ Try.underlying89 Try.underlying5 Try.underlying9]
  have hl : cellsB n = ((encN n).map fun (x : Nat) => (x : Int)).map (Value.int .u8) := by unfold cellsB; rw [List.map_map]; rfl
  have hlen : (encN n).length = (cellsB n).length := by unfold cellsB; rw [List.length_map]
  rw [run_bytesToString W ⟨B, 0, none⟩ _ _ ((encN n).map fun (x : Nat) => (x : Int)) (by
    rw [← hl, hlen]
    refine run_loadCells_list W ⟨B, 0, none⟩ (cellsB n) (fun j v hj => ?_)
    rw [show (⟨B, 0, none⟩ : Addr).add j = ⟨B, 0 + j, none⟩ from by rw [Addr.add_lit], Nat.zero_add]
    exact hc j v hj)]
  rw [fold_push]
  simp [encL, ByteArray.empty, ByteArray.emptyWithCapacity]
  rfl
theorem new_cells (w : World) (l : List Value) (t : TypeId) : ∀ j v, l[j]? = some v → (w.alloc (.cells l.toArray t)).cell? ⟨w.heap.size, j, none⟩ = some v := by
  intro j v h
  rw [World.cell?_alloc_at _ _ _ _ rfl]
  simpa using h
end Go.Proofs.Ytnmbclkpncjebaa
