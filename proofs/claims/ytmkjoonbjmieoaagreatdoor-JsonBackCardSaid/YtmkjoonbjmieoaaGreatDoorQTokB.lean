/-
  jtext's finders, strings.Clone, and what a token's memory holds: for tokenAt. Condition of Clone: the text's length.
  jtext's tokenAt WHERE A NUMBER STANDS: what it returns; no memory that was there turns. Conditions: the text's length; the variables that are read hold what their text lays (Facts); the finders' row lies in memory (Known).
-/
import Derived.Test.YtmkjoonbjmieoaaGreatDoorQRefPoint
import Derived.Laws.EntriesVeiled
import Derived.Deep.RegionWith
import Derived.Deep.DeepCutAuto
import Derived.IntWalk
import Derived.Deep.RegionLaw
import Derived.Deep.RegionHeld3
import Derived.Laws.NewBlocks
import Derived.Laws.ResultCell
import Derived.Laws.Rows
namespace Go.Proofs.YtmkjoonbjmieoaaGreatDoor
open Go.RowKit
/-- The finders' row in memory. -/
def findCells : Array Value := #[Value.int IntKind.i64 1, Value.func (Fn.func 97) #[] #[], Value.int IntKind.i64 2, Value.func (Fn.func 98) #[] #[], Value.int IntKind.i64 3, Value.func (Fn.func 99) #[] #[], Value.int IntKind.i64 4, Value.func (Fn.func 100) #[] #[]]
structure Known (W : World) (a : Nat) : Prop where
  c0 : W.cell? ⟨a, 0, none⟩ = some (.int .i64 1)
  c1 : W.cell? ⟨a, 1, none⟩ = some (.func (.func 97) #[] #[])
  c2 : W.cell? ⟨a, 2, none⟩ = some (.int .i64 2)
  c3 : W.cell? ⟨a, 3, none⟩ = some (.func (.func 98) #[] #[])
  c4 : W.cell? ⟨a, 4, none⟩ = some (.int .i64 3)
  c5 : W.cell? ⟨a, 5, none⟩ = some (.func (.func 99) #[] #[])
  c6 : W.cell? ⟨a, 6, none⟩ = some (.int .i64 4)
  c7 : W.cell? ⟨a, 7, none⟩ = some (.func (.func 100) #[] #[])
set_option maxRecDepth 100000 in
set_option maxHeartbeats 2000000 in
theorem finders_any (w : World) : Calls Tryz.prog 65 #[] w fun e w' => e = .returned (.slice (some ⟨w.heap.size, 0, none⟩) 4 4) ∧ Known w' w.heap.size ∧ Below w.heap.size w w' := by
  go_enter Tryz.func65, Tryz.ntmps65
  go_wp2
  go_ret
  refine ⟨rfl, ?_, (Below.refl _ _).alloc (Nat.le_refl _) _⟩
  constructor <;> (rw [World.cell?_alloc_at _ _ _ _ rfl]; rfl)
theorem heap_keep {w w' : World} {k : Nat} {o : Obj} (hb : Below w.heap.size w w') (h : w.heap[k]? = some o) : w'.heap[k]? = some o := by
  have hlt : k < w.heap.size := (Array.getElem?_eq_some_iff.1 h).1
  rw [hb.block k hlt]; exact h
theorem cell_keep2 {w w' : World} {k i : Nat} {v : Value} (hb : Below w.heap.size w w') (h : w.cell? ⟨k, i, none⟩ = some v) : w'.cell? ⟨k, i, none⟩ = some v := by
  have hlt : k < w.heap.size := by
    rcases Nat.lt_or_ge k w.heap.size with h' | h'
    · exact h'
    · simp [World.cell?, Array.getElem?_eq_none h'] at h
  rw [hb.cell (p := ⟨k, i, none⟩) hlt]; exact h
/-- A result's memory, as it is laid. -/
def Res (W : World) (N : Nat) : Prop := W.heap[N]? = some (.cells #[.int .i64 0, .string ⟨#[]⟩, .int .i64 0, .int .i64 0] 92 (0, 0))
theorem res_new (w : World) : Res (w.alloc (.cells #[.int .i64 0, .string ⟨#[]⟩, .int .i64 0, .int .i64 0] 92)) w.heap.size := by
  unfold Res World.alloc
  exact Array.getElem?_push_size
theorem res_keep {W W' : World} {N : Nat} (h : Res W N) (hb : Below W.heap.size W W') : Res W' N := heap_keep hb h
theorem held_of {W0 W : World} {c : Value} {F : Nat} (hc : W.cell? ⟨F, 0, none⟩ = some c) (h : Res W W0.heap.size) (hb : Below W0.heap.size W0 W) :
    W.cell? ⟨F, 0, none⟩ = some c ∧ W.cell? ⟨W0.heap.size, 0, none⟩ = some (.int .i64 0) ∧ W.cell? ⟨W0.heap.size, 1, none⟩ = some (.string ⟨#[]⟩) ∧ W.cell? ⟨W0.heap.size, 2, none⟩ = some (.int .i64 0) ∧ W.cell? ⟨W0.heap.size, 3, none⟩ = some (.int .i64 0) ∧ W.frozen? ⟨W0.heap.size, 0, none⟩ = false ∧ W.frozen? ⟨W0.heap.size, 1, none⟩ = false ∧ W.frozen? ⟨W0.heap.size, 2, none⟩ = false ∧ W.frozen? ⟨W0.heap.size, 3, none⟩ = false ∧ Below W0.heap.size W0 W := by
  unfold Res at h
  refine ⟨hc, ?_, ?_, ?_, ?_, ?_, ?_, ?_, ?_, hb⟩
  all_goals first | (unfold World.cell?; simp only [h]; rfl) | (unfold World.frozen?; simp only [h]; rfl)
theorem res_cells {W : World} {N : Nat} (h : Res W N) : W.cell? ⟨N, 0, none⟩ = some (.int .i64 0) ∧ W.cell? ⟨N, 1, none⟩ = some (.string ⟨#[]⟩) ∧ W.cell? ⟨N, 2, none⟩ = some (.int .i64 0) ∧ W.cell? ⟨N, 3, none⟩ = some (.int .i64 0) ∧ W.frozen? ⟨N, 0, none⟩ = false ∧ W.frozen? ⟨N, 1, none⟩ = false ∧ W.frozen? ⟨N, 2, none⟩ = false ∧ W.frozen? ⟨N, 3, none⟩ = false := by
  unfold Res at h
  refine ⟨?_, ?_, ?_, ?_, ?_, ?_, ?_, ?_⟩
  all_goals first | (unfold World.cell?; simp only [h]; rfl) | (unfold World.frozen?; simp only [h]; rfl)
theorem held_drew {W0 W W' : World} {c : Value} {F : Nat} (hc : W.cell? ⟨F, 0, none⟩ = some c) (h : Res W W0.heap.size) (hb : Below W0.heap.size W0 W) (k : Below W.drew.heap.size W.drew W') :
    W'.cell? ⟨F, 0, none⟩ = some c ∧ W'.cell? ⟨W0.heap.size, 0, none⟩ = some (.int .i64 0) ∧ W'.cell? ⟨W0.heap.size, 1, none⟩ = some (.string ⟨#[]⟩) ∧ W'.cell? ⟨W0.heap.size, 2, none⟩ = some (.int .i64 0) ∧ W'.cell? ⟨W0.heap.size, 3, none⟩ = some (.int .i64 0) ∧ W'.frozen? ⟨W0.heap.size, 0, none⟩ = false ∧ W'.frozen? ⟨W0.heap.size, 1, none⟩ = false ∧ W'.frozen? ⟨W0.heap.size, 2, none⟩ = false ∧ W'.frozen? ⟨W0.heap.size, 3, none⟩ = false ∧ Below W0.heap.size W0 W' := by
  have k2 : Below W.heap.size W W' := ⟨k.os, k.tape, k.output, k.size, k.block⟩
  exact held_of (cell_keep2 k2 hc) (res_keep h k2) (hb.trans (k2.mono hb.size))
theorem cell_set4 (W : World) (N F : Nat) (hF : N ≠ F) (a b c d : Value) (x : Value) (h : W.cell? ⟨F, 0, none⟩ = some x) : ((((W.setCell ⟨N, 0, none⟩ a).setCell ⟨N, 1, none⟩ b).setCell ⟨N, 2, none⟩ c).setCell ⟨N, 3, none⟩ d).cell? ⟨F, 0, none⟩ = some x := by
  rw [World.cell?_setCell_far _ _ _ _ hF, World.cell?_setCell_far _ _ _ _ hF, World.cell?_setCell_far _ _ _ _ hF, World.cell?_setCell_far _ _ _ _ hF]
  exact h
theorem res_drew {W W' : World} {N : Nat} (h : Res W N) (k : Below W.drew.heap.size W.drew W') : Res W' N := res_keep h ⟨k.os, k.tape, k.output, k.size, k.block⟩
def set4 (W : World) (N : Nat) (a b c d : Value) : World := (((W.setCell ⟨N, 0, none⟩ a).setCell ⟨N, 1, none⟩ b).setCell ⟨N, 2, none⟩ c).setCell ⟨N, 3, none⟩ d
theorem res_set {W : World} {N i : Nat} {cs : Array Value} (h : W.heap[N]? = some (.cells cs 92 (0, 0))) (v : Value) : (W.setCell ⟨N, i, none⟩ v).heap[N]? = some (.cells (cs.setIfInBounds i v) 92 (0, 0)) :=
  heap_setCell_same W N i cs 92 v h
theorem res_set4 {W : World} {N : Nat} (h : Res W N) (a b c d : Value) : (set4 W N a b c d).heap[N]? = some (.cells #[a, b, c, d] 92 (0, 0)) :=
  res_set (res_set (res_set (res_set h a) b) c) d
theorem tok_ret {w wq : World} (hres : Res wq w.heap.size) (hb : Below w.heap.size w wq) (tmps : Array Value) (h6 : tmps.getD 6 undef = .pointer (some ⟨w.heap.size, 0, none⟩)) (q : Bool) (h7 : tmps.getD 7 undef = .bool q) (a b c d a' b' c' d' : Value) (e1 : a = a') (e2 : b = b') (e3 : c = c') (e4 : d = d') :
    bodyPost Tryz.prog Tryz.f67 (fun e w' => e = .returned (.tuple #[.agg #[a', b', c', d'], .bool q]) ∧ Below w.heap.size w w') Exit.ret ⟨tmps, []⟩ (set4 wq w.heap.size a b c d) := by
  subst e1 e2 e3 e4
  refine bodyPost_ret (v := .tuple #[.agg #[a, b, c, d], .bool q]) ?_ rfl ⟨rfl, ?_⟩
  · rw [results_cell_tmp (p := 6) (u := 7) (ty := 92) rfl, h6, h7]
    have hl := run_loadVar_row (P := Tryz.prog) (set4 wq w.heap.size a b c d) w.heap.size 92 92 #[a, b, c, d] (0, 0) _ (res_set4 hres a b c d) Tryz.underlying92 rfl (by kernel_rfl)
    simp [asAddr, Result.andThen, hl]
  · exact (((hb.setCell (Nat.le_refl _) _).setCell (Nat.le_refl _) _).setCell (Nat.le_refl _) _).setCell (Nat.le_refl _) _
theorem strV_some (k : Nat) (x : List UInt8) (n : Nat) : strV k (some (x, n)) = .tuple #[.string ⟨x.toArray⟩, .int .i64 ((k + n : Nat) : Int)] := rfl
theorem clone_any (s : ByteArray) (hs : s.size ≤ 281474976710656) (w : World) : Calls Tryz.prog 76 #[.string s] w fun e w' => e = .returned (.string s) ∧ Below w.heap.size w w' := by
  have HC := Lib.hid (Tryz.stringslite_Clone s w hs)
  clear hs
  go_enter Tryz.func76, Tryz.ntmps76
  go_wp2_with fail
  refine HC.out.mono ?_
  rintro e w1 ⟨rfl, hb⟩
  have HB := Lib.hid hb
  clear hb
  go_wp2_with fail
  go_ret
  exact ⟨rfl, HB.out⟩
end Go.Proofs.YtmkjoonbjmieoaaGreatDoor
namespace Go.Proofs.YtmkjoonbjmieoaaGreatDoor
open Go.RowKit

set_option maxRecDepth 100000 in
set_option maxHeartbeats 4000000 in
theorem tokenAt_num (s : ByteArray) (k : Nat) (hs : s.size ≤ 1000000) (hk : k < s.size) (z0 : markLen (rest s k) = 0) (z1 : wordLen (rest s k) = 0) (n : Nat) (hn : numLen (rest s k) = n) (hn0 : n ≠ 0) (a : Nat) (w : World) (hF : Facts w) (hK : Known w a) : Calls Tryz.prog 67 #[.slice (some ⟨a, 0, none⟩) 4 4, .string s, .int .i64 k] w fun e w' => e = .returned (.tuple #[.agg #[.int .i64 3, .string (s.extract k (k + n)), .int .i64 k, .int .i64 ((k + n : Nat) : Int)], .bool true]) ∧ Below w.heap.size w w' := by
  obtain ⟨c0, c1, c2, c3, c4, c5, c6, c7⟩ := hK
  have H0 := Lib.hid (fun w => findMark_any s k hs w)
  rw [z0, found_no] at H0
  have H1 := Lib.hid (fun w => findWord_any s k (by omega) hs w)
  rw [z1, found_no] at H1
  have H2 := Lib.hid (fun w => findNumber_any s k (by omega) hs w)
  rw [hn, found_yes s k n hn0] at H2
  have HN := Lib.hid (fun w => clone_any (s.extract k (k + n)) (by rw [ByteArray.size_extract]; omega) w)
  have HF := Lib.hid hF
  have hlt : (k : Int) < ((k + n : Nat) : Int) := by omega
  have hto := (⟨((k + n : Nat) : Int), rfl⟩ : ∃ z : Int, z = ((k + n : Nat) : Int))
  obtain ⟨z, hz⟩ := hto
  rw [← hz] at hlt H2 ⊢
  clear hn hF hz z0 z1
  go_enter Tryz.func67, Tryz.ntmps67
  go_wp2_with fail
  have b0 : Below w.heap.size w (w.alloc (.cells #[.int .i64 0, .string ⟨#[]⟩, .int .i64 0, .int .i64 0] 92)) := (Below.refl _ _).alloc (Nat.le_refl _) _
  have r0 := res_new w
  have n0 : w.heap.size < (w.alloc (.cells #[.int .i64 0, .string ⟨#[]⟩, .int .i64 0, .int .i64 0] 92)).heap.size := by rw [World.size_alloc]; omega
  have k0 : Below w.heap.size w (w.alloc (.cells #[.int .i64 0, .string ⟨#[]⟩, .int .i64 0, .int .i64 0] 92)) := b0
  replace c0 := cell_keep2 (w := w) (w' := (w.alloc (.cells #[.int .i64 0, .string ⟨#[]⟩, .int .i64 0, .int .i64 0] 92))) k0 c0
  replace c1 := cell_keep2 (w := w) (w' := (w.alloc (.cells #[.int .i64 0, .string ⟨#[]⟩, .int .i64 0, .int .i64 0] 92))) k0 c1
  replace c2 := cell_keep2 (w := w) (w' := (w.alloc (.cells #[.int .i64 0, .string ⟨#[]⟩, .int .i64 0, .int .i64 0] 92))) k0 c2
  replace c3 := cell_keep2 (w := w) (w' := (w.alloc (.cells #[.int .i64 0, .string ⟨#[]⟩, .int .i64 0, .int .i64 0] 92))) k0 c3
  replace c4 := cell_keep2 (w := w) (w' := (w.alloc (.cells #[.int .i64 0, .string ⟨#[]⟩, .int .i64 0, .int .i64 0] 92))) k0 c4
  replace c5 := cell_keep2 (w := w) (w' := (w.alloc (.cells #[.int .i64 0, .string ⟨#[]⟩, .int .i64 0, .int .i64 0] 92))) k0 c5
  replace c6 := cell_keep2 (w := w) (w' := (w.alloc (.cells #[.int .i64 0, .string ⟨#[]⟩, .int .i64 0, .int .i64 0] 92))) k0 c6
  replace c7 := cell_keep2 (w := w) (w' := (w.alloc (.cells #[.int .i64 0, .string ⟨#[]⟩, .int .i64 0, .int .i64 0] 92))) k0 c7
  generalize w.alloc (.cells #[.int .i64 0, .string ⟨#[]⟩, .int .i64 0, .int .i64 0] 92) = w0 at *
  clear k0
  have RN0 := Lib.hid r0
  have BN0 := Lib.hid b0
  have NN0 := Lib.hid n0
  clear r0 b0 n0
  refine wp_loop_rounds 5 ?_
  rw [rounds_succ]
  go_wp2_with fail
  have k1 : Below w0.heap.size w0 (w0.alloc (.cells #[.int .i64 1, .func (.func 97) #[] #[]] 128)) := (Below.refl _ _).alloc (Nat.le_refl _) _
  have hcf : (w0.alloc (.cells #[.int .i64 1, .func (.func 97) #[] #[]] 128)).cell? ⟨w0.heap.size, 0, none⟩ = some (.int .i64 1) := by
    rw [World.cell?_alloc_at _ _ _ _ rfl]; rfl
  have r1 := res_keep RN0.out k1
  have b1 := BN0.out.trans (k1.mono BN0.out.size)
  have n1 : w.heap.size < (w0.alloc (.cells #[.int .i64 1, .func (.func 97) #[] #[]] 128)).heap.size := Nat.lt_of_lt_of_le NN0.out k1.size
  replace c0 := cell_keep2 (w := w0) (w' := (w0.alloc (.cells #[.int .i64 1, .func (.func 97) #[] #[]] 128))) k1 c0
  replace c1 := cell_keep2 (w := w0) (w' := (w0.alloc (.cells #[.int .i64 1, .func (.func 97) #[] #[]] 128))) k1 c1
  replace c2 := cell_keep2 (w := w0) (w' := (w0.alloc (.cells #[.int .i64 1, .func (.func 97) #[] #[]] 128))) k1 c2
  replace c3 := cell_keep2 (w := w0) (w' := (w0.alloc (.cells #[.int .i64 1, .func (.func 97) #[] #[]] 128))) k1 c3
  replace c4 := cell_keep2 (w := w0) (w' := (w0.alloc (.cells #[.int .i64 1, .func (.func 97) #[] #[]] 128))) k1 c4
  replace c5 := cell_keep2 (w := w0) (w' := (w0.alloc (.cells #[.int .i64 1, .func (.func 97) #[] #[]] 128))) k1 c5
  replace c6 := cell_keep2 (w := w0) (w' := (w0.alloc (.cells #[.int .i64 1, .func (.func 97) #[] #[]] 128))) k1 c6
  replace c7 := cell_keep2 (w := w0) (w' := (w0.alloc (.cells #[.int .i64 1, .func (.func 97) #[] #[]] 128))) k1 c7
  generalize (w0.alloc (.cells #[.int .i64 1, .func (.func 97) #[] #[]] 128)) = w1 at *
  have RN1 := Lib.hid r1
  have BN1 := Lib.hid b1
  have NN1 := Lib.hid n1
  clear r1 b1 n1 k1 RN0 BN0
  clear hcf NN0
  refine (H0.out _).mono ?_
  rintro e w' ⟨rfl, rfl⟩
  go_wp2_with fail
  rw [rounds_succ]
  go_wp2_with fail
  have k2 : Below w1.heap.size w1 (w1.alloc (.cells #[.int .i64 2, .func (.func 98) #[] #[]] 128)) := (Below.refl _ _).alloc (Nat.le_refl _) _
  have hcf : (w1.alloc (.cells #[.int .i64 2, .func (.func 98) #[] #[]] 128)).cell? ⟨w1.heap.size, 0, none⟩ = some (.int .i64 2) := by
    rw [World.cell?_alloc_at _ _ _ _ rfl]; rfl
  have r2 := res_keep RN1.out k2
  have b2 := BN1.out.trans (k2.mono BN1.out.size)
  have n2 : w.heap.size < (w1.alloc (.cells #[.int .i64 2, .func (.func 98) #[] #[]] 128)).heap.size := Nat.lt_of_lt_of_le NN1.out k2.size
  replace c0 := cell_keep2 (w := w1) (w' := (w1.alloc (.cells #[.int .i64 2, .func (.func 98) #[] #[]] 128))) k2 c0
  replace c1 := cell_keep2 (w := w1) (w' := (w1.alloc (.cells #[.int .i64 2, .func (.func 98) #[] #[]] 128))) k2 c1
  replace c2 := cell_keep2 (w := w1) (w' := (w1.alloc (.cells #[.int .i64 2, .func (.func 98) #[] #[]] 128))) k2 c2
  replace c3 := cell_keep2 (w := w1) (w' := (w1.alloc (.cells #[.int .i64 2, .func (.func 98) #[] #[]] 128))) k2 c3
  replace c4 := cell_keep2 (w := w1) (w' := (w1.alloc (.cells #[.int .i64 2, .func (.func 98) #[] #[]] 128))) k2 c4
  replace c5 := cell_keep2 (w := w1) (w' := (w1.alloc (.cells #[.int .i64 2, .func (.func 98) #[] #[]] 128))) k2 c5
  replace c6 := cell_keep2 (w := w1) (w' := (w1.alloc (.cells #[.int .i64 2, .func (.func 98) #[] #[]] 128))) k2 c6
  replace c7 := cell_keep2 (w := w1) (w' := (w1.alloc (.cells #[.int .i64 2, .func (.func 98) #[] #[]] 128))) k2 c7
  generalize (w1.alloc (.cells #[.int .i64 2, .func (.func 98) #[] #[]] 128)) = w2 at *
  have RN2 := Lib.hid r2
  have BN2 := Lib.hid b2
  have NN2 := Lib.hid n2
  clear r2 b2 n2 k2 RN1 BN1
  clear hcf NN1
  refine (H1.out _).mono ?_
  rintro e w' ⟨rfl, rfl⟩
  go_wp2_with fail
  rw [rounds_succ]
  go_wp2_with fail
  have k3 : Below w2.heap.size w2 (w2.alloc (.cells #[.int .i64 3, .func (.func 99) #[] #[]] 128)) := (Below.refl _ _).alloc (Nat.le_refl _) _
  have hcf : (w2.alloc (.cells #[.int .i64 3, .func (.func 99) #[] #[]] 128)).cell? ⟨w2.heap.size, 0, none⟩ = some (.int .i64 3) := by
    rw [World.cell?_alloc_at _ _ _ _ rfl]; rfl
  have r3 := res_keep RN2.out k3
  have b3 := BN2.out.trans (k3.mono BN2.out.size)
  have n3 : w.heap.size < (w2.alloc (.cells #[.int .i64 3, .func (.func 99) #[] #[]] 128)).heap.size := Nat.lt_of_lt_of_le NN2.out k3.size
  replace c0 := cell_keep2 (w := w2) (w' := (w2.alloc (.cells #[.int .i64 3, .func (.func 99) #[] #[]] 128))) k3 c0
  replace c1 := cell_keep2 (w := w2) (w' := (w2.alloc (.cells #[.int .i64 3, .func (.func 99) #[] #[]] 128))) k3 c1
  replace c2 := cell_keep2 (w := w2) (w' := (w2.alloc (.cells #[.int .i64 3, .func (.func 99) #[] #[]] 128))) k3 c2
  replace c3 := cell_keep2 (w := w2) (w' := (w2.alloc (.cells #[.int .i64 3, .func (.func 99) #[] #[]] 128))) k3 c3
  replace c4 := cell_keep2 (w := w2) (w' := (w2.alloc (.cells #[.int .i64 3, .func (.func 99) #[] #[]] 128))) k3 c4
  replace c5 := cell_keep2 (w := w2) (w' := (w2.alloc (.cells #[.int .i64 3, .func (.func 99) #[] #[]] 128))) k3 c5
  replace c6 := cell_keep2 (w := w2) (w' := (w2.alloc (.cells #[.int .i64 3, .func (.func 99) #[] #[]] 128))) k3 c6
  replace c7 := cell_keep2 (w := w2) (w' := (w2.alloc (.cells #[.int .i64 3, .func (.func 99) #[] #[]] 128))) k3 c7
  generalize (w2.alloc (.cells #[.int .i64 3, .func (.func 99) #[] #[]] 128)) = w3 at *
  have RN3 := Lib.hid r3
  have BN3 := Lib.hid b3
  have NN3 := Lib.hid n3
  clear r3 b3 n3 k3 RN2 BN2
  refine (H2.out _).mono ?_
  rintro e w' ⟨rfl, rfl⟩
  have HRF := RN3
  have HBF := BN3
  have HCF := Lib.hid hcf
  have HFN : w.heap.size ≠ w2.heap.size := by have := NN2.out; omega
  clear hcf RN3 BN3 NN3 NN2 c0 c1 c2 c3 c4 c5 c6 c7 H0 H1 H2
  go_wp2_with fail
  go_region_held3 (fun w' => w'.cell? ⟨w2.heap.size, 0, none⟩ = some (.int .i64 3)) (first | exact HCF.out | exact (held_drew HCF.out HRF.out HBF.out kq).1 | exact cell_set4 _ _ _ HFN _ _ _ _ _ (held_drew HCF.out HRF.out HBF.out kq).1) (first | (go_at_call 76; refine (HN.out _).mono ?_; rintro e wq ⟨rfl, kq⟩; obtain ⟨hq0, hq1, hq2, hq3, hq4, hq5, hq6, hq7, hq8, hqb⟩ := held_drew HCF.out HRF.out HBF.out kq))
  have hres := res_drew HRF.out kq
  clear HN HCF HRF HBF kq HF HFN
  go_wp2_with fail
  exact tok_ret hres hqb _ rfl _ rfl _ _ _ _ _ _ _ _ rfl rfl rfl rfl
end Go.Proofs.YtmkjoonbjmieoaaGreatDoor
