/-
  jtext's finders, strings.Clone, and what a token's memory holds: for tokenAt. Condition of Clone: the text's length.
-/
import Derived.Test.YtmkjoonbjmieoaaDoorQStr
import Derived.Laws.EntriesVeiled
import Derived.Deep.RegionWith
import Derived.Deep.DeepCutAuto
import Derived.IntWalk
import Derived.Deep.RegionLaw
import Derived.Deep.RegionHeld3
import Derived.Laws.NewBlocks
import Derived.Laws.ResultCell
import Derived.Laws.Rows
namespace Go.Proofs.YtmkjoonbjmieoaaDoor
open Go.RowKit
/-- The finders' row in memory. -/
def findCells : Array Value := #[Value.int IntKind.i64 1, Value.func (Fn.func 44) #[] #[], Value.int IntKind.i64 2, Value.func (Fn.func 45) #[] #[], Value.int IntKind.i64 3, Value.func (Fn.func 46) #[] #[], Value.int IntKind.i64 4, Value.func (Fn.func 47) #[] #[]]
structure Known (W : World) (a : Nat) : Prop where
  c0 : W.cell? ⟨a, 0, none⟩ = some (.int .i64 1)
  c1 : W.cell? ⟨a, 1, none⟩ = some (.func (.func 44) #[] #[])
  c2 : W.cell? ⟨a, 2, none⟩ = some (.int .i64 2)
  c3 : W.cell? ⟨a, 3, none⟩ = some (.func (.func 45) #[] #[])
  c4 : W.cell? ⟨a, 4, none⟩ = some (.int .i64 3)
  c5 : W.cell? ⟨a, 5, none⟩ = some (.func (.func 46) #[] #[])
  c6 : W.cell? ⟨a, 6, none⟩ = some (.int .i64 4)
  c7 : W.cell? ⟨a, 7, none⟩ = some (.func (.func 47) #[] #[])
set_option maxRecDepth 100000 in
set_option maxHeartbeats 2000000 in
theorem finders_any (w : World) : Calls Tryd.prog 24 #[] w fun e w' => e = .returned (.slice (some ⟨w.heap.size, 0, none⟩) 4 4) ∧ Known w' w.heap.size ∧ Below w.heap.size w w' := by
  go_enter Tryd.func24, Tryd.ntmps24
  go_wp2
  go_ret
  refine ⟨rfl, ?_, (Below.refl _ _).alloc (Nat.le_refl _) _⟩
  constructor <;> (rw [World.cell?_alloc_at _ _ _ _ rfl]; rfl)
theorem heap_keep {w w' : World} {k : Nat} {o : Obj} (hb : Below w.heap.size w w') (h : w.heap[k]? = some o) : w'.heap[k]? = some o := by
  have hlt : k < w.heap.size := (Array.getElem?_eq_some_iff.1 h).1
  rw [hb.block k hlt]; exact h
theorem cell_keep2 {w w' : World} {k i : Nat} {v : Value} (hb : Below w.heap.size w w') (h : w.cell? ⟨k, i, none⟩ = some v) : w'.cell? ⟨k, i, none⟩ = some v := by
  have hlt : k < w.heap.size := by
    rcases Nat.lt_or_ge k w.heap.size with h' | h'
    · exact h'
    · simp [World.cell?, Array.getElem?_eq_none h'] at h
  rw [hb.cell (p := ⟨k, i, none⟩) hlt]; exact h
/-- A result's memory, as it is laid. -/
def Res (W : World) (N : Nat) : Prop := W.heap[N]? = some (.cells #[.int .i64 0, .string ⟨#[]⟩, .int .i64 0, .int .i64 0] 61 (0, 0))
theorem res_new (w : World) : Res (w.alloc (.cells #[.int .i64 0, .string ⟨#[]⟩, .int .i64 0, .int .i64 0] 61)) w.heap.size := by
  unfold Res World.alloc
  exact Array.getElem?_push_size
theorem res_keep {W W' : World} {N : Nat} (h : Res W N) (hb : Below W.heap.size W W') : Res W' N := heap_keep hb h
theorem held_of {W0 W : World} {c : Value} {F : Nat} (hc : W.cell? ⟨F, 0, none⟩ = some c) (h : Res W W0.heap.size) (hb : Below W0.heap.size W0 W) :
    W.cell? ⟨F, 0, none⟩ = some c ∧ W.cell? ⟨W0.heap.size, 0, none⟩ = some (.int .i64 0) ∧ W.cell? ⟨W0.heap.size, 1, none⟩ = some (.string ⟨#[]⟩) ∧ W.cell? ⟨W0.heap.size, 2, none⟩ = some (.int .i64 0) ∧ W.cell? ⟨W0.heap.size, 3, none⟩ = some (.int .i64 0) ∧ W.frozen? ⟨W0.heap.size, 0, none⟩ = false ∧ W.frozen? ⟨W0.heap.size, 1, none⟩ = false ∧ W.frozen? ⟨W0.heap.size, 2, none⟩ = false ∧ W.frozen? ⟨W0.heap.size, 3, none⟩ = false ∧ Below W0.heap.size W0 W := by
  unfold Res at h
  refine ⟨hc, ?_, ?_, ?_, ?_, ?_, ?_, ?_, ?_, hb⟩
  all_goals first | (unfold World.cell?; simp only [h]; rfl) | (unfold World.frozen?; simp only [h]; rfl)
theorem res_cells {W : World} {N : Nat} (h : Res W N) : W.cell? ⟨N, 0, none⟩ = some (.int .i64 0) ∧ W.cell? ⟨N, 1, none⟩ = some (.string ⟨#[]⟩) ∧ W.cell? ⟨N, 2, none⟩ = some (.int .i64 0) ∧ W.cell? ⟨N, 3, none⟩ = some (.int .i64 0) ∧ W.frozen? ⟨N, 0, none⟩ = false ∧ W.frozen? ⟨N, 1, none⟩ = false ∧ W.frozen? ⟨N, 2, none⟩ = false ∧ W.frozen? ⟨N, 3, none⟩ = false := by
  unfold Res at h
  refine ⟨?_, ?_, ?_, ?_, ?_, ?_, ?_, ?_⟩
  all_goals first | (unfold World.cell?; simp only [h]; rfl) | (unfold World.frozen?; simp only [h]; rfl)
theorem held_drew {W0 W W' : World} {c : Value} {F : Nat} (hc : W.cell? ⟨F, 0, none⟩ = some c) (h : Res W W0.heap.size) (hb : Below W0.heap.size W0 W) (k : Below W.drew.heap.size W.drew W') :
    W'.cell? ⟨F, 0, none⟩ = some c ∧ W'.cell? ⟨W0.heap.size, 0, none⟩ = some (.int .i64 0) ∧ W'.cell? ⟨W0.heap.size, 1, none⟩ = some (.string ⟨#[]⟩) ∧ W'.cell? ⟨W0.heap.size, 2, none⟩ = some (.int .i64 0) ∧ W'.cell? ⟨W0.heap.size, 3, none⟩ = some (.int .i64 0) ∧ W'.frozen? ⟨W0.heap.size, 0, none⟩ = false ∧ W'.frozen? ⟨W0.heap.size, 1, none⟩ = false ∧ W'.frozen? ⟨W0.heap.size, 2, none⟩ = false ∧ W'.frozen? ⟨W0.heap.size, 3, none⟩ = false ∧ Below W0.heap.size W0 W' := by
  have k2 : Below W.heap.size W W' := ⟨k.os, k.tape, k.output, k.size, k.block⟩
  exact held_of (cell_keep2 k2 hc) (res_keep h k2) (hb.trans (k2.mono hb.size))
theorem cell_set4 (W : World) (N F : Nat) (hF : N ≠ F) (a b c d : Value) (x : Value) (h : W.cell? ⟨F, 0, none⟩ = some x) : ((((W.setCell ⟨N, 0, none⟩ a).setCell ⟨N, 1, none⟩ b).setCell ⟨N, 2, none⟩ c).setCell ⟨N, 3, none⟩ d).cell? ⟨F, 0, none⟩ = some x := by
  rw [World.cell?_setCell_far _ _ _ _ hF, World.cell?_setCell_far _ _ _ _ hF, World.cell?_setCell_far _ _ _ _ hF, World.cell?_setCell_far _ _ _ _ hF]
  exact h
theorem res_drew {W W' : World} {N : Nat} (h : Res W N) (k : Below W.drew.heap.size W.drew W') : Res W' N := res_keep h ⟨k.os, k.tape, k.output, k.size, k.block⟩
def set4 (W : World) (N : Nat) (a b c d : Value) : World := (((W.setCell ⟨N, 0, none⟩ a).setCell ⟨N, 1, none⟩ b).setCell ⟨N, 2, none⟩ c).setCell ⟨N, 3, none⟩ d
theorem res_set {W : World} {N i : Nat} {cs : Array Value} (h : W.heap[N]? = some (.cells cs 61 (0, 0))) (v : Value) : (W.setCell ⟨N, i, none⟩ v).heap[N]? = some (.cells (cs.setIfInBounds i v) 61 (0, 0)) :=
  heap_setCell_same W N i cs 61 v h
theorem res_set4 {W : World} {N : Nat} (h : Res W N) (a b c d : Value) : (set4 W N a b c d).heap[N]? = some (.cells #[a, b, c, d] 61 (0, 0)) :=
  res_set (res_set (res_set (res_set h a) b) c) d
theorem tok_ret {w wq : World} (hres : Res wq w.heap.size) (hb : Below w.heap.size w wq) (tmps : Array Value) (h6 : tmps.getD 6 undef = .pointer (some ⟨w.heap.size, 0, none⟩)) (q : Bool) (h7 : tmps.getD 7 undef = .bool q) (a b c d a' b' c' d' : Value) (e1 : a = a') (e2 : b = b') (e3 : c = c') (e4 : d = d') :
    bodyPost Tryd.prog Tryd.f26 (fun e w' => e = .returned (.tuple #[.agg #[a', b', c', d'], .bool q]) ∧ Below w.heap.size w w') Exit.ret ⟨tmps, []⟩ (set4 wq w.heap.size a b c d) := by
  subst e1 e2 e3 e4
  refine bodyPost_ret (v := .tuple #[.agg #[a, b, c, d], .bool q]) ?_ rfl ⟨rfl, ?_⟩
  · rw [results_cell_tmp (p := 6) (u := 7) (ty := 61) rfl, h6, h7]
    have hl := run_loadVar_row (P := Tryd.prog) (set4 wq w.heap.size a b c d) w.heap.size 61 61 #[a, b, c, d] (0, 0) _ (res_set4 hres a b c d) Tryd.underlying61 rfl (by kernel_rfl)
    simp [asAddr, Result.andThen, hl]
  · exact (((hb.setCell (Nat.le_refl _) _).setCell (Nat.le_refl _) _).setCell (Nat.le_refl _) _).setCell (Nat.le_refl _) _
theorem strV_some (k : Nat) (x : List UInt8) (n : Nat) : strV k (some (x, n)) = .tuple #[.string ⟨x.toArray⟩, .int .i64 ((k + n : Nat) : Int)] := rfl
theorem clone_any (s : ByteArray) (hs : s.size ≤ 281474976710656) (w : World) : Calls Tryd.prog 40 #[.string s] w fun e w' => e = .returned (.string s) ∧ Below w.heap.size w w' := by
  have HC := Lib.hid (Tryd.stringslite_Clone s w hs)
  clear hs
  go_enter Tryd.func40, Tryd.ntmps40
  go_wp2_with fail
  refine HC.out.mono ?_
  rintro e w1 ⟨rfl, hb⟩
  have HB := Lib.hid hb
  clear hb
  go_wp2_with fail
  go_ret
  exact ⟨rfl, HB.out⟩
end Go.Proofs.YtmkjoonbjmieoaaDoor
