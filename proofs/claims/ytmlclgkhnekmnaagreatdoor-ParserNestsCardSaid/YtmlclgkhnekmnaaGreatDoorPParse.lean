/- Part of a proof. -/
import Derived.Test.YtmlclgkhnekmnaaGreatDoorPLeaf3
import Derived.Recover
import Derived.Test.YtmlclgkhnekmnaaGreatDoorPFile
import Derived.Test.YtmlclgkhnekmnaaGreatDoorPSize
import Derived.Test.YtmlclgkhnekmnaaGreatDoorPText
import Derived.Test.YtmlclgkhnekmnaaGreatDoorLAwake
namespace Go.Proofs.YtmlclgkhnekmnaaGreatDoor
open Go.RowKit
set_option maxRecDepth 100000 in
set_option maxHeartbeats 4000000 in
theorem catch_idle (a b c : Addr) (w : World) :
 CallsD Tryz.prog 41 #[.pointer (some a), .pointer (some b), .pointer (some c)] .returning w fun e u' w' => e = .returned (.tuple #[]) ∧ u' = .returning ∧ w' = w := by
 refine callsD_of_wpS Tryz.func41 rfl fun c₀ cs hu => ?_
 apply wpS_seq
 apply wpS_region
 simp [wpOpsS, go_sem, recoverD, hu, Tryz.ntmps41, Exit.thenS]
 refine wpS_of_wp ?_
 go_wp2_with fail
 have hc : c₀ = ({ c₀ with mode := .returning } : Frame) := by cases c₀; simp_all
 exact ⟨rfl, .returning, by rw [← hc], _, results_none rfl _ _ _, rfl, rfl, rfl⟩
theorem assert_stop (s : TypeId) (v : Value) (w : World) : (Instr.typeAssert (.iface 63 v) s 63 true).run Tryz.prog w = .ok (.tuple #[v, .bool true]) w := by
 simp [Instr.typeAssert, run_underlying Tryz.underlying63, go_sem]
structure Caught (N k e : Nat) (w w' : World) : Prop where
 os : w'.os = w.os
 tape : w'.tape = w.tape
 output : w'.output = w.output
 size : w.heap.size ≤ w'.heap.size
 block : ∀ j, j < N → w'.heap[j]? = w.heap[j]?
 tree : w'.heap[N]? = some (.cells #[.int .i64 0, .int .i64 0, .int .i64 0, .int .i64 0, .string ⟨#[]⟩, .slice none 0 0] 24 (0, 0))
 place : w'.heap[N + 1]? = some (.cells #[.int .i64 (k : Int)] 3 (0, 0))
 fault : w'.heap[N + 2]? = some (.cells #[.int .i64 (e : Int)] 27 (0, 0))
theorem caught_of {N k x : Nat} {w : World} {a0 a1 a2 a3 a4 a5 b0 c0 : Value} {o : Obj} (hA : w.heap[N]? = some (.cells #[a0, a1, a2, a3, a4, a5] 24 (0, 0))) (hB : w.heap[N + 1]? = some (.cells #[b0] 3 (0, 0))) (hC : w.heap[N + 2]? = some (.cells #[c0] 27 (0, 0))) :
 Caught N k x w (((((((((w.setCell ⟨N, 0, none⟩ (.int .i64 0)).setCell ⟨N, 1, none⟩ (.int .i64 0)).setCell ⟨N, 2, none⟩ (.int .i64 0)).setCell ⟨N, 3, none⟩ (.int .i64 0)).setCell ⟨N, 4, none⟩ (.string ⟨#[]⟩)).setCell ⟨N, 5, none⟩ (.slice none 0 0)).setCell ⟨N + 1, 0, none⟩ (.int .i64 (k : Int))).setCell ⟨N + 2, 0, none⟩ (.int .i64 (x : Int))).alloc o).drew := by
 have h6 := six_heap (a := .int .i64 0) (b := .int .i64 0) (c := .int .i64 0) (d := .int .i64 0) (e := .string ⟨#[]⟩) (f := .slice none 0 0) hA
 have f6 : PFr N w ((((((w.setCell ⟨N, 0, none⟩ (.int .i64 0)).setCell ⟨N, 1, none⟩ (.int .i64 0)).setCell ⟨N, 2, none⟩ (.int .i64 0)).setCell ⟨N, 3, none⟩ (.int .i64 0)).setCell ⟨N, 4, none⟩ (.string ⟨#[]⟩)).setCell ⟨N, 5, none⟩ (.slice none 0 0)) :=
  ((((((PFr.refl N w).set (p := ⟨N, 0, none⟩) (.inl rfl) _).set (p := ⟨N, 1, none⟩) (.inl rfl) _).set (p := ⟨N, 2, none⟩) (.inl rfl) _).set (p := ⟨N, 3, none⟩) (.inl rfl) _).set (p := ⟨N, 4, none⟩) (.inl rfl) _).set (p := ⟨N, 5, none⟩) (.inl rfl) _
 generalize (((((w.setCell ⟨N, 0, none⟩ (.int .i64 0)).setCell ⟨N, 1, none⟩ (.int .i64 0)).setCell ⟨N, 2, none⟩ (.int .i64 0)).setCell ⟨N, 3, none⟩ (.int .i64 0)).setCell ⟨N, 4, none⟩ (.string ⟨#[]⟩)).setCell ⟨N, 5, none⟩ (.slice none 0 0) = W at *
 have hN := (Array.getElem?_eq_some_iff.1 hA).1
 have hs := f6.size
 have h7 := f6.kept (N := N + 1) (by omega) hB
 have h8 := f6.kept (N := N + 2) (by omega) hC
 refine ⟨f6.os, f6.tape, f6.output, ?_, fun j hj => ?_, ?_, ?_, ?_⟩
 · show w.heap.size ≤ (World.alloc _ o).heap.size
   rw [World.size_alloc, World.size_setCell, World.size_setCell]; omega
 · refine (Below.heap_alloc _ o j (by rw [World.size_setCell, World.size_setCell]; omega)).trans ?_
   exact (heap_setCell_other _ ⟨N + 2, 0, none⟩ j _ (by show j ≠ N + 2; omega)).trans ((heap_setCell_other _ ⟨N + 1, 0, none⟩ j _ (by show j ≠ N + 1; omega)).trans (f6.block j (by omega) (by omega)))
 · refine blk_alloc ?_
   exact (heap_setCell_other _ ⟨N + 2, 0, none⟩ N _ (by show N ≠ N + 2; omega)).trans ((heap_setCell_other _ ⟨N + 1, 0, none⟩ N _ (by show N ≠ N + 1; omega)).trans h6)
 · refine blk_alloc ?_
   exact (heap_setCell_other _ ⟨N + 2, 0, none⟩ (N + 1) _ (by show N + 1 ≠ N + 2; omega)).trans (heap_setCell_same W (N + 1) 0 _ _ _ h7)
 · refine blk_alloc ?_
   exact heap_setCell_same _ (N + 2) 0 _ _ _ ((heap_setCell_other _ ⟨N + 1, 0, none⟩ (N + 2) _ (by show N + 2 ≠ N + 1; omega)).trans h8)
set_option maxRecDepth 100000 in
set_option maxHeartbeats 4000000 in
theorem catch_stop (N k x : Nat) (older : List PanicEntry) (w : World) (a0 a1 a2 a3 a4 a5 b0 c0 : Value)
 (hA : w.heap[N]? = some (.cells #[a0, a1, a2, a3, a4, a5] 24 (0, 0))) (hB : w.heap[N + 1]? = some (.cells #[b0] 3 (0, 0))) (hC : w.heap[N + 2]? = some (.cells #[c0] 27 (0, 0))) :
 CallsD Tryz.prog 41 #[.pointer (some ⟨N, 0, none⟩), .pointer (some ⟨N + 1, 0, none⟩), .pointer (some ⟨N + 2, 0, none⟩)] (.panicking (stopV k x :: older)) w fun e u' w' => e = .returned (.tuple #[]) ∧ u' = .panicking ({ v := .iface 63 (.agg #[.int .i64 (k : Int), .int .i64 (x : Int)]), recovered := true } :: older) ∧ Caught N k x w w' := by
 have HA := Lib.hid hA
 have HB := Lib.hid hB
 have HC := Lib.hid hC
 have a0 := cellA (i := 0) hA rfl
 have a1 := cellA (i := 1) hA rfl
 have a2 := cellA (i := 2) hA rfl
 have a3 := cellA (i := 3) hA rfl
 have a4 := cellA (i := 4) hA rfl
 have a5 := cellA (i := 5) hA rfl
 have b0 := cellA (i := 0) hB rfl
 have c0 := cellA (i := 0) hC rfl
 have f0 := frozen_of_row w N 0 _ _ hA
 have f1 := frozen_of_row w N 1 _ _ hA
 have f2 := frozen_of_row w N 2 _ _ hA
 have f3 := frozen_of_row w N 3 _ _ hA
 have f4 := frozen_of_row w N 4 _ _ hA
 have f5 := frozen_of_row w N 5 _ _ hA
 have f6 := frozen_of_row w (N + 1) 0 _ _ hB
 have f7 := frozen_of_row w (N + 2) 0 _ _ hC
 have n1 : ¬ (N + 1 = N) := by omega
 have n2 : ¬ (N + 2 = N) := by omega
 have n3 : ¬ (N + 2 = N + 1) := by omega
 have n4 : ¬ (N = N + 1) := by omega
 have n5 : ¬ (N = N + 2) := by omega
 have n6 : ¬ (N + 1 = N + 2) := by omega
 have hl0 := (Array.getElem?_eq_some_iff.1 hA).1
 have hl1 := (Array.getElem?_eq_some_iff.1 hB).1
 have hl2 := (Array.getElem?_eq_some_iff.1 hC).1
 clear hA hB hC
 have hta := assert_stop
 unfold stopV
 refine callsD_of_wpS Tryz.func41 rfl fun c₀ cs hu => ?_
 apply wpS_seq
 apply wpS_region
 simp [wpOpsS, go_sem, recoverD, hu, Tryz.ntmps41, Exit.thenS]
 rw [show (#[Value.pointer (some ⟨N, 0, none⟩), .pointer (some ⟨N + 1, 0, none⟩), .pointer (some ⟨N + 2, 0, none⟩)] ++ (Array.replicate 14 undef).setIfInBounds 3 (Value.iface 63 (Value.agg #[Value.int IntKind.i64 (k : Int), Value.int IntKind.i64 (x : Int)])) : Array Value) = #[Value.pointer (some ⟨N, 0, none⟩), .pointer (some ⟨N + 1, 0, none⟩), .pointer (some ⟨N + 2, 0, none⟩), undef, undef, undef, Value.iface 63 (Value.agg #[Value.int IntKind.i64 (k : Int), Value.int IntKind.i64 (x : Int)]), undef, undef, undef, undef, undef, undef, undef, undef, undef, undef] from rfl]
 refine wpS_of_wp ?_
 go_wp2_with fail
 go_region
 refine ⟨rfl, _, rfl, _, results_none rfl _ _ _, rfl, rfl, ?_⟩
 exact caught_of HA.out HB.out HC.out
end Go.Proofs.YtmlclgkhnekmnaaGreatDoor
namespace Go.Proofs.YtmlclgkhnekmnaaGreatDoor
open Go.RowKit
def PaEnd (R : Except (Int × Nat) Nd) (w : World) (e : Ending) (w' : World) : Prop :=
 ∃ v, e = .returned (.tuple #[v, .int .i64 (placeOf R), .int .i64 (faultOf R : Int)]) ∧ NIn w' (fun b => w.heap.size ≤ b) (treeOf R) v ∧ Below w.heap.size w w'
structure Pq (w W : World) (T : Array Value) (p e : Int) : Prop where
 tree : W.heap[w.heap.size]? = some (.cells T 24 (0, 0))
 place : W.heap[w.heap.size + 1]? = some (.cells #[.int .i64 p] 3 (0, 0))
 fault : W.heap[w.heap.size + 1 + 1]? = some (.cells #[.int .i64 e] 27 (0, 0))
 below : Below w.heap.size w W
theorem Pq.start (w : World) : Pq w (((w.alloc (.cells zNd 24)).alloc (.cells #[.int .i64 0] 3)).alloc (.cells #[.int .i64 0] 27)) zNd 0 0 :=
 ⟨blk_alloc (blk_alloc (alloc_top w _ _)), blk_alloc (alloc_top2 w _ _ _), alloc_top3 w _ _ _ _, ((alloc_below w _).trans ((alloc_below _ _).mono (by rw [World.size_alloc]; omega))).trans ((alloc_below _ _).mono (by rw [World.size_alloc, World.size_alloc]; omega))⟩
theorem Pq.lt {w W : World} {T : Array Value} {p e : Int} (h : Pq w W T p e) : w.heap.size + 2 < W.heap.size := (Array.getElem?_eq_some_iff.1 h.fault).1
theorem Pq.keep {w W W' : World} {T : Array Value} {p e : Int} (h : Pq w W T p e) (hb : Below W.heap.size W W') : Pq w W' T p e :=
 ⟨blk_below h.tree hb, blk_below h.place hb, blk_below h.fault hb, h.below.trans (hb.mono (by have := h.lt; omega))⟩
theorem Pq.drew {w W : World} {T : Array Value} {p e : Int} (h : Pq w W T p e) : Pq w W.drew T p e := ⟨h.tree, h.place, h.fault, h.below.drew⟩
theorem below_set {w W : World} (h : Below w.heap.size w W) {a : Addr} (ha : w.heap.size ≤ a.block) (v : Value) : Below w.heap.size w (W.setCell a v) :=
 ⟨h.os, h.tape, h.output, by rw [World.size_setCell]; exact h.size, fun k hk => (heap_setCell_other W a k v (by omega)).trans (h.block k hk)⟩
theorem Pq.setP {w W : World} {T : Array Value} {p e : Int} (h : Pq w W T p e) (q : Int) : Pq w (W.setCell ⟨w.heap.size + 1, 0, none⟩ (.int .i64 q)) T q e :=
 ⟨(heap_setCell_other W ⟨w.heap.size + 1, 0, none⟩ w.heap.size _ (by show w.heap.size ≠ w.heap.size + 1; omega)).trans h.tree, heap_setCell_same W _ 0 _ _ _ h.place, (heap_setCell_other W ⟨w.heap.size + 1, 0, none⟩ (w.heap.size + 1 + 1) _ (by show w.heap.size + 1 + 1 ≠ w.heap.size + 1; omega)).trans h.fault, below_set h.below (by show w.heap.size ≤ w.heap.size + 1; omega) _⟩
theorem Pq.setE {w W : World} {T : Array Value} {p e : Int} (h : Pq w W T p e) (q : Int) : Pq w (W.setCell ⟨w.heap.size + 1 + 1, 0, none⟩ (.int .i64 q)) T p q :=
 ⟨(heap_setCell_other W ⟨w.heap.size + 1 + 1, 0, none⟩ w.heap.size _ (by show w.heap.size ≠ w.heap.size + 1 + 1; omega)).trans h.tree, (heap_setCell_other W ⟨w.heap.size + 1 + 1, 0, none⟩ (w.heap.size + 1) _ (by show w.heap.size + 1 ≠ w.heap.size + 1 + 1; omega)).trans h.place, heap_setCell_same W _ 0 _ _ _ h.fault, below_set h.below (by show w.heap.size ≤ w.heap.size + 1 + 1; omega) _⟩
theorem Pq.set6 {w W : World} {a0 a1 a2 a3 a4 a5 : Value} {p e : Int} (h : Pq w W #[a0, a1, a2, a3, a4, a5] p e) (a b c d f g : Value) :
 Pq w ((((((W.setCell ⟨w.heap.size, 0, none⟩ a).setCell ⟨w.heap.size, 1, none⟩ b).setCell ⟨w.heap.size, 2, none⟩ c).setCell ⟨w.heap.size, 3, none⟩ d).setCell ⟨w.heap.size, 4, none⟩ f).setCell ⟨w.heap.size, 5, none⟩ g) #[a, b, c, d, f, g] p e :=
 ⟨six_heap h.tree, (six_otherP (by omega) ..).trans h.place, (six_otherP (by omega) ..).trans h.fault, below_set (below_set (below_set (below_set (below_set (below_set h.below (Nat.le_refl _) _) (Nat.le_refl _) _) (Nat.le_refl _) _) (Nat.le_refl _) _) (Nat.le_refl _) _) (Nat.le_refl _) _⟩
theorem Pq.fr {w W W' : World} {T : Array Value} {p e : Int} {R : Nat} (h : Pq w W T p e) (hf : PFr R W W') (hR : w.heap.size + 2 < R) : Pq w W' T p e :=
 ⟨hf.kept (by omega) h.tree, hf.kept (by omega) h.place, hf.kept (by omega) h.fault, ⟨hf.os.trans h.below.os, hf.tape.trans h.below.tape, hf.output.trans h.below.output, Nat.le_trans h.below.size hf.size, fun k hk => (hf.block k (by have := h.below.size; omega) (by omega)).trans (h.below.block k hk)⟩⟩
theorem sin_set {W : World} {B : Nat} {l : List Nd} {A : Option Addr} (h : SIn W (fun b => B < b) l A) {a : Addr} (ha : a.block ≤ B) (v : Value) : SIn (W.setCell a v) (fun b => B < b) l A := h.keep (fun k hk _ => heap_setCell_other W a k v (by omega)) (fun _ hk _ => hk)
theorem sin_set6 {W : World} {B N : Nat} {l : List Nd} {A : Option Addr} (h : SIn W (fun b => B < b) l A) (hN : N ≤ B) (a b c d f g : Value) : SIn ((((((W.setCell ⟨N, 0, none⟩ a).setCell ⟨N, 1, none⟩ b).setCell ⟨N, 2, none⟩ c).setCell ⟨N, 3, none⟩ d).setCell ⟨N, 4, none⟩ f).setCell ⟨N, 5, none⟩ g) (fun b => B < b) l A :=
 h.keep (fun k hk _ => six_otherP (by omega) ..) (fun _ hk _ => hk)
theorem noTree_in (W : World) (P : Nat → Prop) : NIn W P noTree (.agg zNd) := NIn.shut (n := noTree) (ia := none) (ic := 0) (Nat.le_refl _) sin0
theorem infoTkP : (Tryz.prog.info? 65).map (fun i => (i.zero, i.size, i.bytes)) = some (some (.agg #[.int .i64 0, .string ⟨#[]⟩, .int .i64 0, .int .i64 0]), 4, 40) := by kernel_rfl
theorem pst_new {W : World} {base : Nat} {l : List Tok} {x : List UInt8} {v : Value} (ht : TOk (l ++ [endTok x])) (h : W.ownsRow base 65 4 v (l.length + 1) (tcells l ++ [.int .i64 0, .string ⟨#[]⟩, .int .i64 (x.length : Int), .int .i64 (x.length : Int)])) :
 ∃ G c, v = .slice (some ⟨G, 0, none⟩) (l.length + 1) c ∧ base ≤ G ∧ G < W.heap.size ∧ PSt ⟨W.heap.size, G, c, l ++ [endTok x]⟩ (W.alloc (.cells #[v, .int .i64 0, .int .i64 0, .int .i64 0] 67)) ⟨0, 0, 0⟩ := by
 have hlen : (l ++ [endTok x]).length = l.length + 1 := by rw [List.length_append, List.length_singleton]
 have h2 : W.ownsRow base 65 4 v (l ++ [endTok x]).length (tcells (l ++ [endTok x])) := by rw [hlen, tcells_snoc]; exact h
 obtain ⟨A, cap2, hv, htr⟩ := treads_of h2
 rcases h.2 with ⟨-, h0⟩ | ⟨g, cap, cur, rfl, hB, hg, hcap, hmax, -, -⟩
 · omega
 · injection hv with e1 e2 e3
   subst e1 e3
   have hgl := (Array.getElem?_eq_some_iff.1 hg).1
   obtain ⟨g', hA, hc⟩ := htr (by rw [hlen]; omega)
   injection hA with hA
   injection hA with hA
   subst hA
   refine ⟨g, cap, rfl, hB, hgl, ?_, ?_, by show g ≠ W.heap.size; omega, by show (l ++ [endTok x]).length ≤ cap; omega, hmax, ht, by show 0 < (l ++ [endTok x]).length; omega, by decide, by decide⟩
   · show (W.alloc _).heap[W.heap.size]? = some (.cells #[.slice (some ⟨g, 0, none⟩) (l ++ [endTok x]).length cap, _, _, _] _ (0, 0))
     rw [hlen]
     exact alloc_top W _ _
   · exact tcellsAt.keep (W := W) hc (fun hx => Below.heap_alloc W _ g hx)
theorem results_cell3 {fn : Func} {p q t : Tmp} {ty tz tv : TypeId} (hr : fn.results = #[.cell p ty, .cell q tz, .cell t tv]) {A B C : Nat} {wq : World} (tmps : Array Value) (hp : tmps.getD p undef = .pointer (some ⟨A, 0, none⟩)) (hq : tmps.getD q undef = .pointer (some ⟨B, 0, none⟩)) (ht : tmps.getD t undef = .pointer (some ⟨C, 0, none⟩)) (x y z : Value)
 (hx : (loadVar ty ⟨A, 0, none⟩).run Tryz.prog wq = .ok x wq) (hy : (loadVar tz ⟨B, 0, none⟩).run Tryz.prog wq = .ok y wq) (hz : (loadVar tv ⟨C, 0, none⟩).run Tryz.prog wq = .ok z wq) : (results fn tmps).run Tryz.prog wq = .ok (.tuple #[x, y, z]) wq := by
 simp only [results, hr]
 simp only [Array.getD_eq_getD_getElem?] at hp hq ht
 simp [Sem.run_bind, Result.andThen, hp, hq, ht, asAddr, hx, hy, hz]
theorem load_intP {wq : World} {N : Nat} {a : Value} {T : TypeId} (hg : wq.heap[N]? = some (.cells #[a] T (0, 0))) : (loadVar 3 ⟨N, 0, none⟩).run Tryz.prog wq = .ok a wq := by
 have hc := cellA (i := 0) hg rfl
 simp [go_sem, hc]
theorem load_errP {wq : World} {N : Nat} {a : Value} {T : TypeId} (hg : wq.heap[N]? = some (.cells #[a] T (0, 0))) : (loadVar 27 ⟨N, 0, none⟩).run Tryz.prog wq = .ok a wq := by
 have hc := cellA (i := 0) hg rfl
 simp [go_sem, hc]
theorem Pq.results {w W : World} {a b c d f g : Value} {p e : Int} (h : Pq w W #[a, b, c, d, f, g] p e) 
 (tmps : Array Value) (h2 : tmps.getD 2 undef = .pointer (some ⟨w.heap.size, 0, none⟩)) (h3 : tmps.getD 3 undef = .pointer (some ⟨w.heap.size + 1, 0, none⟩)) (h4 : tmps.getD 4 undef = .pointer (some ⟨w.heap.size + 1 + 1, 0, none⟩)) :
 (Go.results Tryz.f13 tmps).run Tryz.prog W = .ok (.tuple #[.agg #[a, b, c, d, f, g], .int .i64 p, .int .i64 e]) W :=
 results_cell3 (fn := Tryz.f13) (p := 2) (q := 3) (t := 4) rfl tmps h2 h3 h4 _ _ _ (load_nd h.tree) (load_intP h.place) (load_errP h.fault)
theorem sumX_append : ∀ a b : List Tok, sumX (a ++ b) = sumX a + sumX b
 | [], b => by show sumX b = 0 + sumX b; omega
 | t :: a, b => by show t.2.1.length + sumX (a ++ b) = t.2.1.length + sumX a + sumX b; rw [sumX_append a b]; omega
theorem file_size {ff : List UInt8 → Nat} {x : List UInt8} {l : List Tok} {n : Nd} {s : Ps} (h : tokensL ff x = .ok l) (hz : fileP (l ++ [endTok x]) (fuelOf l) ⟨0, 0, 0⟩ = some (.ok n s)) (hi : s.i < (l ++ [endTok x]).length) : sz n ≤ 900000 := by
 have h1 := file_w (l ++ [endTok x]) (fuelOf l) ⟨0, 0, 0⟩ n s hz
 have h2 := wt_all (l ++ [endTok x]) s.i
 have h3 := (tokens_WF ff x l h).2
 have h4 := tokens_small h
 have h5 := agn_length l
 have h6 := again_len ff x l h
 have h7 : sumX ((l ++ [endTok x]).take s.i) + sumX ((l ++ [endTok x]).drop s.i) = sumX (l ++ [endTok x]) := by rw [← sumX_append, List.take_append_drop]
 have h8 : sumX (l ++ [endTok x]) = sumX l + 0 := by rw [sumX_append]; rfl
 have h9 : wt (l ++ [endTok x]) 0 = 0 := rfl
 rw [List.length_append, List.length_singleton] at hi
 change wt (l ++ [endTok x]) 0 + sz n ≤ _ at h1
 omega
set_option maxRecDepth 100000 in
set_option maxHeartbeats 8000000 in
theorem parse_any {FW : World → Prop} {ff : List UInt8 → Nat} {OK : List UInt8 → Prop} (hS : FSpec FW ff OK) (x : List UInt8) (hx : x.length ≤ 1000000) (hO : floatsOk OK (txt x)) (w : World) (hF : Facts w) (hW : FW w) : Calls Tryz.prog 13 #[.string (txt x)] w (PaEnd (parsR ff x) w) := by
 have hmf : ∀ (fn : Fn) (first cap : Array Value) (w : World), (Instr.makeFunc fn first cap).run Tryz.prog w = .ok (.func fn first cap) w := fun _ _ _ _ => rfl
 obtain ⟨w0, hw0⟩ : ∃ W, W = ((w.alloc (.cells #[.int .i64 0, .int .i64 0, .int .i64 0, .int .i64 0, .string ⟨#[]⟩, .slice none 0 0] 24)).alloc (.cells #[.int .i64 0] 3)).alloc (.cells #[.int .i64 0] 27) := ⟨_, rfl⟩
 have HQ : Hid (Pq w w0 zNd 0 0) := Lib.hid (by rw [hw0]; exact Pq.start w)
 have HW0 := Lib.hid hw0
 have HT : Hid (Calls Tryz.prog 40 #[.string (txt x)] w0 (TEnd (tokensL ff x) w0)) := Lib.hid (tokens_any hS (txt x) hx hO w0 (hF.below HQ.out.below) (hS.keep w w0 hW HQ.out.below))
 have HFF : Hid (∀ W, Below w.heap.size w W → Facts W) := Lib.hid (fun W hb => hF.below hb)
 clear hw0 hO hF hW hS
 go_enter_defers Tryz.func13, Tryz.ntmps13
 go_wp2_with fail
 rw [← HW0.out]
 refine HT.out.mono ?_
 rintro ee w1 ⟨v, rfl, hown, hb⟩
 have HQ1 := Lib.hid (HQ.out.keep hb)
 obtain ⟨R, hR⟩ : ∃ R, tokensL ff x = R := ⟨_, rfl⟩
 rw [hR] at hown ⊢
 have hp0 := cellA (i := 0) HQ1.out.place rfl
 have he0 := cellA (i := 0) HQ1.out.fault rfl
 have fp0 := frozen_of_row _ (w.heap.size + 1) 0 _ _ HQ1.out.place
 have fe0 := frozen_of_row _ (w.heap.size + 1 + 1) 0 _ _ HQ1.out.fault
 cases R with
 | error pe =>
  obtain ⟨pp, ee⟩ := pe
  have hne := tokens_fault hR
  have hz : ((ee : Int) == 0) = false := by simpa using hne
  have HV : Hid (parsR ff x = .error ((pp : Int), ee)) := Lib.hid (by unfold parsR; rw [hR])
  rw [show plc (Except.error (pp, ee)) = pp from rfl, show err (Except.error (pp, ee)) = ee from rfl]
  clear hne hR hown hb
  go_wp2_with fail
  obtain ⟨y0, y1, y2, y3, y4, y5⟩ := six_cells HQ1.out.tree
  have x0 := frozen_of_row _ w.heap.size 0 _ _ HQ1.out.tree
  have x1 := frozen_of_row _ w.heap.size 1 _ _ HQ1.out.tree
  have x2 := frozen_of_row _ w.heap.size 2 _ _ HQ1.out.tree
  have x3 := frozen_of_row _ w.heap.size 3 _ _ HQ1.out.tree
  have x4 := frozen_of_row _ w.heap.size 4 _ _ HQ1.out.tree
  have x5 := frozen_of_row _ w.heap.size 5 _ _ HQ1.out.tree
  go_region
  go_wp2_with fail
  have F := ((((HQ1.out.setP (pp : Int)).setE (ee : Int)).set6 (.int .i64 0) (.int .i64 0) (.int .i64 0) (.int .i64 0) (.string ⟨#[]⟩) (.slice none 0 0)).setP (pp : Int)).setE (ee : Int)
  exact ⟨_, F.drew.results _ rfl rfl rfl, ⟨_, by rw [HV.out]; rfl, by rw [HV.out]; exact noTree_in _ _, F.drew.below⟩⟩
 | ok l =>
  rw [show plc (Except.ok l) = 0 from rfl, show err (Except.ok l) = 0 from rfl]
  obtain ⟨i0, hi0, hz0, hz1, hz2⟩ := info_parts infoTkP
  have htk := tokens_tok hR
  have hown : w1.ownsRow w0.heap.size 65 4 v l.length (tcells l) := hown
  obtain ⟨A0, c0, rfl⟩ := slice_form hown
  obtain ⟨W1, hW1⟩ : ∃ W, W = (w1.setCell ⟨w.heap.size + 1, 0, none⟩ (.int .i64 0)).setCell ⟨w.heap.size + 1 + 1, 0, none⟩ (.int .i64 0) := ⟨_, rfl⟩
  have HQ2 : Hid (Pq w W1 zNd 0 0) := Lib.hid (by rw [hW1]; exact (HQ1.out.setP 0).setE 0)
  have hlt := HQ.out.lt
  have hs1 : W1.heap.size = w1.heap.size := by rw [hW1, World.size_setCell, World.size_setCell]
  have HO1 : Hid (W1.ownsRow w0.heap.size 65 4 (.slice A0 l.length c0) l.length (tcells l)) := Lib.hid (own_keepP hown (fun k hk => by
   have h1 := (World.ownsRow.lt hown k hk).1
   rw [hW1]
   exact (heap_setCell_other _ ⟨w.heap.size + 1 + 1, 0, none⟩ k _ (by show k ≠ w.heap.size + 1 + 1; omega)).trans (heap_setCell_other _ ⟨w.heap.size + 1, 0, none⟩ k _ (by show k ≠ w.heap.size + 1; omega))))
  have HO2 := Lib.hid (own_keepP HO1.out (W' := (W1.alloc (.cells #[.int .i64 0, .string ⟨#[]⟩, .int .i64 ((txt x).size : Int), .int .i64 ((txt x).size : Int)] 65)).alloc (.cells #[.int .i64 0, .string ⟨#[]⟩, .int .i64 ((txt x).size : Int), .int .i64 ((txt x).size : Int)] 65)) (fun k hk => by
   have h1 := (World.ownsRow.lt HO1.out k hk).2
   exact (Below.heap_alloc _ _ k (by rw [World.size_alloc]; omega)).trans (Below.heap_alloc _ _ k h1)))
  have HNC : Hid (∀ j u, ([.int .i64 0, .string ⟨#[]⟩, .int .i64 ((txt x).size : Int), .int .i64 ((txt x).size : Int)] : List Value)[j]? = some u → ((W1.alloc (.cells #[.int .i64 0, .string ⟨#[]⟩, .int .i64 ((txt x).size : Int), .int .i64 ((txt x).size : Int)] 65)).alloc (.cells #[.int .i64 0, .string ⟨#[]⟩, .int .i64 ((txt x).size : Int), .int .i64 ((txt x).size : Int)] 65)).cell? ((⟨w1.heap.size + 1, 0, none⟩ : Addr).add j) = some u) := Lib.hid (fun j u hj => by
   have h1 := new_cell (W1.alloc (.cells #[.int .i64 0, .string ⟨#[]⟩, .int .i64 ((txt x).size : Int), .int .i64 ((txt x).size : Int)] 65)) _ 65 j u hj
   rw [World.size_alloc, hs1] at h1
   exact h1)
  have hll : l.length ≤ 300000 := by have h1 := htk.len; rw [List.length_append, List.length_singleton] at h1; omega
  have hbs : w0.heap.size ≤ w1.heap.size := hb.size
  have HW1 := Lib.hid hW1
  have HTK := Lib.hid htk
  have HI := Lib.hid hi0
  have HZ0 := Lib.hid hz0
  have HZ1 := Lib.hid hz1
  have HZ2 := Lib.hid hz2
  have HRR := Lib.hid hR
  have HS1 := Lib.hid hs1
  clear hR hown hb hW1 htk hi0 hz0 hz1 hz2 hs1
  go_wp2_with (at_builtin; rw [← HW1.out]; refine wpList_append_own2 _ rfl _ _ 59 rfl w0.heap.size 65 i0 (.agg #[.int .i64 0, .string ⟨#[]⟩, .int .i64 0, .int .i64 0]) 4 40 Tryz.underlying59 HI.out HZ0.out HZ1.out HZ2.out rfl (by decide) _ _ _ rfl HO2.out ⟨w1.heap.size + 1, 0, none⟩ 1 1 [.int .i64 0, .string ⟨#[]⟩, .int .i64 ((txt x).size : Int), .int .i64 ((txt x).size : Int)] rfl rfl HNC.out ?c2 ?c3 ?c4 ?c5 ?_)
  case c2 => simp [Value.oneCell']
  case c3 => unfold maxLen; omega
  case c4 => omega
  case c5 => simp only [World.size_alloc]; have := HS1.out; omega
  intro v2 w3 hown2 hgr2 hne2
  have hn2 := HQ.out.lt
  have hsz1 := HS1.out
  have kp : ∀ k, k ≤ w.heap.size + 2 → w3.heap[k]? = W1.heap[k]? := fun k hk => by
   have h1 := hgr2.block k (by rw [World.size_alloc, World.size_alloc]; omega) (fun e => by have := (World.ownsRow.lt HO1.out k e.symm).1; omega)
   exact h1.trans ((Below.heap_alloc _ _ k (by rw [World.size_alloc]; omega)).trans (Below.heap_alloc _ _ k (by omega)))
  have hq2 := HQ2.out
  have hsz3 : W1.heap.size ≤ w3.heap.size := by have h1 := hgr2.size; rw [World.size_alloc, World.size_alloc] at h1; omega
  have HQ3 : Hid (Pq w w3 zNd 0 0) := Lib.hid ⟨(kp _ (by omega)).trans hq2.tree, (kp _ (by omega)).trans hq2.place, (kp _ (by omega)).trans hq2.fault, ⟨hgr2.os.trans hq2.below.os, hgr2.tape.trans hq2.below.tape, hgr2.output.trans hq2.below.output, Nat.le_trans hq2.below.size hsz3, fun k hk => (kp k (by omega)).trans (hq2.below.block k hk)⟩⟩
  obtain ⟨G, c, rfl, hG, hGl, hps⟩ := pst_new (x := x) HTK.out hown2
  have HPS := Lib.hid hps
  have HQ4 := Lib.hid (HQ3.out.keep (alloc_below w3 (.cells #[.slice (some ⟨G, 0, none⟩) (l.length + 1) c, .int .i64 0, .int .i64 0, .int .i64 0] 67)))
  obtain ⟨z, hz⟩ := file_some l (endTok x)
  have HN : Hid (w.heap.size + 2 < w3.heap.size) := Lib.hid (by omega)
  have HC : Hid (Calls Tryz.prog 42 #[.pointer (some ⟨w3.heap.size, 0, none⟩)] (w3.alloc (.cells #[.slice (some ⟨G, 0, none⟩) (l.length + 1) c, .int .i64 0, .int .i64 0, .int .i64 0] 67)) (NdEnd ⟨w3.heap.size, G, c, l ++ [endTok x]⟩ (w3.alloc (.cells #[.slice (some ⟨G, 0, none⟩) (l.length + 1) c, .int .i64 0, .int .i64 0, .int .i64 0] 67)) ⟨0, 0, 0⟩ z)) :=
   Lib.hid (pfile_any ⟨w3.heap.size, G, c, l ++ [endTok x]⟩ w HFF.out (by show w.heap.size ≤ w3.heap.size; omega) (fuelOf l) ⟨0, 0, 0⟩ _ HPS.out HQ4.out.below z hz)
  have HV : Hid (parsR ff x = deepR (some z)) := Lib.hid (by unfold parsR; rw [HRR.out]; show deepR (fileP (l ++ [endTok x]) (fuelOf l) ⟨0, 0, 0⟩) = _; rw [hz])
  have HSZ : Hid (∀ n s', z = .ok n s' → s'.i < (l ++ [endTok x]).length → sz n ≤ 900000) := Lib.hid (fun n s' e hi => file_size HRR.out (by rw [← e]; exact hz) hi)
  clear hn2 hsz1 kp hq2 hsz3 hG hGl hps hz hown2 hgr2 hne2 HO1 HO2 HNC HI HZ0 HZ1 HZ2 HPS hbs hlt
  go_wp2_with fail
  refine HC.out.mono ?_
  intro ee w4 he
  cases z with
  | bad kk xx =>
   obtain ⟨rfl, hf⟩ := he
   have HQ5 := Lib.hid (HQ4.out.fr hf HN.out)
   clear hf HC
   go_wp2_with fail
   refine leaves_cons (f := 41) (args := #[.pointer (some ⟨w.heap.size, 0, none⟩), .pointer (some ⟨w.heap.size + 1, 0, none⟩), .pointer (some ⟨w.heap.size + 2, 0, none⟩)]) (by simp) (by simp [go_sem]) ?_
   refine (catch_stop w.heap.size kk xx [] _ _ _ _ _ _ _ _ _ HQ5.out.tree HQ5.out.place HQ5.out.fault).mono ?_
   rintro e' u' w5 ⟨rfl, rfl, hc⟩
   have hq := HQ5.out.below
   have F : Pq w w5 zNd (kk : Int) (xx : Int) := ⟨hc.tree, hc.place, hc.fault, ⟨hc.os.trans hq.os, hc.tape.trans hq.tape, hc.output.trans hq.output, Nat.le_trans hq.size hc.size, fun k hk => (hc.block k hk).trans (hq.block k hk)⟩⟩
   exact ⟨_, F.results _ rfl rfl rfl, ⟨_, by rw [HV.out]; rfl, by rw [HV.out]; exact noTree_in _ _, F.below⟩⟩
  | ok n s1 =>
   obtain ⟨⟨v, rfl, hn⟩, hs, hf, hi, ho⟩ := he
   obtain ⟨ja, jc, rfl, hjc, hj⟩ := hn.open
   have HQ5 := Lib.hid (HQ4.out.fr hf HN.out)
   have HJ : Hid (SIn w4 (fun b => w.heap.size + 2 < b) n.kids ja) := Lib.hid (hj.wide (fun k _ hk => by rw [World.size_alloc] at hk; have := HN.out; omega))
   have hszn := HSZ.out n s1 rfl hs.lt
   clear hn hs hf hi ho hj HC HSZ
   obtain ⟨y0, y1, y2, y3, y4, y5⟩ := six_cells HQ5.out.tree
   have x0 := frozen_of_row _ w.heap.size 0 _ _ HQ5.out.tree
   have x1 := frozen_of_row _ w.heap.size 1 _ _ HQ5.out.tree
   have x2 := frozen_of_row _ w.heap.size 2 _ _ HQ5.out.tree
   have x3 := frozen_of_row _ w.heap.size 3 _ _ HQ5.out.tree
   have x4 := frozen_of_row _ w.heap.size 4 _ _ HQ5.out.tree
   have x5 := frozen_of_row _ w.heap.size 5 _ _ HQ5.out.tree
   have HQ6 := Lib.hid (HQ5.out.set6 (.int .i64 n.kind) (.int .i64 n.fro) (.int .i64 n.till) (.int .i64 n.at') (.string n.name) (.slice ja n.kids.length jc))
   have HJ6 := Lib.hid (sin_set6 (N := w.heap.size) HJ.out (by omega) (.int .i64 n.kind) (.int .i64 n.fro) (.int .i64 n.till) (.int .i64 n.at') (.string n.name) (.slice ja n.kids.length jc))
   have HJC := Lib.hid hjc
   go_wp2_with fail
   clear y0 y1 y2 y3 y4 y5 x0 x1 x2 x3 x4 x5 hp0 he0 fp0 fe0
   refine (pfirstDeep_any (sz n) n 1 (fun b => w.heap.size + 2 < b) ja jc _ (Nat.le_refl _) (by omega) (by omega) hjc HJ6.out).mono ?_
   rintro e5 w5 ⟨rfl, hb⟩
   have HQ7 := Lib.hid (HQ6.out.keep hb)
   have HJ7 := Lib.hid (HJ6.out.below hb)
   have HV2 : Hid (parsR ff x = match deepN 1 n with | some a => .error (a, 3) | none => .ok n) := Lib.hid HV.out
   obtain ⟨dd, hd⟩ : ∃ dd, deepN 1 n = dd := ⟨_, rfl⟩
   rw [hd] at HV2 ⊢
   clear hd hb HQ6 HJ6 HQ5 HJ HV hjc hszn
   cases dd with
   | some a =>
    rw [show dA (some a) = a from rfl]
    simp only [Option.isSome_some]
    obtain ⟨y0, y1, y2, y3, y4, y5⟩ := six_cells HQ7.out.tree
    have hp0 := cellA (i := 0) HQ7.out.place rfl
    have he0 := cellA (i := 0) HQ7.out.fault rfl
    have x0 := frozen_of_row _ w.heap.size 0 _ _ HQ7.out.tree
    have x1 := frozen_of_row _ w.heap.size 1 _ _ HQ7.out.tree
    have x2 := frozen_of_row _ w.heap.size 2 _ _ HQ7.out.tree
    have x3 := frozen_of_row _ w.heap.size 3 _ _ HQ7.out.tree
    have x4 := frozen_of_row _ w.heap.size 4 _ _ HQ7.out.tree
    have x5 := frozen_of_row _ w.heap.size 5 _ _ HQ7.out.tree
    have fp0 := frozen_of_row _ (w.heap.size + 1) 0 _ _ HQ7.out.place
    have fe0 := frozen_of_row _ (w.heap.size + 1 + 1) 0 _ _ HQ7.out.fault
    go_wp2_with fail
    refine leaves_cons (f := 41) (args := #[.pointer (some ⟨w.heap.size, 0, none⟩), .pointer (some ⟨w.heap.size + 1, 0, none⟩), .pointer (some ⟨w.heap.size + 1 + 1, 0, none⟩)]) (by simp) (by simp [go_sem]) ?_
    refine (catch_idle ⟨w.heap.size, 0, none⟩ ⟨w.heap.size + 1, 0, none⟩ ⟨w.heap.size + 1 + 1, 0, none⟩ _).mono ?_
    rintro e' u' w6 ⟨rfl, rfl, rfl⟩
    have F := ((HQ7.out.set6 (.int .i64 0) (.int .i64 0) (.int .i64 0) (.int .i64 0) (.string ⟨#[]⟩) (.slice none 0 0)).setP a).setE 3
    exact ⟨_, F.results _ rfl rfl rfl, ⟨_, by rw [HV2.out]; rfl, by rw [HV2.out]; exact noTree_in _ _, F.below⟩⟩
   | none =>
    rw [show dA none = 0 from rfl]
    simp only [Option.isSome_none]
    obtain ⟨y0, y1, y2, y3, y4, y5⟩ := six_cells HQ7.out.tree
    have hp0 := cellA (i := 0) HQ7.out.place rfl
    have he0 := cellA (i := 0) HQ7.out.fault rfl
    have x0 := frozen_of_row _ w.heap.size 0 _ _ HQ7.out.tree
    have x1 := frozen_of_row _ w.heap.size 1 _ _ HQ7.out.tree
    have x2 := frozen_of_row _ w.heap.size 2 _ _ HQ7.out.tree
    have x3 := frozen_of_row _ w.heap.size 3 _ _ HQ7.out.tree
    have x4 := frozen_of_row _ w.heap.size 4 _ _ HQ7.out.tree
    have x5 := frozen_of_row _ w.heap.size 5 _ _ HQ7.out.tree
    have fp0 := frozen_of_row _ (w.heap.size + 1) 0 _ _ HQ7.out.place
    have fe0 := frozen_of_row _ (w.heap.size + 1 + 1) 0 _ _ HQ7.out.fault
    go_wp2_with fail
    refine leaves_cons (f := 41) (args := #[.pointer (some ⟨w.heap.size, 0, none⟩), .pointer (some ⟨w.heap.size + 1, 0, none⟩), .pointer (some ⟨w.heap.size + 1 + 1, 0, none⟩)]) (by simp) (by simp [go_sem]) ?_
    refine (catch_idle ⟨w.heap.size, 0, none⟩ ⟨w.heap.size + 1, 0, none⟩ ⟨w.heap.size + 1 + 1, 0, none⟩ _).mono ?_
    rintro e' u' w6 ⟨rfl, rfl, rfl⟩
    have F := ((HQ7.out.set6 (.int .i64 n.kind) (.int .i64 n.fro) (.int .i64 n.till) (.int .i64 n.at') (.string n.name) (.slice ja n.kids.length jc)).setP 0).setE 0
    have J := sin_set (a := ⟨w.heap.size + 1 + 1, 0, none⟩) (sin_set (a := ⟨w.heap.size + 1, 0, none⟩) (sin_set6 (N := w.heap.size) HJ7.out (by omega) (.int .i64 n.kind) (.int .i64 n.fro) (.int .i64 n.till) (.int .i64 n.at') (.string n.name) (.slice ja n.kids.length jc)) (by show w.heap.size + 1 ≤ w.heap.size + 2; omega) (.int .i64 0)) (by show w.heap.size + 1 + 1 ≤ w.heap.size + 2; omega) (.int .i64 0)
    exact ⟨_, F.results _ rfl rfl rfl, ⟨_, by rw [HV2.out]; rfl, by rw [HV2.out]; exact NIn.shut HJC.out (J.wide (fun k _ hk => by omega)), F.below⟩⟩
end Go.Proofs.YtmlclgkhnekmnaaGreatDoor
