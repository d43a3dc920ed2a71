/- Part of a proof. -/
import Derived.Test.YtmlclgkhnekmnaaGreatDoorNFn
import Derived.OrdersHeld
import Derived.Deep.RegionHeld3
import Derived.Deep.QuietTactic
import Derived.BigQuiet
namespace Go.Proofs.YtmlclgkhnekmnaaGreatDoor
open Go.RowKit
section
variable {P : Program} {ops : Array Oper} {Q : Exit → Act → World → Prop}
structure RInv (n : Nat) (todo : List Nat) (D : Nat → Nat) (φ : Nat → World → Value → Prop) (w0 : World) (a0 : Act) (listed : Array Bool) (a : Act) (w : World) : Prop where
 below : Below w0.heap.size w0 w
 defers : a.defers = a0.defers
 size : a.tmps.size = a0.tmps.size
 old : ∀ i, i < n → i ∉ todo → listed.getD i true = true
 rest : ∀ t, (∀ i, i ∈ todo → D i ≠ t) → a.tmps.getD t undef = a0.tmps.getD t undef
 vals : ∀ i, i ∈ todo → listed.getD i true = true → φ i w (a.tmps.getD (D i) undef)
theorem getD_set (T : Array Value) (d t : Nat) (v : Value) (hd : d < T.size) : (T.setIfInBounds d v).getD t undef = if d = t then v else T.getD t undef := by
 simp only [Array.getD_eq_getD_getElem?, Array.getElem?_setIfInBounds]
 by_cases h : d = t
 · subst h
   rw [if_pos rfl, if_pos rfl, if_pos hd]; rfl
 · rw [if_neg h, if_neg h]
theorem listed_set (L : Array Bool) (i j : Nat) : (L.setIfInBounds i true).getD j true = if i = j then true else L.getD j true := by
 simp only [Array.getD_eq_getD_getElem?, Array.getElem?_setIfInBounds]
 by_cases h : i = j
 · subst h
   rw [if_pos rfl, if_pos rfl]
   split <;> rfl
 · rw [if_neg h, if_neg h]
theorem RInv.step {n : Nat} {todo : List Nat} {D : Nat → Nat} {φ : Nat → World → Value → Prop} {w0 : World} {a0 : Act} {listed : Array Bool} {a : Act} {w w' : World} {i : Nat} {v : Value}
 (hD : ∀ i j, i ∈ todo → j ∈ todo → D i = D j → i = j) (hsz : ∀ i, i ∈ todo → D i < a0.tmps.size) (mono : ∀ i w w' v, φ i w v → Below w.heap.size w w' → φ i w' v)
 (h : RInv n todo D φ w0 a0 listed a w) (hi : i ∈ todo) (hv : φ i w' v) (hb : Below w.heap.size w w') : RInv n todo D φ w0 a0 (listed.setIfInBounds i true) (a.put (some (D i)) v) w' := by
 have hs : D i < a.tmps.size := by rw [h.size]; exact hsz i hi
 refine ⟨h.below.trans (hb.mono h.below.size), h.defers, ?_, fun j hj hn => ?_, fun t ht => ?_, fun j hj hl => ?_⟩
 · show (a.tmps.setIfInBounds (D i) v).size = _
   rw [Array.size_setIfInBounds, h.size]
 · rw [listed_set]
   split
   · rfl
   · exact h.old j hj hn
 · show (a.tmps.setIfInBounds (D i) v).getD t undef = _
   rw [getD_set _ _ _ _ hs, if_neg (ht i hi), h.rest t ht]
 · show φ j w' ((a.tmps.setIfInBounds (D i) v).getD (D j) undef)
   rw [getD_set _ _ _ _ hs]
   by_cases hij : i = j
   · subst hij
     rw [if_pos rfl]; exact hv
   · rw [if_neg (fun hd => hij (hD i j hi hj hd))]
     rw [listed_set, if_neg hij] at hl
     exact mono j w w' _ (h.vals j hj hl) hb
end
end Go.Proofs.YtmlclgkhnekmnaaGreatDoor
namespace Go.Proofs.YtmlclgkhnekmnaaGreatDoor
open Go.RowKit
def Seven (W : World) (p : Addr) (v : Value) (b o : Nat) (c0 c1 c2 c3 c4 c5 : Value) : Prop :=
 W.cell? p = some v ∧ W.cell? ⟨b, o, none⟩ = some c0 ∧ W.cell? ⟨b, o + 1, none⟩ = some c1 ∧ W.cell? ⟨b, o + 2, none⟩ = some c2 ∧ W.cell? ⟨b, o + 3, none⟩ = some c3 ∧ W.cell? ⟨b, o + 4, none⟩ = some c4 ∧ W.cell? ⟨b, o + 5, none⟩ = some c5
theorem cell_kept {W W' : World} {p : Addr} {v : Value} (h : W.cell? p = some v) (hp : p.spot = none) (k : Below W.heap.size W W') : W'.cell? p = some v := by
 obtain ⟨b, i, _⟩ := p
 obtain rfl : _ = none := hp
 exact ncell_blk (fun hx => k.block b hx) h
theorem Seven.keep {W W' : World} {B b o : Nat} {v c0 c1 c2 c3 c4 c5 : Value} (h : Seven W ⟨B, 0, none⟩ v b o c0 c1 c2 c3 c4 c5) (k : Below W.heap.size W W') : Seven W' ⟨B, 0, none⟩ v b o c0 c1 c2 c3 c4 c5 :=
 ⟨cell_kept h.1 rfl k, cell_kept h.2.1 rfl k, cell_kept h.2.2.1 rfl k, cell_kept h.2.2.2.1 rfl k, cell_kept h.2.2.2.2.1 rfl k, cell_kept h.2.2.2.2.2.1 rfl k, cell_kept h.2.2.2.2.2.2 rfl k⟩
theorem six_cells {W : World} {N : Nat} {c0 c1 c2 c3 c4 c5 : Value} (hN : W.heap[N]? = some (.cells #[c0, c1, c2, c3, c4, c5] 24 (0, 0))) :
 W.cell? ⟨N, 0, none⟩ = some c0 ∧ W.cell? ⟨N, 1, none⟩ = some c1 ∧ W.cell? ⟨N, 2, none⟩ = some c2 ∧ W.cell? ⟨N, 3, none⟩ = some c3 ∧ W.cell? ⟨N, 4, none⟩ = some c4 ∧ W.cell? ⟨N, 5, none⟩ = some c5 := by
 refine ⟨?_, ?_, ?_, ?_, ?_, ?_⟩ <;> (unfold World.cell?; simp only [hN]; rfl)
theorem SIn.tail {W : World} {P : Nat → Prop} {n : Nd} {l : List Nd} {b o : Nat} (h : NLn W P b o (n :: l)) (hP : P b) : SIn W P l (some ⟨b, o + 6, none⟩) := by
 intro _
 rw [NLn] at h
 exact ⟨b, o + 6, rfl, hP, h.2⟩
end Go.Proofs.YtmlclgkhnekmnaaGreatDoor
namespace Go.Proofs.YtmlclgkhnekmnaaGreatDoor
open Go.RowKit
theorem cellA {W : World} {g : Nat} {cs : Array Value} {t : TypeId} (h : W.heap[g]? = some (.cells cs t (0, 0))) {i : Nat} {v : Value} (hv : cs[i]? = some v) : W.cell? ⟨g, i, none⟩ = some v := by
 unfold World.cell?
 simp only [h]
 exact hv
theorem results_cell_oneA {fn : Func} {p : Tmp} {ty : TypeId} (h : fn.results = #[.cell p ty]) (tmps : Array Value) (P : Program) (w : World) :
 (results fn tmps).run P w = ((asAddr (tmps.getD p undef)).run P w).andThen fun a w₁ => (loadVar ty a).run P w₁ := by
 simp only [results, h]
 simp [Sem.run_bind, Result.andThen]
theorem load_nd {wq : World} {N : Nat} {a b c d e f : Value} {T : TypeId} (hg : wq.heap[N]? = some (.cells #[a, b, c, d, e, f] T (0, 0))) : (loadVar 24 ⟨N, 0, none⟩).run Tryz.prog wq = .ok (.agg #[a, b, c, d, e, f]) wq :=
 run_loadVar_row (P := Tryz.prog) wq N T 24 #[a, b, c, d, e, f] (0, 0) _ hg Tryz.underlying24 rfl (by kernel_rfl)
theorem ret_cell1A {fn : Func} {p : Tmp} {ty : TypeId} (hr : fn.results = #[.cell p ty]) {N : Nat} {wq : World} {Q : Ending → World → Prop} (tmps : Array Value) (hp : tmps.getD p undef = .pointer (some ⟨N, 0, none⟩)) (v : Value)
 (hl : (loadVar ty ⟨N, 0, none⟩).run Tryz.prog wq = .ok v wq) (hq : Q (.returned v) wq) : bodyPost Tryz.prog fn Q Exit.ret ⟨tmps, []⟩ wq := by
 refine bodyPost_ret (v := v) ?_ rfl hq
 rw [results_cell_oneA hr, hp]
 simp [asAddr, Result.andThen, hl]
theorem six_heap {W : World} {R : Nat} {c0 c1 c2 c3 c4 c5 a b c d e f : Value} {t : TypeId} (h : W.heap[R]? = some (.cells #[c0, c1, c2, c3, c4, c5] t (0, 0))) :
 ((((((W.setCell ⟨R, 0, none⟩ a).setCell ⟨R, 1, none⟩ b).setCell ⟨R, 2, none⟩ c).setCell ⟨R, 3, none⟩ d).setCell ⟨R, 4, none⟩ e).setCell ⟨R, 5, none⟩ f).heap[R]? = some (.cells #[a, b, c, d, e, f] t (0, 0)) := by
 have h1 := heap_setCell_same W R 0 _ _ a h
 have h2 := heap_setCell_same _ R 1 _ _ b h1
 have h3 := heap_setCell_same _ R 2 _ _ c h2
 have h4 := heap_setCell_same _ R 3 _ _ d h3
 have h5 := heap_setCell_same _ R 4 _ _ e h4
 exact heap_setCell_same _ R 5 _ _ f h5
theorem below_set6 {w0 W : World} {B R : Nat} {a b c d e f : Value} (h : Below B w0 W) (hR : B ≤ R) : Below B w0 ((((((W.setCell ⟨R, 0, none⟩ a).setCell ⟨R, 1, none⟩ b).setCell ⟨R, 2, none⟩ c).setCell ⟨R, 3, none⟩ d).setCell ⟨R, 4, none⟩ e).setCell ⟨R, 5, none⟩ f) :=
 (((((h.setCell (p := ⟨R, 0, none⟩) hR a).setCell (p := ⟨R, 1, none⟩) hR b).setCell (p := ⟨R, 2, none⟩) hR c).setCell (p := ⟨R, 3, none⟩) hR d).setCell (p := ⟨R, 4, none⟩) hR e).setCell (p := ⟨R, 5, none⟩) hR f
end Go.Proofs.YtmlclgkhnekmnaaGreatDoor
