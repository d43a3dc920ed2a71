/-
  CUTS IN MEMORY OF A CALL'S OWN, each with its parts in a row of its own, all apart. No condition but those that each theorem says.
-/
import Derived.Test.YtlgjlfljohapfaaEApp2
namespace Go.Proofs.Ytlgjlfljohapfaa
open Go.RowKit

theorem own_keep {W W' : World} {B size n : Nat} {e : TypeId} {v : Value} {xs : List Value} (h : W.ownsRow B e size v n xs) (hk : ∀ k, v.ownBlock = some k → W'.heap[k]? = W.heap[k]?) : W'.ownsRow B e size v n xs := by
  refine ⟨h.1, ?_⟩
  rcases h.2 with h0 | ⟨g, cap, cur, rfl, hB, hg, r⟩
  · exact .inl h0
  · exact .inr ⟨g, cap, cur, rfl, hB, (hk g rfl).trans hg, r⟩
def prc (x : Prt) : List Value := [.int .i64 x.f, .int .i64 x.t, .string x.s, .bool x.n]
def prcs (P : List Prt) : List Value := P.flatMap prc
theorem prcs_snoc (L : List Prt) (x : Prt) : prcs (L ++ [x]) = prcs L ++ prc x := by simp [prcs]
theorem prcs_at : ∀ (ps : List Prt) (i : Nat) (p : Prt) (f : Nat), ps[i]? = some p → f < 4 → (prcs ps)[i * 4 + f]? = (prc p)[f]?
  | [], i, p, f, h, _ => by simp at h
  | q :: ps, 0, p, f, h, hf => by
    obtain rfl : q = p := by simpa using h
    show (prc q ++ prcs ps)[0 * 4 + f]? = _
    rw [Nat.zero_mul, Nat.zero_add, List.getElem?_append_left (by simpa [prc] using hf)]
  | q :: ps, i + 1, p, f, h, hf => by
    have := prcs_at ps i p f (by simpa using h) hf
    show (prc q ++ prcs ps)[(i + 1) * 4 + f]? = _
    rw [List.getElem?_append_right (by simp [prc]; omega), show (i + 1) * 4 + f - (prc q).length = i * 4 + f by simp [prc]; omega, this]
def POwn (W : World) (B : Nat) (v : Value) (P : List Prt) : Prop := W.ownsRow B 67 4 v P.length (prcs P)
theorem POwn.reads {W : World} {B : Nat} {v : Value} {P : List Prt} (h : POwn W B v P) : ∃ A cap, v = .slice A P.length cap ∧ PR W A P := by
  rcases h.2 with ⟨rfl, h0⟩ | ⟨g, cap, cur, rfl, _, hg, _, _, _, ht⟩
  · exact ⟨none, 0, by rw [h0], fun hp => by omega⟩
  · refine ⟨_, cap, rfl, fun _ => ⟨g, 0, rfl, fun i p hp => ?_⟩⟩
    have hi : i < P.length := (List.getElem?_eq_some_iff.1 hp).1
    have key : ∀ f x, f < 4 → (prc p)[f]? = some x → W.cell? ⟨g, 0 + i * 4 + f, none⟩ = some x := by
      intro f x hf hx
      rw [cell_at hg, ← Array.getElem?_toList, Nat.zero_add]
      have h1 := prcs_at P i p f hp hf
      rw [hx, ← ht, List.getElem?_take, if_pos (by omega)] at h1
      exact h1
    exact ⟨key 0 _ (by omega) rfl, key 1 _ (by omega) rfl, key 2 _ (by omega) rfl, key 3 _ (by omega) rfl⟩
def dc (d : Ct × Value) : List Value := [.int .i64 d.1.f, .int .i64 d.1.t, d.2]
def dcs (D : List (Ct × Value)) : List Value := D.flatMap dc
theorem dcs_snoc (L : List (Ct × Value)) (x : Ct × Value) : dcs (L ++ [x]) = dcs L ++ dc x := by simp [dcs]
theorem dcs_at : ∀ (ps : List (Ct × Value)) (i : Nat) (p : Ct × Value) (f : Nat), ps[i]? = some p → f < 3 → (dcs ps)[i * 3 + f]? = (dc p)[f]?
  | [], i, p, f, h, _ => by simp at h
  | q :: ps, 0, p, f, h, hf => by
    obtain rfl : q = p := by simpa using h
    show (dc q ++ dcs ps)[0 * 3 + f]? = _
    rw [Nat.zero_mul, Nat.zero_add, List.getElem?_append_left (by simpa [dc] using hf)]
  | q :: ps, i + 1, p, f, h, hf => by
    have := dcs_at ps i p f (by simpa using h) hf
    show (dc q ++ dcs ps)[(i + 1) * 3 + f]? = _
    rw [List.getElem?_append_right (by simp [dc]; omega), show (i + 1) * 3 + f - (dc q).length = i * 3 + f by simp [dc]; omega, this]
/-- Cuts with their parts' rows. -/
structure Fam (W : World) (B : Nat) (v : Value) (D : List (Ct × Value)) : Prop where
  row : W.ownsRow B 70 3 v D.length (dcs D)
  each : ∀ d ∈ D, POwn W B d.2 d.1.p
  sep : ∀ d ∈ D, ∀ k, d.2.ownBlock = some k → v.ownBlock ≠ some k
theorem Fam.keep {W W' : World} {B : Nat} {v : Value} {D : List (Ct × Value)} (h : Fam W B v D) (h1 : ∀ k, v.ownBlock = some k → W'.heap[k]? = W.heap[k]?) (h2 : ∀ d ∈ D, ∀ k, d.2.ownBlock = some k → W'.heap[k]? = W.heap[k]?) : Fam W' B v D :=
  ⟨own_keep h.row h1, fun d hd => own_keep (h.each d hd) (h2 d hd), h.sep⟩
theorem Fam.below {W W' : World} {B : Nat} {v : Value} {D : List (Ct × Value)} (h : Fam W B v D) (hb : Below W.heap.size W W') : Fam W' B v D :=
  h.keep (fun k hk => hb.block k (World.ownsRow.lt h.row k hk).2) (fun d hd k hk => hb.block k (World.ownsRow.lt (h.each d hd) k hk).2)
theorem Fam.reads {W : World} {B : Nat} {v : Value} {D : List (Ct × Value)} (h : Fam W B v D) : ∃ A cap, v = .slice A (D.map (·.1)).length cap ∧ CR W A (D.map (·.1)) := by
  rcases h.row.2 with ⟨rfl, h0⟩ | ⟨g, cap, cur, rfl, _, hg, _, _, _, ht⟩
  · exact ⟨none, 0, by rw [List.length_map, h0], fun hp => by rw [List.length_map] at hp; omega⟩
  · refine ⟨_, cap, by rw [List.length_map], fun _ => ⟨g, 0, rfl, fun i p hp => ?_⟩⟩
    rw [List.getElem?_map] at hp
    obtain ⟨d, hd, rfl⟩ := Option.map_eq_some_iff.1 hp
    have hi : i < D.length := (List.getElem?_eq_some_iff.1 hd).1
    have key : ∀ f x, f < 3 → (dc d)[f]? = some x → W.cell? ⟨g, 0 + i * 3 + f, none⟩ = some x := by
      intro f x hf hx
      rw [cell_at hg, ← Array.getElem?_toList, Nat.zero_add]
      have h1 := dcs_at D i d f hd hf
      rw [hx, ← ht, List.getElem?_take, if_pos (by omega)] at h1
      exact h1
    obtain ⟨A2, c2, e2, hr⟩ := (h.each d (List.mem_of_getElem? hd)).reads
    exact ⟨key 0 _ (by omega) rfl, key 1 _ (by omega) rfl, A2, c2, by rw [← e2]; exact key 2 _ (by omega) rfl, hr⟩
/-- A cut that is being built, beside the ones that are. -/
structure Inn (w W : World) (K : Nat) (v : Value) (D : List (Ct × Value)) (f t : Int) (P : List Prt) (cp : Value) : Prop where
  blk : W.heap[K]? = some (.cells #[.int .i64 f, .int .i64 t, cp] 70 (0, 0))
  own : POwn W w.heap.size cp P
  fam : Fam W w.heap.size v D
  s1 : ∀ q, cp.ownBlock = some q → q ≠ K ∧ v.ownBlock ≠ some q ∧ ∀ d ∈ D, d.2.ownBlock ≠ some q
  s2 : v.ownBlock ≠ some K ∧ ∀ d ∈ D, d.2.ownBlock ≠ some K
  lo : w.heap.size ≤ K
  below : Below w.heap.size w W
theorem Inn.app {w W W2 : World} {K : Nat} {v : Value} {D : List (Ct × Value)} {f t : Int} {P : List Prt} {cp cp2 : Value} {o1 o2 : Obj} {x : Prt} (h : Inn w W K v D f t P cp)
    (h2 : W2.ownsRow w.heap.size 67 4 cp2 (P.length + 1) (prcs P ++ prc x)) (hg : ((W.alloc o1).alloc o2).grownBy W2 cp.ownBlock) (hne : ∀ k, cp2.ownBlock = some k → cp.ownBlock = some k ∨ W.heap.size + 2 ≤ k) :
    Inn w (W2.setCell ⟨K, 2, none⟩ cp2) K v D f t (P ++ [x]) cp2 := by
  have hK := heap_lt h.blk
  have hsz : ((W.alloc o1).alloc o2).heap.size = W.heap.size + 2 := by simp
  have hba : Below W.heap.size W ((W.alloc o1).alloc o2) := (alloc_below W o1).trans ((alloc_below (W.alloc o1) o2).mono (alloc_below W o1).size)
  have hk2 : ∀ k, k < W.heap.size → cp.ownBlock ≠ some k → W2.heap[k]? = W.heap[k]? := fun k hk hn => (hg.block k (by omega) (fun e => hn e.symm)).trans (hba.block k hk)
  have hk3 : ∀ k, k < W.heap.size → cp.ownBlock ≠ some k → k ≠ K → (W2.setCell ⟨K, 2, none⟩ cp2).heap[k]? = W.heap[k]? := fun k hk hn hkK => (Below.heap_setCell W2 ⟨K, 2, none⟩ cp2 k hkK).trans (hk2 k hk hn)
  have hcK : cp.ownBlock ≠ some K := fun e => (h.s1 K e).1 rfl
  have hB2 : Below w.heap.size w W2 := (h.below.trans (hba.mono h.below.size)).grown hg (by have := h.below.size; omega) (fun k e => (World.ownsRow.lt h.own k e).1)
  have hfr : ∀ k, cp2.ownBlock = some k → k ≠ K := fun k hk => by
    rcases hne k hk with e | e
    · exact (h.s1 k e).1
    · omega
  refine ⟨heap_setCell_same W2 K 2 _ _ cp2 ((hk2 K hK hcK).trans h.blk), ?_, h.fam.keep (fun k hk => hk3 k (World.ownsRow.lt h.fam.row k hk).2 (fun e => (h.s1 k e).2.1 hk) (fun e => h.s2.1 (e ▸ hk))) (fun d hd k hk => hk3 k (World.ownsRow.lt (h.fam.each d hd) k hk).2 (fun e => (h.s1 k e).2.2 d hd hk) (fun e => h.s2.2 d hd (e ▸ hk))), fun q hq => ?_, h.s2, h.lo, hB2.setCell (p := ⟨K, 2, none⟩) h.lo _⟩
  · unfold POwn
    rw [List.length_append, prcs_snoc]
    exact own_keep h2 (fun k hk => Below.heap_setCell W2 ⟨K, 2, none⟩ cp2 k (hfr k hk))
  · refine ⟨hfr q hq, ?_⟩
    rcases hne q hq with e | e
    · exact (h.s1 q e).2
    · exact ⟨fun e2 => by have := (World.ownsRow.lt h.fam.row q e2).2; omega, fun d hd e2 => by have := (World.ownsRow.lt (h.fam.each d hd) q e2).2; omega⟩
theorem Inn.done {w W W2 : World} {K : Nat} {v v2 : Value} {D : List (Ct × Value)} {f t : Int} {P : List Prt} {cp : Value} {o : Obj} (h : Inn w W K v D f t P cp)
    (h2 : W2.ownsRow w.heap.size 70 3 v2 (D.length + 1) (dcs D ++ [.int .i64 f, .int .i64 t, cp])) (hg : (W.alloc o).grownBy W2 v.ownBlock) (hne : ∀ k, v2.ownBlock = some k → v.ownBlock = some k ∨ W.heap.size + 1 ≤ k) :
    Fam W2 w.heap.size v2 (D ++ [(⟨f, t, P⟩, cp)]) ∧ Below w.heap.size w W2 := by
  have hsz : (W.alloc o).heap.size = W.heap.size + 1 := by simp
  have hba := alloc_below W o
  have hk2 : ∀ k, k < W.heap.size → v.ownBlock ≠ some k → W2.heap[k]? = W.heap[k]? := fun k hk hn => (hg.block k (by omega) (fun e => hn e.symm)).trans (hba.block k hk)
  have hB2 : Below w.heap.size w W2 := (h.below.trans (hba.mono h.below.size)).grown hg (by have := h.below.size; omega) (fun k e => (World.ownsRow.lt h.fam.row k e).1)
  refine ⟨⟨by rw [List.length_append, dcs_snoc]; exact h2, fun d hd => ?_, fun d hd k hk e => ?_⟩, hB2⟩
  · rcases List.mem_append.1 hd with hd | hd
    · exact own_keep (h.fam.each d hd) (fun k hk => hk2 k (World.ownsRow.lt (h.fam.each d hd) k hk).2 (h.fam.sep d hd k hk))
    · obtain rfl : d = (⟨f, t, P⟩, cp) := by simpa using hd
      exact own_keep h.own (fun k hk => hk2 k (World.ownsRow.lt h.own k hk).2 ((h.s1 k hk).2.1))
  · have hlt : k < W.heap.size := by
      rcases List.mem_append.1 hd with hd | hd
      · exact (World.ownsRow.lt (h.fam.each d hd) k hk).2
      · obtain rfl : d = (⟨f, t, P⟩, cp) := by simpa using hd
        exact (World.ownsRow.lt h.own k hk).2
    rcases hne k e with e2 | e2
    · rcases List.mem_append.1 hd with hd | hd
      · exact h.fam.sep d hd k hk e2
      · obtain rfl : d = (⟨f, t, P⟩, cp) := by simpa using hd
        exact (h.s1 k hk).2.1 e2
    · omega
end Go.Proofs.Ytlgjlfljohapfaa
