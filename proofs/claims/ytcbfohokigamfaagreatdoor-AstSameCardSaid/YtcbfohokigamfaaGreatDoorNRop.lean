/-
  The operations of a region of ast: what each owes where its order is left open (calls that make memory, slices that are built, what is picked), and the marks that its temporaries bear (Sp).
-/
import Derived.Test.YtcbfohokigamfaaGreatDoorNLvl
namespace Go.Proofs.YtcbfohokigamfaaGreatDoor
open Go.RowKit

/-- What a temporary holds. -/
inductive Sp where
  | c (v : Value) | tree (T : Nd) | fn (σ : Nd → Bool) | pt (π : List Nd → Option (List Nd)) | nm (μ : ByteArray → Bool) | frow (ss : List (Nd → Bool)) | prow (ps : List (List Nd → Option (List Nd))) | wrow (ws : List ByteArray) | any
def Sp.holds (D : Nd → Prop) (O : ByteArray → Prop) : Sp → World → Value → Prop
  | .c v, _, u => u = v
  | .tree T, w, u => NIn w TT T u
  | .fn σ, w, u => FnV D w u σ
  | .pt π, w, u => PtV D w u π
  | .nm μ, w, u => NmV O w u μ
  | .frow ss, w, u => ∃ A c, u = .slice A ss.length c ∧ FRow D w ss A
  | .prow ps, w, u => ∃ A c, u = .slice A ps.length c ∧ PRow D w ps A
  | .wrow ws, w, u => ∃ A c, u = .slice A ws.length c ∧ WRow w ws A
  | .any, _, _ => True
theorem Sp.mono (D : Nd → Prop) (O : ByteArray → Prop) (s : Sp) {w w' : World} {v : Value} (h : s.holds D O w v) (hb : Below w.heap.size w w') : s.holds D O w' v := by
  cases s with
  | c u => exact h
  | tree T => exact NIn.below h hb
  | fn σ => exact FnV.below h hb
  | pt π => exact PtV.below h hb
  | nm μ => exact NmV.below h hb
  | frow ss => obtain ⟨A, c, e, h⟩ := h; exact ⟨A, c, e, h.below hb⟩
  | prow ss => obtain ⟨A, c, e, h⟩ := h; exact ⟨A, c, e, h.below hb⟩
  | wrow ss => obtain ⟨A, c, e, h⟩ := h; exact ⟨A, c, e, h.below hb⟩
  | any => trivial
section
variable {P : Program} {ops : Array Oper} {Q : Exit → Act → World → Prop}
/-- An operation that gives a value. -/
theorem rop_val {i d : Nat} {o : Oper} {a : Act} {w w' : World} {v : Value} {φ : World → Value → Prop} (ho : ops[i]? = some o) (hd : o.dst = some d) (hw : Region.wanted o (yielded ops a.tmps) = true)
    (hr : (execOp a.eval o).run P w = .ok (.value v) w') (hφ : φ w' v) (hb : Below w.heap.size w w') :
    wpOp P ops Q i (fun a' w'' => ∃ v, a' = a.put (some d) v ∧ φ w'' v ∧ Below w.heap.size w w'') a w := by
  unfold wpOp
  rw [ho]
  simp only [hw, if_true]
  refine Or.inl ?_
  unfold Oper.wp
  rw [hr, Oper.upon_value, hd]
  exact ⟨v, rfl, hφ, hb⟩
/-- An operation that enters a call. -/
theorem rop_call {i d : Nat} {o : Oper} {a : Act} {w : World} {f : FuncId} {args : Array Value} {φ : World → Value → Prop} (ho : ops[i]? = some o) (hd : o.dst = some d) (hw : Region.wanted o (yielded ops a.tmps) = true)
    (hr : (execOp a.eval o).run P w = .ok (.enter f args) w) (hc : Calls P f args w fun e w' => ∃ v, e = .returned v ∧ φ w' v ∧ Below w.heap.size w w') :
    wpOp P ops Q i (fun a' w'' => ∃ v, a' = a.put (some d) v ∧ φ w'' v ∧ Below w.heap.size w w'') a w := by
  unfold wpOp
  rw [ho]
  simp only [hw, if_true]
  refine Or.inl ?_
  unfold Oper.wp
  rw [hr, Oper.upon_enter]
  refine hc.mono ?_
  rintro e w' ⟨v, rfl, hφ, hb⟩
  rw [hd]
  exact ⟨v, rfl, hφ, hb⟩
/-- Function values, one by one. -/
def FAll (D : Nd → Prop) (w : World) : List Value → List (Nd → Bool) → Prop
  | [], [] => True
  | v :: vs, s :: ss => FnV D w v s ∧ FAll D w vs ss
  | _, _ => False
theorem FAll.get {D : Nd → Prop} {w : World} : ∀ {vs : List Value} {ss : List (Nd → Bool)}, FAll D w vs ss → ∀ (i : Nat) (s : Nd → Bool), ss[i]? = some s → ∃ v, vs[i]? = some v ∧ FnV D w v s
  | [], [], _, i, s, h => by simp at h
  | v :: vs, s0 :: ss, hh, 0, s, h => by
    obtain rfl : s0 = s := by simpa using h
    exact ⟨v, rfl, hh.1⟩
  | v :: vs, s0 :: ss, hh, i + 1, s, h => by
    obtain ⟨u, h1, h2⟩ := FAll.get hh.2 i s (by simpa using h)
    exact ⟨u, by simpa using h1, h2⟩
def PAll (D : Nd → Prop) (w : World) : List Value → List (List Nd → Option (List Nd)) → Prop
  | [], [] => True
  | v :: vs, s :: ss => PtV D w v s ∧ PAll D w vs ss
  | _, _ => False
theorem PAll.get {D : Nd → Prop} {w : World} : ∀ {vs : List Value} {ss : List (List Nd → Option (List Nd))}, PAll D w vs ss → ∀ (i : Nat) (s : List Nd → Option (List Nd)), ss[i]? = some s → ∃ v, vs[i]? = some v ∧ PtV D w v s
  | [], [], _, i, s, h => by simp at h
  | v :: vs, s0 :: ss, hh, 0, s, h => by
    obtain rfl : s0 = s := by simpa using h
    exact ⟨v, rfl, hh.1⟩
  | v :: vs, s0 :: ss, hh, i + 1, s, h => by
    obtain ⟨u, h1, h2⟩ := PAll.get hh.2 i s (by simpa using h)
    exact ⟨u, by simpa using h1, h2⟩
theorem alloc_cell (w : World) (vs : Array Value) (t : TypeId) {i : Nat} {v : Value} (h : vs.toList[i]? = some v) : (w.alloc (.cells vs t)).cell? ⟨w.heap.size, 0 + i, none⟩ = some v := by
  unfold World.cell?
  rw [alloc_top w vs t]
  simp only [Nat.zero_add]
  rw [← Array.getElem?_toList]
  exact h
theorem frow_of {D : Nd → Prop} {w : World} {vs : Array Value} {t : TypeId} {ss : List (Nd → Bool)} (h : FAll D w vs.toList ss) : FRow D (w.alloc (.cells vs t)) ss (some ⟨w.heap.size, 0, none⟩) := by
  intro _
  refine ⟨w.heap.size, 0, rfl, fun i s hi => ?_⟩
  obtain ⟨v, h1, h2⟩ := h.get i s hi
  exact ⟨v, alloc_cell w vs t h1, h2.below (alloc_below w _)⟩
theorem prow_of {D : Nd → Prop} {w : World} {vs : Array Value} {t : TypeId} {ss : List (List Nd → Option (List Nd))} (h : PAll D w vs.toList ss) : PRow D (w.alloc (.cells vs t)) ss (some ⟨w.heap.size, 0, none⟩) := by
  intro _
  refine ⟨w.heap.size, 0, rfl, fun i s hi => ?_⟩
  obtain ⟨v, h1, h2⟩ := h.get i s hi
  exact ⟨v, alloc_cell w vs t h1, h2.below (alloc_below w _)⟩
theorem wrow_of {w : World} {vs : Array Value} {t : TypeId} {ss : List ByteArray} (h : vs.toList = ss.map Value.string) : WRow (w.alloc (.cells vs t)) ss (some ⟨w.heap.size, 0, none⟩) := by
  intro _
  refine ⟨w.heap.size, 0, rfl, fun i s hi => alloc_cell w vs t ?_⟩
  rw [h, List.getElem?_map, hi]; rfl
theorem prow_nil {D : Nd → Prop} {w : World} (A : Option Addr) : PRow D w [] A := fun h => absurd h (by simp)
theorem getD_q {T : Array Value} {t : Nat} {v : Value} (h : T.getD t undef = v) : T[t]?.getD undef = v := by
  rw [← Array.getD_eq_getD_getElem?]; exact h
theorem getD_some {T : Array Value} {t : Nat} {b : Bool} (h : T.getD t undef = .bool b) : T[t]? = some (.bool b) := by
  rw [Array.getD_eq_getD_getElem?] at h
  cases hx : T[t]? with
  | none => rw [hx] at h; cases h
  | some v => rw [hx] at h; exact congrArg some h
theorem wanted_of {o : Oper} {j d : Nat} {b : Bool} {T : Array Value} (hg : o.guard = some (j, b)) (hd : (ops[j]?).bind (·.dst) = some d) (h : T.getD d undef = .bool b) : Region.wanted o (yielded ops T) = true := by
  unfold Region.wanted yielded
  rw [hg]
  simp only [hd, Option.bind_some, getD_some h]
  simp
end
end Go.Proofs.YtcbfohokigamfaaGreatDoor
