/-
  ast's levelOf, isOperator at every text: what they return; the world is as it was. (Written by wip/tools/genlvl10.py.)
  The operations of a region of ast: what each owes where its order is left open (calls that make memory, slices that are built, what is picked), and the marks that its temporaries bear (Sp).
  What is asked of the walk of each of ast's shape functions (CL), and how it serves as a function value (sf); the trees that so much fuel serves.
-/
import Derived.Test.YtkpddjbdmjbefaaGreatDoorNMade2
namespace Go.Proofs.YtkpddjbdmjbefaaGreatDoor
open Go.RowKit

set_option maxRecDepth 100000 in
set_option maxHeartbeats 4000000 in
theorem levelOf_any (s : ByteArray) (w : World) : Calls Tryz.prog 76 #[.string s] w fun e w' => e = .returned (.int .i64 (lvl s)) ∧ w = w' := by
  by_cases h0 : s.data.toList = [124, 124]
  · have HL : Hid (lvl s = 1) := Lib.hid (by unfold lvl wdB; rw [h0]; rfl)
    have e0 : (s.toList == [124, 124]) = true := tl_eq h0
    clear h0
    go_enter Tryz.func76, Tryz.ntmps76
    go_wp2_with fail
    go_ret
    exact ⟨by rw [HL.out]; rfl, rfl⟩
  by_cases h1 : s.data.toList = [38, 38]
  · have HL : Hid (lvl s = 2) := Lib.hid (by unfold lvl wdB; rw [h1]; rfl)
    have e0 : (s.toList == [124, 124]) = false := tl_no h0
    have e1 : (s.toList == [38, 38]) = true := tl_eq h1
    clear h0 h1
    go_enter Tryz.func76, Tryz.ntmps76
    go_wp2_with fail
    go_ret
    exact ⟨by rw [HL.out]; rfl, rfl⟩
  by_cases h2 : s.data.toList = [61, 61]
  · have HL : Hid (lvl s = 3) := Lib.hid (by unfold lvl wdB; rw [h2]; rfl)
    have e0 : (s.toList == [124, 124]) = false := tl_no h0
    have e1 : (s.toList == [38, 38]) = false := tl_no h1
    have e2 : (s.toList == [61, 61]) = true := tl_eq h2
    clear h0 h1 h2
    go_enter Tryz.func76, Tryz.ntmps76
    go_wp2_with fail
    go_ret
    exact ⟨by rw [HL.out]; rfl, rfl⟩
  by_cases h3 : s.data.toList = [33, 61]
  · have HL : Hid (lvl s = 3) := Lib.hid (by unfold lvl wdB; rw [h3]; rfl)
    have e0 : (s.toList == [124, 124]) = false := tl_no h0
    have e1 : (s.toList == [38, 38]) = false := tl_no h1
    have e2 : (s.toList == [61, 61]) = false := tl_no h2
    have e3 : (s.toList == [33, 61]) = true := tl_eq h3
    clear h0 h1 h2 h3
    go_enter Tryz.func76, Tryz.ntmps76
    go_wp2_with fail
    go_ret
    exact ⟨by rw [HL.out]; rfl, rfl⟩
  by_cases h4 : s.data.toList = [60]
  · have HL : Hid (lvl s = 3) := Lib.hid (by unfold lvl wdB; rw [h4]; rfl)
    have e0 : (s.toList == [124, 124]) = false := tl_no h0
    have e1 : (s.toList == [38, 38]) = false := tl_no h1
    have e2 : (s.toList == [61, 61]) = false := tl_no h2
    have e3 : (s.toList == [33, 61]) = false := tl_no h3
    have e4 : (s.toList == [60]) = true := tl_eq h4
    clear h0 h1 h2 h3 h4
    go_enter Tryz.func76, Tryz.ntmps76
    go_wp2_with fail
    go_ret
    exact ⟨by rw [HL.out]; rfl, rfl⟩
  by_cases h5 : s.data.toList = [60, 61]
  · have HL : Hid (lvl s = 3) := Lib.hid (by unfold lvl wdB; rw [h5]; rfl)
    have e0 : (s.toList == [124, 124]) = false := tl_no h0
    have e1 : (s.toList == [38, 38]) = false := tl_no h1
    have e2 : (s.toList == [61, 61]) = false := tl_no h2
    have e3 : (s.toList == [33, 61]) = false := tl_no h3
    have e4 : (s.toList == [60]) = false := tl_no h4
    have e5 : (s.toList == [60, 61]) = true := tl_eq h5
    clear h0 h1 h2 h3 h4 h5
    go_enter Tryz.func76, Tryz.ntmps76
    go_wp2_with fail
    go_ret
    exact ⟨by rw [HL.out]; rfl, rfl⟩
  by_cases h6 : s.data.toList = [62]
  · have HL : Hid (lvl s = 3) := Lib.hid (by unfold lvl wdB; rw [h6]; rfl)
    have e0 : (s.toList == [124, 124]) = false := tl_no h0
    have e1 : (s.toList == [38, 38]) = false := tl_no h1
    have e2 : (s.toList == [61, 61]) = false := tl_no h2
    have e3 : (s.toList == [33, 61]) = false := tl_no h3
    have e4 : (s.toList == [60]) = false := tl_no h4
    have e5 : (s.toList == [60, 61]) = false := tl_no h5
    have e6 : (s.toList == [62]) = true := tl_eq h6
    clear h0 h1 h2 h3 h4 h5 h6
    go_enter Tryz.func76, Tryz.ntmps76
    go_wp2_with fail
    go_ret
    exact ⟨by rw [HL.out]; rfl, rfl⟩
  by_cases h7 : s.data.toList = [62, 61]
  · have HL : Hid (lvl s = 3) := Lib.hid (by unfold lvl wdB; rw [h7]; rfl)
    have e0 : (s.toList == [124, 124]) = false := tl_no h0
    have e1 : (s.toList == [38, 38]) = false := tl_no h1
    have e2 : (s.toList == [61, 61]) = false := tl_no h2
    have e3 : (s.toList == [33, 61]) = false := tl_no h3
    have e4 : (s.toList == [60]) = false := tl_no h4
    have e5 : (s.toList == [60, 61]) = false := tl_no h5
    have e6 : (s.toList == [62]) = false := tl_no h6
    have e7 : (s.toList == [62, 61]) = true := tl_eq h7
    clear h0 h1 h2 h3 h4 h5 h6 h7
    go_enter Tryz.func76, Tryz.ntmps76
    go_wp2_with fail
    go_ret
    exact ⟨by rw [HL.out]; rfl, rfl⟩
  by_cases h8 : s.data.toList = [43]
  · have HL : Hid (lvl s = 4) := Lib.hid (by unfold lvl wdB; rw [h8]; rfl)
    have e0 : (s.toList == [124, 124]) = false := tl_no h0
    have e1 : (s.toList == [38, 38]) = false := tl_no h1
    have e2 : (s.toList == [61, 61]) = false := tl_no h2
    have e3 : (s.toList == [33, 61]) = false := tl_no h3
    have e4 : (s.toList == [60]) = false := tl_no h4
    have e5 : (s.toList == [60, 61]) = false := tl_no h5
    have e6 : (s.toList == [62]) = false := tl_no h6
    have e7 : (s.toList == [62, 61]) = false := tl_no h7
    have e8 : (s.toList == [43]) = true := tl_eq h8
    clear h0 h1 h2 h3 h4 h5 h6 h7 h8
    go_enter Tryz.func76, Tryz.ntmps76
    go_wp2_with fail
    go_ret
    exact ⟨by rw [HL.out]; rfl, rfl⟩
  by_cases h9 : s.data.toList = [45]
  · have HL : Hid (lvl s = 4) := Lib.hid (by unfold lvl wdB; rw [h9]; rfl)
    have e0 : (s.toList == [124, 124]) = false := tl_no h0
    have e1 : (s.toList == [38, 38]) = false := tl_no h1
    have e2 : (s.toList == [61, 61]) = false := tl_no h2
    have e3 : (s.toList == [33, 61]) = false := tl_no h3
    have e4 : (s.toList == [60]) = false := tl_no h4
    have e5 : (s.toList == [60, 61]) = false := tl_no h5
    have e6 : (s.toList == [62]) = false := tl_no h6
    have e7 : (s.toList == [62, 61]) = false := tl_no h7
    have e8 : (s.toList == [43]) = false := tl_no h8
    have e9 : (s.toList == [45]) = true := tl_eq h9
    clear h0 h1 h2 h3 h4 h5 h6 h7 h8 h9
    go_enter Tryz.func76, Tryz.ntmps76
    go_wp2_with fail
    go_ret
    exact ⟨by rw [HL.out]; rfl, rfl⟩
  by_cases h10 : s.data.toList = [42]
  · have HL : Hid (lvl s = 5) := Lib.hid (by unfold lvl wdB; rw [h10]; rfl)
    have e0 : (s.toList == [124, 124]) = false := tl_no h0
    have e1 : (s.toList == [38, 38]) = false := tl_no h1
    have e2 : (s.toList == [61, 61]) = false := tl_no h2
    have e3 : (s.toList == [33, 61]) = false := tl_no h3
    have e4 : (s.toList == [60]) = false := tl_no h4
    have e5 : (s.toList == [60, 61]) = false := tl_no h5
    have e6 : (s.toList == [62]) = false := tl_no h6
    have e7 : (s.toList == [62, 61]) = false := tl_no h7
    have e8 : (s.toList == [43]) = false := tl_no h8
    have e9 : (s.toList == [45]) = false := tl_no h9
    have e10 : (s.toList == [42]) = true := tl_eq h10
    clear h0 h1 h2 h3 h4 h5 h6 h7 h8 h9 h10
    go_enter Tryz.func76, Tryz.ntmps76
    go_wp2_with fail
    go_ret
    exact ⟨by rw [HL.out]; rfl, rfl⟩
  by_cases h11 : s.data.toList = [47]
  · have HL : Hid (lvl s = 5) := Lib.hid (by unfold lvl wdB; rw [h11]; rfl)
    have e0 : (s.toList == [124, 124]) = false := tl_no h0
    have e1 : (s.toList == [38, 38]) = false := tl_no h1
    have e2 : (s.toList == [61, 61]) = false := tl_no h2
    have e3 : (s.toList == [33, 61]) = false := tl_no h3
    have e4 : (s.toList == [60]) = false := tl_no h4
    have e5 : (s.toList == [60, 61]) = false := tl_no h5
    have e6 : (s.toList == [62]) = false := tl_no h6
    have e7 : (s.toList == [62, 61]) = false := tl_no h7
    have e8 : (s.toList == [43]) = false := tl_no h8
    have e9 : (s.toList == [45]) = false := tl_no h9
    have e10 : (s.toList == [42]) = false := tl_no h10
    have e11 : (s.toList == [47]) = true := tl_eq h11
    clear h0 h1 h2 h3 h4 h5 h6 h7 h8 h9 h10 h11
    go_enter Tryz.func76, Tryz.ntmps76
    go_wp2_with fail
    go_ret
    exact ⟨by rw [HL.out]; rfl, rfl⟩
  by_cases h12 : s.data.toList = [37]
  · have HL : Hid (lvl s = 5) := Lib.hid (by unfold lvl wdB; rw [h12]; rfl)
    have e0 : (s.toList == [124, 124]) = false := tl_no h0
    have e1 : (s.toList == [38, 38]) = false := tl_no h1
    have e2 : (s.toList == [61, 61]) = false := tl_no h2
    have e3 : (s.toList == [33, 61]) = false := tl_no h3
    have e4 : (s.toList == [60]) = false := tl_no h4
    have e5 : (s.toList == [60, 61]) = false := tl_no h5
    have e6 : (s.toList == [62]) = false := tl_no h6
    have e7 : (s.toList == [62, 61]) = false := tl_no h7
    have e8 : (s.toList == [43]) = false := tl_no h8
    have e9 : (s.toList == [45]) = false := tl_no h9
    have e10 : (s.toList == [42]) = false := tl_no h10
    have e11 : (s.toList == [47]) = false := tl_no h11
    have e12 : (s.toList == [37]) = true := tl_eq h12
    clear h0 h1 h2 h3 h4 h5 h6 h7 h8 h9 h10 h11 h12
    go_enter Tryz.func76, Tryz.ntmps76
    go_wp2_with fail
    go_ret
    exact ⟨by rw [HL.out]; rfl, rfl⟩
  have HL : Hid (lvl s = 0) := Lib.hid (by unfold lvl wdB; simp [h0, h1, h2, h3, h4, h5, h6, h7, h8, h9, h10, h11, h12])
  have e0 : (s.toList == [124, 124]) = false := tl_no h0
  have e1 : (s.toList == [38, 38]) = false := tl_no h1
  have e2 : (s.toList == [61, 61]) = false := tl_no h2
  have e3 : (s.toList == [33, 61]) = false := tl_no h3
  have e4 : (s.toList == [60]) = false := tl_no h4
  have e5 : (s.toList == [60, 61]) = false := tl_no h5
  have e6 : (s.toList == [62]) = false := tl_no h6
  have e7 : (s.toList == [62, 61]) = false := tl_no h7
  have e8 : (s.toList == [43]) = false := tl_no h8
  have e9 : (s.toList == [45]) = false := tl_no h9
  have e10 : (s.toList == [42]) = false := tl_no h10
  have e11 : (s.toList == [47]) = false := tl_no h11
  have e12 : (s.toList == [37]) = false := tl_no h12
  clear h0 h1 h2 h3 h4 h5 h6 h7 h8 h9 h10 h11 h12
  go_enter Tryz.func76, Tryz.ntmps76
  go_wp2_with fail
  go_ret
  exact ⟨by rw [HL.out]; rfl, rfl⟩
theorem lvl_bound (s : ByteArray) : 0 ≤ lvl s ∧ lvl s ≤ 5 := by
  unfold lvl
  repeat' split
  all_goals omega
set_option maxRecDepth 100000 in
theorem isOperator_any (s : ByteArray) (w : World) : Calls Tryz.prog 77 #[.string s] w fun e w' => e = .returned (.bool (opB s)) ∧ Below w.heap.size w w' := by
  have HC := Lib.hid (levelOf_any s w)
  have HO : Hid (opB s = decide (0 < lvl s)) := Lib.hid rfl
  generalize lvl s = k at *
  by_cases h : 0 < k
  · have HD : Hid (decide (0 < k) = true) := Lib.hid (by simpa using h)
    go_enter Tryz.func77, Tryz.ntmps77
    go_wp2_with fail
    refine HC.out.mono ?_
    rintro e w' ⟨rfl, rfl⟩
    go_wp2_with fail
    go_ret
    exact ⟨by rw [HO.out, HD.out]; rfl, Below.refl _ _⟩
  · have HD : Hid (decide (0 < k) = false) := Lib.hid (by simpa using h)
    go_enter Tryz.func77, Tryz.ntmps77
    go_wp2_with fail
    refine HC.out.mono ?_
    rintro e w' ⟨rfl, rfl⟩
    go_wp2_with fail
    go_ret
    exact ⟨by rw [HO.out, HD.out]; rfl, Below.refl _ _⟩
theorem nm_op (O : ByteArray → Prop) (w : World) : NmV O w (.func (.func 77) #[] #[]) opB :=
  ⟨_, _, rfl, enters_of Tryz.func77 (by kernel_rfl) rfl, fun W _ s _ _ => isOperator_any s W⟩
end Go.Proofs.YtkpddjbdmjbefaaGreatDoor
namespace Go.Proofs.YtkpddjbdmjbefaaGreatDoor
open Go.RowKit

/-- What a temporary holds. -/
inductive Sp where
  | c (v : Value) | tree (T : Nd) | fn (σ : Nd → Bool) | pt (π : List Nd → Option (List Nd)) | nm (μ : ByteArray → Bool) | frow (ss : List (Nd → Bool)) | prow (ps : List (List Nd → Option (List Nd))) | wrow (ws : List ByteArray) | any
def Sp.holds (D : Nd → Prop) (O : ByteArray → Prop) : Sp → World → Value → Prop
  | .c v, _, u => u = v
  | .tree T, w, u => NIn w TT T u
  | .fn σ, w, u => FnV D w u σ
  | .pt π, w, u => PtV D w u π
  | .nm μ, w, u => NmV O w u μ
  | .frow ss, w, u => ∃ A c, u = .slice A ss.length c ∧ FRow D w ss A
  | .prow ps, w, u => ∃ A c, u = .slice A ps.length c ∧ PRow D w ps A
  | .wrow ws, w, u => ∃ A c, u = .slice A ws.length c ∧ WRow w ws A
  | .any, _, _ => True
theorem Sp.mono (D : Nd → Prop) (O : ByteArray → Prop) (s : Sp) {w w' : World} {v : Value} (h : s.holds D O w v) (hb : Below w.heap.size w w') : s.holds D O w' v := by
  cases s with
  | c u => exact h
  | tree T => exact NIn.below h hb
  | fn σ => exact FnV.below h hb
  | pt π => exact PtV.below h hb
  | nm μ => exact NmV.below h hb
  | frow ss => obtain ⟨A, c, e, h⟩ := h; exact ⟨A, c, e, h.below hb⟩
  | prow ss => obtain ⟨A, c, e, h⟩ := h; exact ⟨A, c, e, h.below hb⟩
  | wrow ss => obtain ⟨A, c, e, h⟩ := h; exact ⟨A, c, e, h.below hb⟩
  | any => trivial
section
variable {P : Program} {ops : Array Oper} {Q : Exit → Act → World → Prop}
/-- An operation that gives a value. -/
theorem rop_val {i d : Nat} {o : Oper} {a : Act} {w w' : World} {v : Value} {φ : World → Value → Prop} (ho : ops[i]? = some o) (hd : o.dst = some d) (hw : Region.wanted o (yielded ops a.tmps) = true)
    (hr : (execOp a.eval o).run P w = .ok (.value v) w') (hφ : φ w' v) (hb : Below w.heap.size w w') :
    wpOp P ops Q i (fun a' w'' => ∃ v, a' = a.put (some d) v ∧ φ w'' v ∧ Below w.heap.size w w'') a w := by
  unfold wpOp
  rw [ho]
  simp only [hw, if_true]
  refine Or.inl ?_
  unfold Oper.wp
  rw [hr, Oper.upon_value, hd]
  exact ⟨v, rfl, hφ, hb⟩
/-- An operation that enters a call. -/
theorem rop_call {i d : Nat} {o : Oper} {a : Act} {w : World} {f : FuncId} {args : Array Value} {φ : World → Value → Prop} (ho : ops[i]? = some o) (hd : o.dst = some d) (hw : Region.wanted o (yielded ops a.tmps) = true)
    (hr : (execOp a.eval o).run P w = .ok (.enter f args) w) (hc : Calls P f args w fun e w' => ∃ v, e = .returned v ∧ φ w' v ∧ Below w.heap.size w w') :
    wpOp P ops Q i (fun a' w'' => ∃ v, a' = a.put (some d) v ∧ φ w'' v ∧ Below w.heap.size w w'') a w := by
  unfold wpOp
  rw [ho]
  simp only [hw, if_true]
  refine Or.inl ?_
  unfold Oper.wp
  rw [hr, Oper.upon_enter]
  refine hc.mono ?_
  rintro e w' ⟨v, rfl, hφ, hb⟩
  rw [hd]
  exact ⟨v, rfl, hφ, hb⟩
/-- Function values, one by one. -/
def FAll (D : Nd → Prop) (w : World) : List Value → List (Nd → Bool) → Prop
  | [], [] => True
  | v :: vs, s :: ss => FnV D w v s ∧ FAll D w vs ss
  | _, _ => False
theorem FAll.get {D : Nd → Prop} {w : World} : ∀ {vs : List Value} {ss : List (Nd → Bool)}, FAll D w vs ss → ∀ (i : Nat) (s : Nd → Bool), ss[i]? = some s → ∃ v, vs[i]? = some v ∧ FnV D w v s
  | [], [], _, i, s, h => by simp at h
  | v :: vs, s0 :: ss, hh, 0, s, h => by
    obtain rfl : s0 = s := by simpa using h
    exact ⟨v, rfl, hh.1⟩
  | v :: vs, s0 :: ss, hh, i + 1, s, h => by
    obtain ⟨u, h1, h2⟩ := FAll.get hh.2 i s (by simpa using h)
    exact ⟨u, by simpa using h1, h2⟩
def PAll (D : Nd → Prop) (w : World) : List Value → List (List Nd → Option (List Nd)) → Prop
  | [], [] => True
  | v :: vs, s :: ss => PtV D w v s ∧ PAll D w vs ss
  | _, _ => False
theorem PAll.get {D : Nd → Prop} {w : World} : ∀ {vs : List Value} {ss : List (List Nd → Option (List Nd))}, PAll D w vs ss → ∀ (i : Nat) (s : List Nd → Option (List Nd)), ss[i]? = some s → ∃ v, vs[i]? = some v ∧ PtV D w v s
  | [], [], _, i, s, h => by simp at h
  | v :: vs, s0 :: ss, hh, 0, s, h => by
    obtain rfl : s0 = s := by simpa using h
    exact ⟨v, rfl, hh.1⟩
  | v :: vs, s0 :: ss, hh, i + 1, s, h => by
    obtain ⟨u, h1, h2⟩ := PAll.get hh.2 i s (by simpa using h)
    exact ⟨u, by simpa using h1, h2⟩
theorem alloc_cell (w : World) (vs : Array Value) (t : TypeId) {i : Nat} {v : Value} (h : vs.toList[i]? = some v) : (w.alloc (.cells vs t)).cell? ⟨w.heap.size, 0 + i, none⟩ = some v := by
  unfold World.cell?
  rw [alloc_top w vs t]
  simp only [Nat.zero_add]
  rw [← Array.getElem?_toList]
  exact h
theorem frow_of {D : Nd → Prop} {w : World} {vs : Array Value} {t : TypeId} {ss : List (Nd → Bool)} (h : FAll D w vs.toList ss) : FRow D (w.alloc (.cells vs t)) ss (some ⟨w.heap.size, 0, none⟩) := by
  intro _
  refine ⟨w.heap.size, 0, rfl, fun i s hi => ?_⟩
  obtain ⟨v, h1, h2⟩ := h.get i s hi
  exact ⟨v, alloc_cell w vs t h1, h2.below (alloc_below w _)⟩
theorem prow_of {D : Nd → Prop} {w : World} {vs : Array Value} {t : TypeId} {ss : List (List Nd → Option (List Nd))} (h : PAll D w vs.toList ss) : PRow D (w.alloc (.cells vs t)) ss (some ⟨w.heap.size, 0, none⟩) := by
  intro _
  refine ⟨w.heap.size, 0, rfl, fun i s hi => ?_⟩
  obtain ⟨v, h1, h2⟩ := h.get i s hi
  exact ⟨v, alloc_cell w vs t h1, h2.below (alloc_below w _)⟩
theorem wrow_of {w : World} {vs : Array Value} {t : TypeId} {ss : List ByteArray} (h : vs.toList = ss.map Value.string) : WRow (w.alloc (.cells vs t)) ss (some ⟨w.heap.size, 0, none⟩) := by
  intro _
  refine ⟨w.heap.size, 0, rfl, fun i s hi => alloc_cell w vs t ?_⟩
  rw [h, List.getElem?_map, hi]; rfl
theorem prow_nil {D : Nd → Prop} {w : World} (A : Option Addr) : PRow D w [] A := fun h => absurd h (by simp)
theorem getD_q {T : Array Value} {t : Nat} {v : Value} (h : T.getD t undef = v) : T[t]?.getD undef = v := by
  rw [← Array.getD_eq_getD_getElem?]; exact h
theorem getD_some {T : Array Value} {t : Nat} {b : Bool} (h : T.getD t undef = .bool b) : T[t]? = some (.bool b) := by
  rw [Array.getD_eq_getD_getElem?] at h
  cases hx : T[t]? with
  | none => rw [hx] at h; cases h
  | some v => rw [hx] at h; exact congrArg some h
theorem wanted_of {o : Oper} {j d : Nat} {b : Bool} {T : Array Value} (hg : o.guard = some (j, b)) (hd : (ops[j]?).bind (·.dst) = some d) (h : T.getD d undef = .bool b) : Region.wanted o (yielded ops T) = true := by
  unfold Region.wanted yielded
  rw [hg]
  simp only [hd, Option.bind_some, getD_some h]
  simp
end
end Go.Proofs.YtkpddjbdmjbefaaGreatDoor
namespace Go.Proofs.YtkpddjbdmjbefaaGreatDoor
open Go.RowKit

mutual
/-- All names of a tree. -/
def allN (O : ByteArray → Prop) : Nd → Prop
  | .mk _ _ _ _ s l => O s ∧ allL O l
def allL (O : ByteArray → Prop) : List Nd → Prop
  | [] => True
  | n :: l => allN O n ∧ allL O l
end
theorem allN_eq {O : ByteArray → Prop} {n : Nd} (h : allN O n) : O n.name ∧ allL O n.kids := by
  cases n
  rw [allN] at h
  exact h
theorem allL_mem {O : ByteArray → Prop} : ∀ {l : List Nd}, allL O l → ∀ t ∈ l, allN O t
  | [], _, t, ht => by cases ht
  | n :: l, h, t, ht => by
    rw [allL] at h
    rcases List.mem_cons.1 ht with rfl | ht
    · exact h.1
    · exact allL_mem h.2 t ht
/-- The trees that so much fuel serves. -/
def DD (O : ByteArray → Prop) (f : Nat) (T : Nd) : Prop := 8 * sz T + 6 ≤ f ∧ sz T ≤ 100000 ∧ allN O T
/-- What is asked of a tree, so much fuel and a word's rank. -/
structure Fit (O : ByteArray → Prop) (f r : Nat) (n : Nd) : Prop where
  fuel : 8 * sz n + r ≤ f
  size : sz n ≤ 100000
  names : allN O n
theorem Fit.kid {O : ByteArray → Prop} {f r : Nat} {n : Nd} (h : Fit O (f + 1) r n) : ∀ t ∈ n.kids, DD O f t := by
  intro t ht
  obtain ⟨i, hi, rfl⟩ := List.getElem_of_mem ht
  have := sz_kid (n := n) (List.getElem?_eq_getElem hi)
  have h1 := h.fuel
  have h2 := h.size
  exact ⟨by omega, by omega, allL_mem (allN_eq h.names).2 _ ht⟩
theorem Fit.lim {O : ByteArray → Prop} {f r : Nat} {n : Nd} (h : Fit O f r n) : n.name.size ≤ 1000000 ∧ n.kids.length ≤ 1000000 ∧ O n.name := by
  have h1 := sz_eq n
  have h2 := szL_len n.kids
  have h3 := h.size
  exact ⟨by omega, by omega, (allN_eq h.names).1⟩
theorem Fit.same {O : ByteArray → Prop} {f r r' : Nat} {n : Nd} (h : Fit O (f + 1) r n) (hr : r' < r) : Fit O f r' n := by
  have := h.fuel
  exact ⟨by omega, h.size, h.names⟩
theorem DD.fit {O : ByteArray → Prop} {f r : Nat} {n : Nd} (h : DD O f n) (hr : r ≤ 6) : Fit O f r n := ⟨by have := h.1; omega, h.2.1, h.2.2⟩
/-- A function tells of trees what a word does. -/
def CL (FAC : World → Prop) (tk : Int → ByteArray → Bool) (O : ByteArray → Prop) (f : Nat) (g : FuncId) (c : Sc) : Prop := ∀ (n : Nd) (nv : Value) (w : World), FAC w → Fit O f c.rank n → NIn w TT n nv →
  Calls Tryz.prog g #[nv] w fun e w' => e = .returned (.bool (shp tk f c n)) ∧ Below w.heap.size w w'
theorem rank_le (c : Sc) : c.rank ≤ 6 := by cases c <;> simp [Sc.rank]
theorem CL.sf_of {FAC : World → Prop} {tk : Int → ByteArray → Bool} {O : ByteArray → Prop} {f : Nat} {g : FuncId} {c : Sc} (keepF : ∀ w w', FAC w → Below w.heap.size w w' → FAC w') (he : Enters Tryz.prog g) (h : CL FAC tk O f g c) (W : World) (hW : FAC W) :
    FnV (DD O f) W (.func (.func g) #[] #[]) (shp tk f c) :=
  ⟨g, #[], rfl, he, fun w hw T u hD hn => h T u w (keepF _ _ hW hw) (hD.fit (rank_le c)) hn⟩
/-- The same, with what makes it a function value. -/
structure SL (FAC : World → Prop) (tk : Int → ByteArray → Bool) (O : ByteArray → Prop) (f : Nat) (g : FuncId) (c : Sc) : Prop where
  cl : CL FAC tk O f g c
  sf : ∀ W, FAC W → FnV (DD O f) W (.func (.func g) #[] #[]) (shp tk f c)
theorem SL.of {FAC : World → Prop} {tk : Int → ByteArray → Bool} {O : ByteArray → Prop} {f : Nat} {g : FuncId} {c : Sc} (keepF : ∀ w w', FAC w → Below w.heap.size w w' → FAC w') (he : Enters Tryz.prog g) (h : CL FAC tk O f g c) : SL FAC tk O f g c :=
  ⟨h, fun W hW => h.sf_of keepF he W hW⟩
/-- A maker of function values tells of trees so. -/
def Six (W : World) (N : Nat) (n : Nd) (ia : Option Addr) (ic : Nat) : Prop :=
  W.cell? ⟨N, 0, none⟩ = some (.int .i64 n.kind) ∧ W.cell? ⟨N, 1, none⟩ = some (.int .i64 n.fro) ∧ W.cell? ⟨N, 2, none⟩ = some (.int .i64 n.till) ∧ W.cell? ⟨N, 3, none⟩ = some (.int .i64 n.at') ∧ W.cell? ⟨N, 4, none⟩ = some (.string n.name) ∧ W.cell? ⟨N, 5, none⟩ = some (.slice ia n.kids.length ic)
theorem six_keep {W W' : World} {N : Nat} {a b c d e g : Value} (h : W.cell? ⟨N, 0, none⟩ = some a ∧ W.cell? ⟨N, 1, none⟩ = some b ∧ W.cell? ⟨N, 2, none⟩ = some c ∧ W.cell? ⟨N, 3, none⟩ = some d ∧ W.cell? ⟨N, 4, none⟩ = some e ∧ W.cell? ⟨N, 5, none⟩ = some g) (k : Below W.heap.size W W') :
    W'.cell? ⟨N, 0, none⟩ = some a ∧ W'.cell? ⟨N, 1, none⟩ = some b ∧ W'.cell? ⟨N, 2, none⟩ = some c ∧ W'.cell? ⟨N, 3, none⟩ = some d ∧ W'.cell? ⟨N, 4, none⟩ = some e ∧ W'.cell? ⟨N, 5, none⟩ = some g :=
  ⟨cell_kept h.1 rfl k, cell_kept h.2.1 rfl k, cell_kept h.2.2.1 rfl k, cell_kept h.2.2.2.1 rfl k, cell_kept h.2.2.2.2.1 rfl k, cell_kept h.2.2.2.2.2 rfl k⟩
section
variable {P : Program} {ops : Array Oper} {Q : Exit → Act → World → Prop}
/-- An operation that is not wanted. -/
theorem rop_skip {i d : Nat} {o : Oper} {a : Act} {w : World} {φ : World → Value → Prop} (ho : ops[i]? = some o) (hd : o.dst = some d) (hw : Region.wanted o (yielded ops a.tmps) = false) (hφ : φ w undef) :
    wpOp P ops Q i (fun a' w'' => ∃ v, a' = a.put (some d) v ∧ φ w'' v ∧ Below w.heap.size w w'') a w := by
  unfold wpOp
  rw [ho]
  simp only [hw, Bool.false_eq_true, if_false]
  rw [hd]
  exact ⟨undef, rfl, hφ, Below.refl _ _⟩
theorem unwanted_of {o : Oper} {j d : Nat} {b b' : Bool} {T : Array Value} (hg : o.guard = some (j, b)) (hd : (ops[j]?).bind (·.dst) = some d) (h : T.getD d undef = .bool b') (hne : b' ≠ b) : Region.wanted o (yielded ops T) = false := by
  unfold Region.wanted yielded
  rw [hg]
  simp only [hd, Option.bind_some, getD_some h]
  cases b <;> cases b' <;> simp_all
theorem unwanted_undef {o : Oper} {j d : Nat} {b : Bool} {T : Array Value} (hg : o.guard = some (j, b)) (hd : (ops[j]?).bind (·.dst) = some d) (h : T.getD d undef = undef) : Region.wanted o (yielded ops T) = false := by
  unfold Region.wanted yielded
  rw [hg]
  simp only [hd, Option.bind_some]
  rw [Array.getD_eq_getD_getElem?] at h
  cases hx : T[d]? with
  | none => simp
  | some v =>
    rw [hx] at h
    obtain rfl : v = undef := h
    rfl
end
end Go.Proofs.YtkpddjbdmjbefaaGreatDoor
