/-
  frame's New, isMade, Push, Held, Broken, breakUp OF A READER THAT LIES IN MEMORY: what they answer, what is held then; nothing that was there turns but the reader's block and its row's. Condition: how many bytes are held.
-/
import Derived.Test.YtmaihiklcdidbaaDoorReader
import Derived.LaidEqlPtr
namespace Go.Proofs.YtmaihiklcdidbaaDoor
open Go.RowKit

/-- A reader at block R, its row (if it has one) in block g. -/
def RdIn (W : World) (R : Nat) (g : Option Nat) : RS → Prop
  | .live l => ∃ v, ∃ p : Nat, W.heap[R]? = some (.cells #[.pointer (some ⟨R, 0, none⟩), v, .int .i64 (p : Int), .bool false, .int .i64 0] 52 (0, 0)) ∧ Row W v l ∧ p ≤ l.length ∧ v.ownBlock = g ∧ g ≠ some R ∧ l.length ≤ 100000000
  | .dead n => ∃ p : Nat, W.heap[R]? = some (.cells #[.pointer (some ⟨R, 0, none⟩), .slice none 0 0, .int .i64 (p : Int), .bool true, .int .i64 (n : Int)] 52 (0, 0)) ∧ g = none
def rdX (R : Nat) (g : Option Nat) (k : Nat) : Prop := k = R ∨ g = some k
/-- What a step of a reader leaves. -/
def RdEnd (w : World) (R : Nat) (g : Option Nat) (r : RS) (w' : World) : Prop := ∃ g', (∀ k, g' = some k → g = some k ∨ w.heap.size ≤ k) ∧ RdIn w' R g' r ∧ Fr (rdX R g) w w'
theorem RdIn.lt {W : World} {R : Nat} {g : Option Nat} {r : RS} (h : RdIn W R g r) : R < W.heap.size := by
  cases r with
  | live l => obtain ⟨v, p, h, _⟩ := h; exact heap_lt h
  | dead n => obtain ⟨p, h, _⟩ := h; exact heap_lt h
theorem RdIn.keep {W W' : World} {R : Nat} {g : Option Nat} {r : RS} (h : RdIn W R g r) (hs : W.heap.size ≤ W'.heap.size) (hk : ∀ k, k < W.heap.size → rdX R g k → W'.heap[k]? = W.heap[k]?) : RdIn W' R g r := by
  have hlt := h.lt
  cases r with
  | live l =>
    obtain ⟨v, p, h1, h2, h3, h4, h5⟩ := h
    exact ⟨v, p, (hk R hlt (.inl rfl)).trans h1, h2.keep hs (fun k hk2 hv => hk k hk2 (.inr (h4 ▸ hv))), h3, h4, h5⟩
  | dead n =>
    obtain ⟨p, h1, h2⟩ := h
    exact ⟨p, (hk R hlt (.inl rfl)).trans h1, h2⟩
/-- A reader's blocks are there. -/
theorem RdIn.foot {W : World} {R : Nat} {g : Option Nat} {r : RS} (h : RdIn W R g r) {k : Nat} (hk : rdX R g k) : k < W.heap.size := by
  rcases hk with hk | hk
  · rw [hk]; exact h.lt
  · cases r with
    | live l => obtain ⟨v, p, _, hv, _, e, _⟩ := h; exact hv.lt (e.trans hk)
    | dead n => obtain ⟨p, _, e⟩ := h; rw [e] at hk; cases hk
theorem RdIn.below {W W' : World} {R : Nat} {g : Option Nat} {r : RS} (h : RdIn W R g r) (hb : Below W.heap.size W W') : RdIn W' R g r := h.keep hb.size (fun k hk _ => hb.block k hk)
set_option maxRecDepth 100000 in
theorem made_any (R : Nat) (w : World) {a b c d : Value} (h : w.heap[R]? = some (.cells #[.pointer (some ⟨R, 0, none⟩), a, b, c, d] 52 (0, 0))) :
    Calls Tryd.prog 21 #[.pointer (some ⟨R, 0, none⟩)] w fun e w' => e = .returned (.bool true) ∧ w = w' := by
  have c0 := cell_at h 0
  clear h
  obtain ⟨j, hj⟩ : ∃ j, Tryd.prog.info? 52 = some j := Option.isSome_iff_exists.1 (by kernel_rfl)
  have he := fun w => run_eql_ptr_same (P := Tryd.prog) (w := w) (tp := 23) (⟨R, 0, none⟩ : Addr) Tryd.underlying23 hj
  go_enter Tryd.func21, Tryd.ntmps21
  go_wp2_with fail
  go_ret
  exact ⟨rfl, rfl⟩
theorem new_any (w : World) : Calls Tryd.prog 8 #[] w fun e w' => e = .returned (.pointer (some ⟨w.heap.size, 0, none⟩)) ∧ RdIn w' w.heap.size none (.live []) ∧ Below w.heap.size w w' ∧ w'.heap.size = w.heap.size + 1 := by
  go_enter Tryd.func8, Tryd.ntmps8
  go_wp2_with fail
  go_ret
  exact ⟨rfl, ⟨.slice none 0 0, 0, alloc_top _ _ _, .inl ⟨rfl, rfl⟩, Nat.le_refl _, rfl, (by simp), by simp⟩, alloc_below _ _, by simp⟩
section
variable {P : Program}
/-- Bytes of a text appended to a row, for the walk. -/
theorem wpList_append_row {ops : Array Oper} {rest : List Oper} {o : Oper} {a : Act} {w : World} {Q : Exit → Act → World → Prop} (hgd : o.guard = none) (s x : Operand)
    (ho : o.op = .call { callee := .builtin .append, args := #[s, x], argTypes := #[42, 9] }) {v : Value} {l : List UInt8} (hv : a.eval s = v) (hr : Row w v l) (t : ByteArray) (hx : a.eval x = .string t) (hs : l.length + t.size ≤ 100000000)
    (hK : ∀ v' w', Row w' v' (l ++ t.data.toList) → Fr (fun k => v.ownBlock = some k) w w' → (v'.ownBlock = v.ownBlock ∨ v'.ownBlock = some w.heap.size) → wpList Tryd.prog ops Q rest (a.put o.dst v') w') : wpList Tryd.prog ops Q (o :: rest) a w := by
  refine wpList_plain hgd fun K hK' => ?_
  obtain ⟨v', w', hrun, h1, h2, h3⟩ := hr.append t hs o.type
  unfold Oper.wp
  simp [execOp, ho, resolve, invoke, builtin, hv, hx, hrun, Result.andThen]
  exact hK' _ _ (hK v' w' h1 h2 h3)
end
theorem RdEnd.mk {w W : World} {R p : Nat} {g : Option Nat} {v : Value} {l : List UInt8} (hR : W.heap[R]? = some (.cells #[.pointer (some ⟨R, 0, none⟩), v, .int .i64 (p : Int), .bool false, .int .i64 0] 52 (0, 0))) (hv : Row W v l) (hp : p ≤ l.length)
    (ho : ∀ k, v.ownBlock = some k → g = some k ∨ w.heap.size ≤ k) (hne : g ≠ some R) (hlt : R < w.heap.size) (hl : l.length ≤ 100000000) (hF : Fr (rdX R g) w W) : RdEnd w R g (.live l) W :=
  ⟨v.ownBlock, ho, ⟨v, p, hR, hv, hp, rfl, fun e => by
    rcases ho R e with h | h
    · exact hne h
    · omega, hl⟩, hF⟩
theorem RdEnd.after {w W w' : World} {R : Nat} {g : Option Nat} {r : RS} (hb : Below w.heap.size w W) (h : RdEnd W R g r w') : RdEnd w R g r w' := by
  obtain ⟨g', h1, h2, h3⟩ := h
  exact ⟨g', fun k hk => (h1 k hk).imp id (fun h => Nat.le_trans hb.size h), h2, (Fr.of_below hb).trans h3⟩
theorem Row.set {W : World} {v u : Value} {l : List UInt8} {R i : Nat} (h : Row W v l) (hR : v.ownBlock ≠ some R) : Row (W.setCell ⟨R, i, none⟩ u) v l :=
  h.keep (by rw [World.size_setCell]; exact Nat.le_refl _) (fun k _ hk => heap_setCell_other W ⟨R, i, none⟩ k u (fun e => hR (by rw [← show k = R from e]; exact hk)))
set_option maxRecDepth 100000 in
theorem push_live (R : Nat) (g : Option Nat) (l : List UInt8) (s : ByteArray) (hs : l.length + s.size ≤ 100000000) (w : World) (h : RdIn w R g (.live l)) :
    Calls Tryd.prog 10 #[.pointer (some ⟨R, 0, none⟩), .string s] w fun e w' => e = .returned (.int .i64 0) ∧ RdEnd w R g (.live (l ++ s.data.toList)) w' := by
  obtain ⟨v, p, hR, hv, hp, hg, hne, hl⟩ := h
  have HM := Lib.hid (made_any R w hR)
  have c1 := cell_at hR 1
  have c3 := cell_at hR 3
  have f1 := frozen_of_row w R 1 _ _ hR
  have HV := Lib.hid hv
  have HR := Lib.hid hR
  clear hv hR
  go_enter Tryd.func10, Tryd.ntmps10
  go_wp2_with fail
  refine HM.out.mono ?_
  rintro e w1 ⟨rfl, rfl⟩
  go_wp2_with (at_builtin; refine wpList_append_row rfl _ _ rfl rfl HV.out s rfl hs ?_; intro v' w' hr1 hf1 ho1; obtain ⟨p', cap', hv', _, _, _, _⟩ := hr1.shape; subst hv'; have hR1 := hf1.keep HR.out (fun e => hne (hg ▸ e)); have k1 := cell_at hR1 1; have k2 := frozen_of_row w' R 1 _ _ hR1)
  go_ret
  have hz : (l ++ s.data.toList).length = l.length + s.size := by rw [List.length_append]; rfl
  have hfX : Fr (rdX R g) w w' := hf1.mono (fun k _ hk => .inr (hg ▸ hk))
  have hlt := heap_lt HR.out
  have ho : ∀ k, (Value.slice p' (l.length + s.size) cap').ownBlock = some k → g = some k ∨ w.heap.size ≤ k := by
    rw [hz] at ho1
    intro k hk
    rcases ho1 with e | e
    · exact .inl (hg ▸ (e ▸ hk))
    · rw [e] at hk
      injection hk with hk
      omega
  rw [hz] at hr1
  exact ⟨rfl, RdEnd.mk (p := p) (heap_setCell_same w' R 1 _ _ _ hR1) (hr1.set (fun e => by rcases ho R e with h | h; exact hne h; omega)) (by omega) ho hne hlt (by omega) (hfX.setCell (.inl (.inl rfl)) _)⟩
set_option maxRecDepth 100000 in
theorem push_dead (R n : Nat) (g : Option Nat) (s : ByteArray) (w : World) (h : RdIn w R g (.dead n)) :
    Calls Tryd.prog 10 #[.pointer (some ⟨R, 0, none⟩), .string s] w fun e w' => e = .returned (.int .i64 4) ∧ w = w' := by
  obtain ⟨p, hR, _⟩ := h
  have HM := Lib.hid (made_any R w hR)
  have c3 := cell_at hR 3
  clear hR
  go_enter Tryd.func10, Tryd.ntmps10
  go_wp2_with fail
  refine HM.out.mono ?_
  rintro e w1 ⟨rfl, rfl⟩
  go_wp2_with fail
  go_ret
  exact ⟨rfl, rfl⟩
set_option maxRecDepth 100000 in
theorem held_any (R : Nat) (g : Option Nat) (r : RS) (w : World) (h : RdIn w R g r) :
    Calls Tryd.prog 14 #[.pointer (some ⟨R, 0, none⟩)] w fun e w' => e = .returned (.int .i64 (r.held : Int)) ∧ w = w' := by
  cases r with
  | live l =>
    obtain ⟨v, p, hR, hv, hp, hg, hne, hl⟩ := h
    obtain ⟨q, cap, rfl, _, _, _, _⟩ := hv.shape
    have HM := Lib.hid (made_any R w hR)
    have c1 := cell_at hR 1
    have c3 := cell_at hR 3
    clear hR hv
    go_enter Tryd.func14, Tryd.ntmps14
    go_wp2_with fail
    refine HM.out.mono ?_
    rintro e w1 ⟨rfl, rfl⟩
    go_wp2_with fail
    go_ret
    exact ⟨rfl, rfl⟩
  | dead n =>
    obtain ⟨p, hR, _⟩ := h
    have HM := Lib.hid (made_any R w hR)
    have c3 := cell_at hR 3
    have c4 := cell_at hR 4
    clear hR
    go_enter Tryd.func14, Tryd.ntmps14
    go_wp2_with fail
    refine HM.out.mono ?_
    rintro e w1 ⟨rfl, rfl⟩
    go_wp2_with fail
    go_ret
    exact ⟨rfl, rfl⟩
set_option maxRecDepth 100000 in
theorem broken_any (R : Nat) (g : Option Nat) (r : RS) (w : World) (h : RdIn w R g r) :
    Calls Tryd.prog 15 #[.pointer (some ⟨R, 0, none⟩)] w fun e w' => e = .returned (.bool r.isDead) ∧ w = w' := by
  cases r with
  | live l =>
    obtain ⟨v, p, hR, hv, hp, hg, hne, hl⟩ := h
    have HM := Lib.hid (made_any R w hR)
    have c3 := cell_at hR 3
    clear hR hv
    go_enter Tryd.func15, Tryd.ntmps15
    go_wp2_with fail
    refine HM.out.mono ?_
    rintro e w1 ⟨rfl, rfl⟩
    go_wp2_with fail
    go_ret
    exact ⟨rfl, rfl⟩
  | dead n =>
    obtain ⟨p, hR, _⟩ := h
    have HM := Lib.hid (made_any R w hR)
    have c3 := cell_at hR 3
    clear hR
    go_enter Tryd.func15, Tryd.ntmps15
    go_wp2_with fail
    refine HM.out.mono ?_
    rintro e w1 ⟨rfl, rfl⟩
    go_wp2_with fail
    go_ret
    exact ⟨rfl, rfl⟩
set_option maxRecDepth 100000 in
theorem breakUp_any (R : Nat) (g : Option Nat) (l : List UInt8) (w : World) (h : RdIn w R g (.live l)) :
    Calls Tryd.prog 23 #[.pointer (some ⟨R, 0, none⟩)] w fun e w' => (∃ v, e = .returned v) ∧ RdEnd w R g (.dead l.length) w' := by
  obtain ⟨v, p, hR, hv, hp, hg, hne, hl⟩ := h
  obtain ⟨q, cap, rfl, _, _, _, _⟩ := hv.shape
  have c1 := cell_at hR 1
  have f1 := frozen_of_row w R 1 _ _ hR
  have f3 := frozen_of_row w R 3 _ _ hR
  have f4 := frozen_of_row w R 4 _ _ hR
  have c3 := cell_at hR 3
  have c4 := cell_at hR 4
  have HR := Lib.hid hR
  clear hR hv
  go_enter Tryd.func23, Tryd.ntmps23
  go_wp2_with fail
  go_end0
  refine ⟨⟨_, rfl⟩, none, (fun k hk => by cases hk), ⟨p, ?_, rfl⟩, (((Fr.refl (rdX R g) w).setCell (.inl (.inl rfl)) _).setCell (.inl (.inl rfl)) _).setCell (.inl (.inl rfl)) _⟩
  exact heap_setCell_same _ R 1 _ _ _ (heap_setCell_same _ R 4 _ _ _ (heap_setCell_same w R 3 _ _ _ HR.out))
end Go.Proofs.YtmaihiklcdidbaaDoor
