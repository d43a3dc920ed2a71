/-
  strings.Builder's writing with its footprint (X: the builder's own blocks): nothing else that was there turns; writeString. Conditions: the builder's length beside Go's own bound.
-/
import Derived.Test.YtmkjoonbjmieoaaDoorQBuild
import Derived.Test.YtmkjoonbjmieoaaDoorQFaultOf
namespace Go.Proofs.YtmkjoonbjmieoaaDoor
open Go.RowKit

section
variable {P : Program} (w : World)
theorem run_append_str2 (base : Nat) (t u ty e : TypeId) (i : TypeInfo) (ht : P.underlying t = some (.slice e)) (hu : P.underlying u = some .string) (hi : P.info? e = some i) (hz : i.zero = some (.int .u8 0))
    (hsize : i.size = 1) (hby : i.bytes = 1) (v : Value) (n : Nat) (xs : List Value) (hown : w.ownsRow base e 1 v n xs) (s : ByteArray)
    (h63 : n + s.size ≤ maxLen) (hbytes : n + s.size ≤ 140737488355328) (hbase : base ≤ w.heap.size) :
    ∃ v' w', (Builtin.append_ #[t, u] ty #[v, .string s]).run P w = .ok v' w' ∧ w'.ownsRow base e 1 v' (n + s.size) (xs ++ Lib.strCells s) ∧ w.grownBy w' v.ownBlock ∧
      (∀ k, v'.ownBlock = some k → v.ownBlock = some k ∨ w.heap.size ≤ k) := by
  obtain ⟨v', w', hr, h2, h3, _⟩ := Lib.run_append_own_string (P := P) w base t u ty e i ht hu hi hz hsize hby v n xs hown s h63 hbytes hbase
  refine ⟨v', w', hr, h2, h3, fun k hk => ?_⟩
  rcases hown.2 with ⟨rfl, rfl⟩ | ⟨g, cap, cur, rfl, hbg, hg, hnc, hcm, hcs, htake⟩
  · have hx : xs = [] := List.eq_nil_of_length_eq_zero (by simpa using hown.1)
    subst hx
    obtain ⟨v2, w2, hr2, h22, _⟩ := Lib.run_append_own_string (P := P) w w.heap.size t u ty e i ht hu hi hz hsize hby _ _ _ (World.ownsRow_nil w w.heap.size e 1) s h63 hbytes (Nat.le_refl _)
    rw [hr] at hr2
    injection hr2 with e1 e2
    subst e1
    exact .inr (World.ownsRow.lt h22 k hk).1
  · by_cases hroom : n + s.size ≤ cap
    · have hcs' : cur.size = cap := by simpa using hcs
      have hr2 := Lib.run_append_room_string (P := P) w t u ty e i ht hu hi hsize g n cap cur hg s hroom (by omega)
      rw [hr] at hr2
      injection hr2 with e1 e2
      subst e1
      exact .inl hk
    · have hxl : xs.length = n := by simpa using hown.1
      have holds : ∀ j u, xs[j]? = some u → w.cell? ((⟨g, 0, none⟩ : Addr).add j) = some u := hown.cells (g := g) rfl
      have hsmall : n + s.size ≤ 9223372036854775807 := by simp only [maxLen] at h63; omega
      have hr2 := Lib.run_append_grow_string (P := P) w t u ty e i (.int .u8 0) ht hu hi hz ⟨g, 0, none⟩ n cap xs (by rw [hsize]; simpa using hxl) holds s (by omega) (by omega) (by rw [hby]; exact growslice_fits (by omega) (by omega))
      rw [hr] at hr2
      injection hr2 with e1 e2
      subst e1
      simp only [Value.ownBlock, Option.some.injEq] at hk
      exact .inr (by omega)
theorem wpList_append_str2 {ops : Array Oper} {rest : List Oper} {o : Oper} {a : Act} {Q : Exit → Act → World → Prop} (hgd : o.guard = none) (sl x : Operand) (t u : TypeId)
    (ho : o.op = .call { callee := .builtin .append, args := #[sl, x], argTypes := #[t, u] })
    (base : Nat) (e : TypeId) (i : TypeInfo) (ht : P.underlying t = some (.slice e)) (hu : P.underlying u = some .string) (hi : P.info? e = some i) (hz : i.zero = some (.int .u8 0))
    (hsize : i.size = 1) (hby : i.bytes = 1)
    (v : Value) (n : Nat) (xs : List Value) (hs : a.eval sl = v) (hown : w.ownsRow base e 1 v n xs) (s : ByteArray) (hx : a.eval x = .string s)
    (h63 : n + s.size ≤ maxLen) (hbytes : n + s.size ≤ 140737488355328) (hbase : base ≤ w.heap.size)
    (h : ∀ v' w', w'.ownsRow base e 1 v' (n + s.size) (xs ++ Lib.strCells s) → w.grownBy w' v.ownBlock → (∀ k, v'.ownBlock = some k → v.ownBlock = some k ∨ w.heap.size ≤ k) → wpList P ops Q rest (a.put o.dst v') w') : wpList P ops Q (o :: rest) a w := by
  refine wpList_plain hgd fun K hK => ?_
  obtain ⟨v', w', hr, h2, h3, h4⟩ := run_append_str2 (P := P) w base t u o.type e i ht hu hi hz hsize hby v n xs hown s h63 hbytes hbase
  unfold Oper.wp execOp
  simp only [ho, resolve, invoke, builtin, Sem.run_bind, Sem.run_pure, Result.andThen_ok, List.map_toArray, List.map_cons, List.map_nil, hs, hx, hr]
  exact hK _ _ (h v' w' h2 h3 h4)
end
/-- A builder whose own blocks are of a kind. -/
def Bx (X : Nat → Prop) (b : Nat) (p : Value) (bs : List Value) (w : World) : Prop :=
  X b ∧ ∃ v, w.heap[b]? = some (.cells #[p, v] 50 (0, 0)) ∧ w.ownsRow 0 5 1 v bs.length bs ∧ v.ownBlock ≠ some b ∧ ∀ g, v.ownBlock = some g → X g
def BX (X : Nat → Prop) (b : Nat) (bs : List Value) (w : World) : Prop := Bx X b (.pointer none) bs w ∨ Bx X b (.pointer (some ⟨b, 0, none⟩)) bs w
/-- The kind, behind a step: and new blocks. -/
def XX (X : Nat → Prop) (w : World) : Nat → Prop := fun k => X k ∨ w.heap.size ≤ k
theorem Bx.at {X : Nat → Prop} {b : Nat} {p : Value} {bs : List Value} {w : World} (h : Bx X b p bs w) : Lib.BuilderAt 50 5 0 b p bs w := by
  obtain ⟨_, v, h1, h2, h3, _⟩ := h
  exact ⟨Nat.zero_le _, v, h1, h2, h3⟩
theorem Bx.mono {X Y : Nat → Prop} {b : Nat} {p : Value} {bs : List Value} {w : World} (h : Bx X b p bs w) (hxy : ∀ k, X k → Y k) : Bx Y b p bs w := by
  obtain ⟨h0, v, h1, h2, h3, h4⟩ := h
  exact ⟨hxy _ h0, v, h1, h2, h3, fun g hg => hxy _ (h4 g hg)⟩
theorem BX.mono {X Y : Nat → Prop} {b : Nat} {bs : List Value} {w : World} (h : BX X b bs w) (hxy : ∀ k, X k → Y k) : BX Y b bs w := h.imp (·.mono hxy) (·.mono hxy)
theorem Bx.keep {X : Nat → Prop} {b : Nat} {p : Value} {bs : List Value} {w w' : World} (h : Bx X b p bs w) (hs : ∀ k, X k → k < w.heap.size → w'.heap[k]? = w.heap[k]?) : Bx X b p bs w' := by
  obtain ⟨h0, v, h1, h2, h3, h4⟩ := h
  have hlt := heap_lt h1
  refine ⟨h0, v, (hs b h0 hlt).trans h1, ⟨h2.1, ?_⟩, h3, h4⟩
  rcases h2.2 with h | ⟨g, cap, cur, hv, hb, hg, hr⟩
  · exact .inl h
  · exact .inr ⟨g, cap, cur, hv, hb, (hs g (h4 g (by rw [hv]; rfl)) (heap_lt hg)).trans hg, hr⟩
theorem BX.below {X : Nat → Prop} {b : Nat} {bs : List Value} {w w' : World} (h : BX X b bs w) (hb : Below w.heap.size w w') : BX X b bs w' :=
  h.imp (·.keep (fun k _ hk => hb.block k hk)) (·.keep (fun k _ hk => hb.block k hk))
theorem Fr.grown {X : Nat → Prop} {w w1 w2 : World} {row : Option Nat} (h : Fr X w w1) (hg : w1.grownBy w2 row) (hr : ∀ g, row = some g → X g ∨ w.heap.size ≤ g) : Fr X w w2 := by
  refine ⟨hg.os.trans h.os, hg.tape.trans h.tape, hg.output.trans h.output, Nat.le_trans h.size hg.size, fun k hk hx => ?_⟩
  refine (hg.block k (Nat.lt_of_lt_of_le hk h.size) (fun e => ?_)).trans (h.block k hk hx)
  rcases hr k e.symm with h' | h'
  · exact hx h'
  · omega
/-- Two steps: what the first one may turn, and what is new. -/
theorem Fr.then {X : Nat → Prop} {w w1 w2 : World} (h : Fr X w w1) (k : Fr (XX X w) w1 w2) : Fr X w w2 :=
  ⟨k.os.trans h.os, k.tape.trans h.tape, k.output.trans h.output, Nat.le_trans h.size k.size, fun i hi hx => (k.block i (Nat.lt_of_lt_of_le hi h.size) (fun hh => hh.elim hx (by omega))).trans (h.block i hi hx)⟩
theorem XX.two {X : Nat → Prop} {w w1 : World} (h : w.heap.size ≤ w1.heap.size) (k : Nat) (hk : XX (XX X w) w1 k) : XX X w k := by
  rcases hk with hk | hk
  · exact hk
  · exact .inr (Nat.le_trans h hk)
set_option maxHeartbeats 1000000 in
set_option maxRecDepth 100000 in
theorem copyCheckX_any (X : Nat → Prop) (b : Nat) (bs : List Value) (w : World) (h : BX X b bs w) :
    Calls Tryd.prog 51 #[.pointer (some ⟨b, 0, none⟩)] w fun e w' => e = .returned (.tuple #[]) ∧ Bx X b (.pointer (some ⟨b, 0, none⟩)) bs w' ∧ Fr (· = b) w w' := by
  obtain ⟨j, hj, hjs⟩ := Option.map_eq_some_iff.1 build_size
  rcases h with h | h
  · have h0 := h.at.cell0
    have hs := h.at.shape
    have hf := h.at.frozen0
    have HH := Lib.hid (show Bx X b (.pointer (some ⟨b, 0, none⟩)) bs (w.setCell ⟨b, 0, none⟩ (.pointer (some ⟨b, 0, none⟩))) from by
      obtain ⟨h0, v, h1, h2, h3, h4⟩ := h
      refine ⟨h0, v, heap_setCell_same w b 0 _ _ _ h1, ⟨h2.1, ?_⟩, h3, h4⟩
      rcases h2.2 with h | ⟨g, cap, cur, hv, hb, hg, hr⟩
      · exact .inl h
      · exact .inr ⟨g, cap, cur, hv, hb, (heap_setCell_other w ⟨b, 0, none⟩ g _ (fun (e : g = b) => h3 (by rw [hv, ← e]; rfl))).trans hg, hr⟩)
    clear h
    go_enter Tryd.func51, Tryd.ntmps51
    go_wp2
    rw [Lib.run_to_unsafe w ⟨b, 0, none⟩ Tryd.underlying48 Tryd.underlying104 hj (by rw [hjs]; decide) hs (Nat.zero_lt_succ 1)]
    simp only [Result.andThen]
    rw [Oper.upon_value]
    go_wp2
    rw [run_callFunc_extern Tryd.func66 (by kernel_rfl) (by kernel_rfl) (by kernel_rfl) (e := Extern.AbiNoEscape.same) (by kernel_rfl)]
    rw [Lib.run_noEscape]
    simp only [Result.andThen]
    rw [Oper.upon_value]
    go_wp2
    rw [Lib.run_from_unsafe w ⟨b, 0, none⟩ Tryd.underlying104 Tryd.underlying48 hj hs build_lies]
    simp only [Result.andThen]
    rw [Oper.upon_value]
    go_wp2
    go_end0
    exact ⟨rfl, HH.out, (Fr.refl (fun k => k = b) w).setCell (.inl rfl) _⟩
  · have h0 := h.at.cell0
    have HH := Lib.hid h
    clear h
    go_enter Tryd.func51, Tryd.ntmps51
    go_wp2
    try rw [Lib.run_neq_ptr_same w _ Tryd.underlying48 hj]
    try go_wp2
    go_end0
    exact ⟨rfl, HH.out, Fr.refl _ _⟩
/-- The builder behind a store of its row. -/
theorem Bx.put {X : Nat → Prop} {b : Nat} {p v v' : Value} {bs' : List Value} {w : World} (hX : X b) (hb : w.heap[b]? = some (.cells #[p, v] 50 (0, 0))) (hown : w.ownsRow 0 5 1 v' bs'.length bs') (hv : ∀ g, v'.ownBlock = some g → X g) :
    Bx X b p bs' (w.setCell ⟨b, 1, none⟩ v') := by
  obtain ⟨_, v2, h1, h2, h3⟩ := Lib.BuilderAt.put (T := 50) (e := 5) (Nat.zero_le b) hb hown (by decide)
  have h4 := heap_setCell_same w b 1 _ _ v' hb
  rw [h1] at h4
  simp only [Option.some.injEq, Obj.cells.injEq, List.setIfInBounds_toArray, Array.mk.injEq] at h4
  have h5 : v2 = v' := by
    have := congrArg (fun l => l[1]?) h4.1
    simpa using this
  subst h5
  exact ⟨hX, v2, h1, h2, h3, hv⟩
set_option maxHeartbeats 1000000 in
set_option maxRecDepth 100000 in
theorem writeStringX_any (X : Nat → Prop) (b : Nat) (bs : List Value) (s : ByteArray) (w : World) (h : BX X b bs w) (hn : bs.length + s.size ≤ 100000000000) :
    Calls Tryd.prog 31 #[.pointer (some ⟨b, 0, none⟩), .string s] w fun e w' => e = .returned (.tuple #[.int .i64 s.size, .nilIface]) ∧ BX (XX X w) b (bs ++ Lib.strCells s) w' ∧ Fr X w w' := by
  obtain ⟨i0, hi, hz0, hz1, hz2⟩ := info_parts u8_info
  have HC := Lib.hid (copyCheckX_any X b bs w h)
  clear h
  go_enter Tryd.func31, Tryd.ntmps31
  go_wp2_with fail
  refine HC.out.mono ?_
  rintro e w1 ⟨rfl, ⟨hX, v, hbk, hown, hne, hvX⟩, hf1⟩
  obtain ⟨A, k, c, rfl⟩ := row_form hown
  have c0 : w1.cell? ⟨b, 0, none⟩ = some (.pointer (some ⟨b, 0, none⟩)) := by rw [Lib.cell_of_heap hbk]; rfl
  have c1 : w1.cell? ⟨b, 1, none⟩ = some (.slice A k c) := by rw [Lib.cell_of_heap hbk]; rfl
  go_wp2_with (at_builtin; refine wpList_append_str2 _ rfl _ _ 35 9 rfl 0 5 i0 Tryd.underlying35 Tryd.underlying9 hi hz0 hz1 hz2 _ _ _ rfl hown s rfl ?c3 ?c4 ?c5 ?_)
  case c3 => unfold maxLen; omega
  case c4 => omega
  case c5 => omega
  intro v' w2 hown2 hgrow hblk
  have hb2 : w2.heap[b]? = some (.cells #[.pointer (some ⟨b, 0, none⟩), .slice A k c] 50 (0, 0)) := (hgrow.block b (heap_lt hbk) (fun e => hne e.symm)).trans hbk
  have d0 : w2.cell? ⟨b, 0, none⟩ = some (.pointer (some ⟨b, 0, none⟩)) := by rw [Lib.cell_of_heap hb2]; rfl
  have d1 : w2.cell? ⟨b, 1, none⟩ = some (.slice A k c) := by rw [Lib.cell_of_heap hb2]; rfl
  have f1 : w2.frozen? ⟨b, 1, none⟩ = false := Lib.frozen_of_heap hb2 1
  obtain ⟨A2, k2, e2, rfl⟩ := row_form hown2
  go_wp2
  go_ret2
  refine ⟨rfl, .inr (Bx.put (.inl hX) hb2 (bs' := bs ++ Lib.strCells s) (by simpa [Lib.strCells_length] using hown2) (fun g hg => ?_)), ?_⟩
  · rcases hblk g hg with h | h
    · exact .inl (hvX g h)
    · exact .inr (Nat.le_trans hf1.size h)
  · exact (((hf1.mono (fun k _ (hk : k = b) => by rw [hk]; exact hX)).grown hgrow (fun g hg => .inl (hvX g hg)))).setCell (.inl hX) _
set_option maxHeartbeats 1000000 in
set_option maxRecDepth 100000 in
theorem writeByteX_any (X : Nat → Prop) (b : Nat) (bs : List Value) (x : Int) (w : World) (h : BX X b bs w) (hn : bs.length + 1 ≤ 100000000000) :
    Calls Tryd.prog 33 #[.pointer (some ⟨b, 0, none⟩), .int .u8 x] w fun e w' => e = .returned .nilIface ∧ BX (XX X w) b (bs ++ [.int .u8 x]) w' ∧ Fr X w w' := by
  obtain ⟨i0, hi, hz0, hz1, hz2⟩ := info_parts u8_info
  have HC := Lib.hid (copyCheckX_any X b bs w h)
  clear h
  go_enter Tryd.func33, Tryd.ntmps33
  go_wp2_with fail
  refine HC.out.mono ?_
  rintro e w1 ⟨rfl, ⟨hX, v, hbk, hown, hne, hvX⟩, hf1⟩
  obtain ⟨A, k, c, rfl⟩ := row_form hown
  have hlt := heap_lt hbk
  have c0 : w1.cell? ⟨b, 0, none⟩ = some (.pointer (some ⟨b, 0, none⟩)) := by rw [Lib.cell_of_heap hbk]; rfl
  have c1 : w1.cell? ⟨b, 1, none⟩ = some (.slice A k c) := by rw [Lib.cell_of_heap hbk]; rfl
  go_wp2_with (at_builtin; refine wpList_append_own2 _ rfl _ _ 35 rfl 0 5 i0 (.int .u8 0) 1 1 Tryd.underlying35 hi hz0 hz1 hz2 rfl (by decide) _ _ _ rfl (hown.alloc _) ⟨w1.heap.size, 0, none⟩ 1 1 [.int .u8 x] rfl rfl ?c1 ?c2 ?c3 ?c4 ?c5 ?_)
  case c1 =>
    intro j u hj
    match j, hj with
    | 0, hj => simp at hj; subst hj; simp [Addr.add]
  case c2 => intro u hu; simp at hu; subst hu; rfl
  case c3 => unfold maxLen; omega
  case c4 => omega
  case c5 => omega
  intro v' w2 hown2 hgrow hblk
  have hb2 : w2.heap[b]? = some (.cells #[.pointer (some ⟨b, 0, none⟩), .slice A k c] 50 (0, 0)) := (hgrow.block b (by simp; omega) (fun e => hne e.symm)).trans ((Lib.alloc_old w1 _ b hlt).trans hbk)
  have d0 : w2.cell? ⟨b, 0, none⟩ = some (.pointer (some ⟨b, 0, none⟩)) := by rw [Lib.cell_of_heap hb2]; rfl
  have d1 : w2.cell? ⟨b, 1, none⟩ = some (.slice A k c) := by rw [Lib.cell_of_heap hb2]; rfl
  have f1 : w2.frozen? ⟨b, 1, none⟩ = false := Lib.frozen_of_heap hb2 1
  obtain ⟨A2, k2, e2, rfl⟩ := row_form hown2
  go_wp2
  go_ret
  refine ⟨rfl, .inr (Bx.put (.inl hX) hb2 (bs' := bs ++ [.int .u8 x]) (by simpa using hown2) (fun g hg => ?_)), ?_⟩
  · rcases hblk g hg with h | h
    · exact .inl (hvX g h)
    · exact .inr (Nat.le_trans hf1.size (by omega))
  · exact (((hf1.mono (fun k _ (hk : k = b) => by rw [hk]; exact hX)).alloc _).grown hgrow (fun g hg => .inl (hvX g hg))).setCell (.inl hX) _
/-- A builder that holds a text. -/
def BT (X : Nat → Prop) (b : Nat) (l : List UInt8) (w : World) : Prop := BX X b (Lib.byteCells l) w
theorem bt_put {X : Nat → Prop} {b : Nat} {l m : List UInt8} {bs : List Value} {w : World} (h : BX X b bs w) (hm : bs = Lib.byteCells l ++ Lib.byteCells m) : BT X b (l ++ m) w := by
  subst hm
  rw [← Lib.byteCells_append] at h
  exact h
theorem wText_any (X : Nat → Prop) (b : Nat) (l x : List UInt8) (w : World) (h : BT X b l w) (hn : l.length + x.length ≤ 100000000000) :
    Calls Tryd.prog 31 #[.pointer (some ⟨b, 0, none⟩), .string (txt x)] w fun e w' => e = .returned (.tuple #[.int .i64 (txt x).size, .nilIface]) ∧ BT (XX X w) b (l ++ x) w' ∧ Fr X w w' := by
  refine (writeStringX_any X b (Lib.byteCells l) (txt x) w h (by rw [Lib.byteCells_length]; exact hn)).mono ?_
  rintro e w' ⟨rfl, h1, h2⟩
  exact ⟨rfl, bt_put h1 rfl, h2⟩
theorem wByte_any (X : Nat → Prop) (b : Nat) (l : List UInt8) (c : UInt8) (x : Int) (hx : x = (c.toNat : Int)) (w : World) (h : BT X b l w) (hn : l.length + 1 ≤ 100000000000) :
    Calls Tryd.prog 33 #[.pointer (some ⟨b, 0, none⟩), .int .u8 x] w fun e w' => e = .returned .nilIface ∧ BT (XX X w) b (l ++ [c]) w' ∧ Fr X w w' := by
  subst hx
  refine (writeByteX_any X b (Lib.byteCells l) _ w h (by rw [Lib.byteCells_length]; exact hn)).mono ?_
  rintro e w' ⟨rfl, h1, h2⟩
  exact ⟨rfl, bt_put (m := [c]) h1 rfl, h2⟩
/-- The facts stay where their blocks do. -/
theorem factsF {X : Nat → Prop} {w w' : World} (h : Facts w) (hX : ∀ k, X k → 3 < k) (hf : Fr X w w') : Facts w' := by
  have h3 : 3 < w.heap.size := by
    obtain ⟨ev, h1, _⟩ := h.syn
    rcases Nat.lt_or_ge 3 w.heap.size with h' | h'
    · exact h'
    · simp [World.cell?, Array.getElem?_eq_none h'] at h1
  have hk : ∀ (k i : Nat), k ≤ 3 → w'.cell? ⟨k, i, none⟩ = w.cell? ⟨k, i, none⟩ := fun k i hk => cell_block (hf.block k (by omega) (fun hx => by have := hX k hx; omega)) i
  exact ⟨⟨fun c hc => (hk _ _ (by omega)).trans (h.tabs.1 c hc), fun i hi => ⟨(hk _ _ (by omega)).trans (h.tabs.2 i hi).1, (hk _ _ (by omega)).trans (h.tabs.2 i hi).2⟩⟩, by obtain ⟨ev, h1, h2⟩ := h.syn; exact ⟨ev, (hk _ _ (by omega)).trans h1, h2⟩⟩
set_option maxHeartbeats 1000000 in
set_option maxRecDepth 100000 in
theorem wQuoted_any (X : Nat → Prop) (b : Nat) (l x : List UInt8) (w : World) (h : BT X b l w) (hs : x.length ≤ 1000000) (hv : valid x = true) (hn : l.length + (6 * x.length + 2) ≤ 100000000000) (hF : Facts w) :
    Calls Tryd.prog 32 #[.pointer (some ⟨b, 0, none⟩), .string (txt x)] w fun e w' => e = .returned (.tuple #[]) ∧ BT (XX X w) b (l ++ quoteL x) w' ∧ Fr X w w' := by
  have HQ := Lib.hid (quote_any (txt x) (by rw [txt_size]; exact hs) w hF)
  have hq : quoteV x = .tuple #[.string ⟨(quoteL x).toArray⟩, .int .i64 0] := by
    unfold quoteV
    rw [valid_good, decide_eq_true_eq] at hv
    rw [if_neg (by omega)]
  rw [txt_data, hq] at HQ
  have hql := quoteL_len x
  have HW := Lib.hid (fun w1 (h1 : Below w.heap.size w w1) => wText_any X b l (quoteL x) w1 (h.below h1) (by omega))
  unfold txt at HW
  generalize quoteL x = m at *
  generalize txt x = T at *
  clear h hq hv hF hql
  go_enter Tryd.func32, Tryd.ntmps32
  go_wp2_with fail
  refine HQ.out.mono ?_
  rintro e w1 ⟨rfl, hb1⟩
  have HW1 := Lib.hid (HW.out w1 hb1)
  have HB1 := Lib.hid hb1
  clear hb1 HW
  go_wp2_with fail
  refine HW1.out.mono ?_
  rintro e w2 ⟨rfl, hd, hf⟩
  have HD := Lib.hid hd
  have HF2 := Lib.hid ((Fr.of_below HB1.out).trans hf)
  clear hd hf
  go_wp2_with fail
  go_end0
  exact ⟨rfl, HD.out.mono (fun k hk => hk.imp id (fun h => Nat.le_trans HB1.out.size h)), HF2.out⟩
end Go.Proofs.YtmkjoonbjmieoaaDoor
