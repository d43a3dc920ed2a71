/-
  emendlaw08's filler AND text: what they return, as far as their lengths go; no memory that was there turns. Conditions as each says.
-/
import Derived.Lib.ConvBytes
import Derived.Lib.AtoiErrMem
import Derived.Test.YtpphkkelikdhkaaDoorOBytes
import Derived.Test.YtpphkkelikdhkaaDoorOLarge
namespace Go.Proofs.YtpphkkelikdhkaaDoor
open Go.RowKit Go.Lib

theorem two_conv (x y : Int) (w : World) : (convert 48 9 (.slice (some ⟨w.heap.size, 0, none⟩) 2 2)).run Tryd.prog (w.alloc (.cells #[.int .u8 x, .int .u8 y] 5)) = .ok (.string ⟨#[UInt8.ofNat x.toNat, UInt8.ofNat y.toNat]⟩) (w.alloc (.cells #[.int .u8 x, .int .u8 y] 5)) := by
  rw [run_convert_bytes_string _ 48 9 5 _ _ _ Tryd.underlying48 Tryd.underlying5 Tryd.underlying9]
  rw [run_bytesToString _ ⟨w.heap.size, 0, none⟩ _ _ [x, y] (by
    refine run_loadCells_list _ ⟨w.heap.size, 0, none⟩ ([x, y].map (Value.int .u8)) (fun j v hj => ?_)
    rw [show (⟨w.heap.size, 0, none⟩ : Addr).add j = ⟨w.heap.size, 0 + j, none⟩ from by rw [Addr.add_lit], Nat.zero_add, cell_at (alloc_top w _ _)]
    simpa using hj)]
  rfl
set_option maxRecDepth 100000 in
set_option maxHeartbeats 1000000 in
theorem filler_any (n : Nat) (hn : n < 40) (w : World) : Calls Tryd.prog 17 #[.int .i64 (n : Int)] w fun e w' => (∃ s : ByteArray, e = .returned (.string s) ∧ s.size ≤ 1000) ∧ Below w.heap.size w w' := by
  have hcv := fun x y => two_conv x y w
  go_enter Tryd.func17, Tryd.ntmps17
  go_wp2_with fail
  go_ret
  refine ⟨⟨_, rfl, ?_⟩, alloc_below _ _⟩
  rw [ByteArray.size_append, ByteArray.size_append]
  show 14 + 2 + 3 ≤ 1000
  decide
/-- A slice value whose row holds these bytes, and may be written up to its end. -/
def TB (W : World) (B : Nat) (v : Value) (l : List UInt8) : Prop :=
  ∃ g cap, v = .slice (some ⟨g, 0, none⟩) l.length cap ∧ B ≤ g ∧ l.length ≤ cap ∧ (∀ j, j < cap → (W.cell? ⟨g, j, none⟩).isSome = true ∧ W.frozen? ⟨g, j, none⟩ = false) ∧ ∀ j x, (byteCells l)[j]? = some x → W.cell? ⟨g, j, none⟩ = some x
theorem str_cells (s : ByteArray) : strCells s = byteCells s.data.toList := rfl
theorem tb_bytes (w : World) (s : ByteArray) : TB (bytesWorld w 5 s) w.heap.size (.slice (some ⟨w.heap.size, 0, none⟩) s.size (grownCap w s.size 0 5)) s.data.toList := by
  have hn := bytesWorld_at_new w 5 s
  have hge := grownCap_ge w s.size 0 5
  have hsz : (bytesCells w 5 s).size = grownCap w s.size 0 5 := by
    unfold bytesCells
    rw [Array.size_append, Array.size_map, Array.size_replicate]
    show s.size + _ = _
    omega
  refine ⟨w.heap.size, grownCap w s.size 0 5, rfl, Nat.le_refl _, hge, fun j hj => ⟨?_, ?_⟩, fun j x hx => ?_⟩
  · rw [cell_of_row _ _ _ _ _ _ hn, Array.getElem?_eq_getElem (by omega)]
    rfl
  · simp only [World.frozen?, hn, Bool.and_eq_false_iff, decide_eq_false_iff_not]
    left
    omega
  · have hj : j < s.size := by
      have := (List.getElem?_eq_some_iff.1 hx).1
      rw [byteCells_length] at this
      exact this
    rw [bytesWorld_cell w _ s j hj]
    unfold byteCells at hx
    rw [List.getElem?_map] at hx
    have hj' : j < s.data.toList.length := hj
    rw [List.getElem?_eq_getElem hj', Option.map_some] at hx
    rw [List.getD_eq_getElem?_getD, List.getElem?_eq_getElem hj', Option.getD_some]
    exact hx
theorem below_cells {B b : Nat} {a : World} (hb : B ≤ b) : ∀ (vs : List Value) (o : Nat) (w : World), Below B a w → Below B a (w.setCells b o vs)
  | [], _, _, h => h
  | v :: r, o, _, h => below_cells hb r (o + 1) _ (h.setCell (p := ⟨b, o, none⟩) hb v)
theorem app_str {W : World} {B : Nat} {v : Value} {l : List UInt8} (ty : TypeId) (h : TB W B v l) (s : ByteArray) (hb : l.length + s.size ≤ 100000000) (hB : B ≤ W.heap.size) :
    ∃ v' W', (Builtin.append_ #[48, 9] ty #[v, .string s]).run Tryd.prog W = .ok v' W' ∧ TB W' B v' (l ++ s.data.toList) ∧ Below B W W' := by
  obtain ⟨i0, hi, hz0, hz1, hz2⟩ := info_parts u8Info
  obtain ⟨g, cap, rfl, hBg, hlc, hc, hx⟩ := h
  have hlen : (l ++ s.data.toList).length = l.length + s.size := by rw [List.length_append]; rfl
  have hbl : (strCells s).length = s.size := strCells_length s
  by_cases hroom : l.length + s.size ≤ cap
  · have hf := run_firstCells_string (P := Tryd.prog) W 1 s
    have hst := run_storeCells_cells (P := Tryd.prog) g l.length (strCells s) 0 W (fun j hj => (hc _ (by omega)).1) (fun j hj => (hc _ (by omega)).2) (strCells_oneCell s)
    rw [Nat.add_zero] at hst
    refine ⟨.slice (some ⟨g, 0, none⟩) (l.length + s.size) cap, W.setCells g l.length (strCells s), ?_, ⟨g, cap, by rw [hlen], hBg, by rw [hlen]; exact hroom, fun j hj => ⟨?_, ?_⟩, fun j x hj => ?_⟩, below_cells hBg (strCells s) l.length W (Below.refl B W)⟩
    · simp [Builtin.append_, run_underlying Tryd.underlying48, run_underlying Tryd.underlying9, sizeOf, typeInfo, hi, hz1, Builtin.lenOf, hroom, hf, Addr.add_lit, hst]
    · exact World.isSome_setCells g (strCells s) l.length W _ (hc j hj).1
    · rw [World.frozen?_setCells]; exact (hc j hj).2
    · rw [byteCells_append] at hj
      by_cases hjl : j < l.length
      · rw [World.cell?_setCells_out g (strCells s) l.length W _ (fun _ _ => .inl hjl)]
        rw [List.getElem?_append_left (by rw [byteCells_length]; exact hjl)] at hj
        exact hx j x hj
      · rw [List.getElem?_append_right (by rw [byteCells_length]; omega), byteCells_length] at hj
        have hjs := (List.getElem?_eq_some_iff.1 hj).1
        rw [byteCells_length] at hjs
        have hjs' : j - l.length < (strCells s).length := by rw [hbl]; exact hjs
        have := World.cell?_setCells_in g (strCells s) l.length W (fun k hk => (hc _ (by omega)).1) (j - l.length) hjs'
        rw [show l.length + (j - l.length) = j by omega] at this
        rw [this]
        rw [← str_cells, List.getElem?_eq_getElem hjs'] at hj
        exact hj
  · have hadd : ∀ j, (⟨g, 0, none⟩ : Addr).add j = ⟨g, j, none⟩ := fun j => by rw [Addr.add_lit, Nat.zero_add]
    have hr := run_append_grow_string (P := Tryd.prog) W 48 9 ty 5 i0 (.int .u8 0) Tryd.underlying48 Tryd.underlying9 hi hz0 ⟨g, 0, none⟩ l.length cap (byteCells l) (by rw [hz1, byteCells_length, Nat.mul_one]) (fun j x hj => by rw [hadd]; exact hx j x hj) s (by omega) (by omega) (by rw [hz2]; exact growslice_fits (by omega) (by omega))
    have hge := grownCap_ge W (l.length + s.size) cap 5
    refine ⟨_, _, hr, ⟨W.heap.size, grownCap W (l.length + s.size) cap 5, by rw [hlen], hB, by rw [hlen]; exact hge, ?_, ?_⟩, (Below.refl B W).drew.alloc hB _⟩
    · intro j hj
      have hn : (W.drew.alloc (.cells ((byteCells l).toArray ++ (strCells s).toArray ++ Builtin.zeroCells (Value.int .u8 0).cells (grownCap W (l.length + s.size) cap 5 - (l.length + s.size))) 5)).heap[W.heap.size]? = some (.cells ((byteCells l).toArray ++ (strCells s).toArray ++ Builtin.zeroCells (Value.int .u8 0).cells (grownCap W (l.length + s.size) cap 5 - (l.length + s.size))) 5) := heap_alloc_new W.drew _
      have hsz : ((byteCells l).toArray ++ (strCells s).toArray ++ Builtin.zeroCells (Value.int .u8 0).cells (grownCap W (l.length + s.size) cap 5 - (l.length + s.size))).size = grownCap W (l.length + s.size) cap 5 := by
        have hz1 : (Value.int IntKind.u8 0).cells.size = 1 := rfl
        simp only [Array.size_append, List.size_toArray, size_zeroCells, hz1, byteCells_length, strCells_length]
        omega
      refine ⟨?_, frozen_of_row _ _ j _ _ hn⟩
      rw [cell_of_row _ _ _ _ _ _ hn, Array.getElem?_eq_getElem (by omega)]
      rfl
    · intro j x hj
      have hn : (W.drew.alloc (.cells ((byteCells l).toArray ++ (strCells s).toArray ++ Builtin.zeroCells (Value.int .u8 0).cells (grownCap W (l.length + s.size) cap 5 - (l.length + s.size))) 5)).heap[W.heap.size]? = some (.cells ((byteCells l).toArray ++ (strCells s).toArray ++ Builtin.zeroCells (Value.int .u8 0).cells (grownCap W (l.length + s.size) cap 5 - (l.length + s.size))) 5) := heap_alloc_new W.drew _
      rw [byteCells_append, ← str_cells] at hj
      have hjl := (List.getElem?_eq_some_iff.1 hj).1
      rw [cell_of_row _ _ _ _ _ _ hn, ← Array.getElem?_toList, Array.toList_append, Array.toList_append, List.getElem?_append_left hjl]
      exact hj
section
variable {w : World}
theorem wpList_app_str {ops : Array Oper} {rest : List Oper} {o : Oper} {a : Act} {Q : Exit → Act → World → Prop} (hgd : o.guard = none) (sl x : Operand)
    (ho : o.op = .call { callee := .builtin .append, args := #[sl, x], argTypes := #[48, 9] })
    (B : Nat) (v : Value) (l : List UInt8) (hs : a.eval sl = v) (hown : TB w B v l) (s : ByteArray) (hx : a.eval x = .string s) (hb : l.length + s.size ≤ 100000000) (hB : B ≤ w.heap.size)
    (h : ∀ v' w', TB w' B v' (l ++ s.data.toList) → Below B w w' → wpList Tryd.prog ops Q rest (a.put o.dst v') w') : wpList Tryd.prog ops Q (o :: rest) a w := by
  refine wpList_plain hgd fun K hK => ?_
  obtain ⟨v', w', hr, h2, h3⟩ := app_str o.type hown s hb hB
  unfold Oper.wp execOp
  simp only [ho, resolve, invoke, builtin, Sem.run_bind, Sem.run_pure, Result.andThen_ok, List.map_toArray, List.map_cons, List.map_nil, hs, hx, hr]
  exact hK _ _ (h v' w' h2 h3)
end
set_option maxRecDepth 100000 in
set_option maxHeartbeats 2000000 in
theorem text_any (x : Ac) (hx : x.t.size ≤ 300) (w : World) : Calls Tryd.prog 18 #[acV x] w fun e w' => (∃ s : ByteArray, e = .returned (.string s) ∧ s.size ≤ 100000) ∧ Below w.heap.size w w' := by
  obtain ⟨o, u, t, m, v, A, L, c, f⟩ := x
  unfold acV
  simp only at hx ⊢
  have hcv := fun W => Lib.run_convert_string_bytes (P := Tryd.prog) W 9 48 5 t Tryd.underlying9 Tryd.underlying48 Tryd.underlying5
  go_enter Tryd.func18, Tryd.ntmps18
  go_wp2_with fail
  have HR := Lib.hid (alloc_top w #[.int .i64 o, .string u, .string t, .int .i64 m, .int .i64 v, .slice A L.length c, .int .u8 f] 29)
  have HB1 := Lib.hid (alloc_below w (.cells #[.int .i64 o, .string u, .string t, .int .i64 m, .int .i64 v, .slice A L.length c, .int .u8 f] 29))
  have hsz : (w.alloc (.cells #[.int .i64 o, .string u, .string t, .int .i64 m, .int .i64 v, .slice A L.length c, .int .u8 f] 29)).heap.size = w.heap.size + 1 := World.size_alloc _ _
  have HS := Lib.hid hsz
  clear hsz hcv
  generalize w.alloc (.cells #[.int .i64 o, .string u, .string t, .int .i64 m, .int .i64 v, .slice A L.length c, .int .u8 f] 29) = W1 at *
  go_loopw [3, 4] (fun bv k wr => ∃ (l : List UInt8) (i : Nat), k = .int .i64 (i : Int) ∧ i ≤ 20000 ∧ l.length ≤ 70300 ∧ Hid (TB wr W1.heap.size bv l) ∧ Hid (Below W1.heap.size W1 wr)) (fun _ k _ => 20000 - (intOf k).toNat)
  case atStart =>
    have h1 := tb_bytes W1 t
    obtain ⟨g, cap, e1, e2, e3⟩ := h1
    rw [HS.out] at e1
    exact ⟨t.data.toList, 1, rfl, by decide, Nat.le_trans hx (by decide), Lib.hid ⟨g, cap, e1, e2, e3⟩, Lib.hid (bytesWorld_below W1 _ t)⟩
  case round =>
    obtain ⟨l, i, rfl, hi, hl, ht, hb⟩ := hrel
    obtain ⟨g, cap, rfl, hrest⟩ := ht.out
    have hk := heap_keep hb.out HR.out
    have d2 := cell_at (i := 2) hk
    have d3 := cell_at (i := 3) hk
    have HC := Lib.hid hrest.2.2.2
    have HE : Hid (Below w.heap.size w wr) := Lib.hid (HB1.out.trans (hb.out.mono (by have := HS.out; omega)))
    clear hrest hk
    have out : ∀ (s : ByteArray), s = ⟨l.toArray⟩ → s.size ≤ 100000 := by
      intro s e
      rw [e]
      show l.toArray.size ≤ 100000
      rw [List.size_toArray]
      omega
    have HOut := Lib.hid out
    clear out
    by_cases c1 : (i : Int) < m
    · by_cases c2 : i < 20000
      · have c2' : (i : Int) < 20000 := by omega
        by_cases c3 : l.length ≤ 70000
        · have c3' : (l.length : Int) ≤ 70000 := by omega
          have hi1 : IntKind.i64.wrap ((i : Int) + 1) = (i : Int) + 1 := IntWalk.i64_in _ (by omega)
          go_wp2_with (at_builtin; refine wpList_app_str rfl _ _ rfl W1.heap.size _ l rfl ht.out t rfl ?c1 ?c2 ?_)
          case c1 => omega
          case c2 => exact hb.out.size
          intro v2 w2 h2 hb2
          have H2 := Lib.hid h2
          have HB2 := Lib.hid (hb.out.trans hb2)
          clear h2 hb2 d2 d3
          go_wp2_with fail
          go_roundw
          case rel => exact ⟨l ++ t.data.toList, i + 1, by go_num, by omega, by rw [List.length_append]; show l.length + t.size ≤ 70300; omega, H2, HB2⟩
          case measure => simp [intOf]; omega
        · have c3' : ¬ (l.length : Int) ≤ 70000 := by omega
          have hst := str_conv (cap := cap) HC.out
          go_wp2_with fail
          go_ret
          exact ⟨⟨_, rfl, HOut.out _ rfl⟩, HE.out⟩
      · have c2' : ¬ (i : Int) < 20000 := by omega
        have hst := str_conv (cap := cap) HC.out
        go_wp2_with fail
        go_ret
        exact ⟨⟨_, rfl, HOut.out _ rfl⟩, HE.out⟩
    · have hst := str_conv (cap := cap) HC.out
      go_wp2_with fail
      go_ret
      exact ⟨⟨_, rfl, HOut.out _ rfl⟩, HE.out⟩
end Go.Proofs.YtpphkkelikdhkaaDoor
