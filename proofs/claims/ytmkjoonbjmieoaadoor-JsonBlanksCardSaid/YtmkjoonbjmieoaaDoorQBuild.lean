/-
  WHAT A VALUE MAY NOT BE, AND ITS TEXT, plainly: deepJ (deeper than a bound), faultJ (its first fault, but for its depth), checkJ, textJ (json's write), putJ. No program; no condition.
  strings.Builder's writing AT EVERY BUILDER (Lib.IsBuilder) of this program: copyCheck, WriteByte, WriteString (String is laid off the shelf). Conditions: the builder's length beside Go's own bound.
-/
import Derived.Test.YtmkjoonbjmieoaaDoorQFormed
import Derived.Test.YtmkjoonbjmieoaaDoorQQuo
import Derived.Shelf.Strings.Builder1
namespace Go.Proofs.YtmkjoonbjmieoaaDoor
open Go.RowKit

mutual
/-- Is a value deeper than a bound? -/
def deepJ : Nat → J → Bool
  | m, .mk k _ _ l => if k = 5 ∨ k = 6 then (match m with | 0 => true | n + 1 => deepL n l) else false
def deepL : Nat → List J → Bool
  | _, [] => false
  | m, j :: l => deepJ m j || deepL m l
end
mutual
/-- The first fault of a value, but for its depth. -/
def faultJ : J → Nat
  | .mk k s ks l =>
    if formedB k (txt s) ks.length l.length = false then 4
    else if k = 4 ∧ valid s = false then 8
    else if k = 6 then faultK [] ks l
    else faultL l
/-- The first fault of some items. -/
def faultL : List J → Nat
  | [] => 0
  | j :: l => if faultJ j = 0 then faultL l else faultJ j
/-- The first fault of an object's items with their keys, behind keys that were met. -/
def faultK : List (List UInt8) → List (List UInt8) → List J → Nat
  | met, key :: ks, j :: l =>
    if valid key = false then 8
    else if met.contains key then 13
    else if faultJ j = 0 then faultK (key :: met) ks l else faultJ j
  | _, [], _ => 0
  | _, _ :: _, [] => 0
end
def checkJ (j : J) : Nat := if deepJ 64 j then 3 else faultJ j
mutual
/-- The text of a value. -/
def textJ : J → List UInt8
  | .mk k s ks l =>
    if k = 0 then [110, 117, 108, 108]
    else if k = 1 then [102, 97, 108, 115, 101]
    else if k = 2 then [116, 114, 117, 101]
    else if k = 3 then s
    else if k = 4 then quoteL s
    else if k = 5 then 91 :: (textL true l ++ [93])
    else 123 :: (textK true ks l ++ [125])
/-- Items, a comma ahead of each but the first. -/
def textL : Bool → List J → List UInt8
  | _, [] => []
  | first, j :: l => (if first then [] else [44]) ++ textJ j ++ textL false l
/-- Items with their keys. -/
def textK : Bool → List (List UInt8) → List J → List UInt8
  | first, key :: ks, j :: l => (if first then [] else [44]) ++ quoteL key ++ 58 :: textJ j ++ textK false ks l
  | _, _, [] => []
  | _, [], _ :: _ => []
end
/-- The text of a value that may be, or its fault. -/
def putJ (j : J) : List UInt8 × Nat := if checkJ j = 0 then (textJ j, 0) else ([], checkJ j)
end Go.Proofs.YtmkjoonbjmieoaaDoor
namespace Go.Proofs.YtmkjoonbjmieoaaDoor
open Go.RowKit

theorem build_lies : liesAt Tryd.prog Tryd.prog.depth 50 (2 / Tryd.prog.cellsOf 50) 0 50 1 = true := by kernel_rfl
theorem build_size : (Tryd.prog.info? 50).map (·.size) = some 2 := by kernel_rfl
set_option maxHeartbeats 1000000 in
set_option maxRecDepth 100000 in
theorem copyCheck_any (B b : Nat) (bs : List Value) (w : World) (h : Lib.IsBuilder 50 5 B b bs w) :
    Calls Tryd.prog 51 #[.pointer (some ⟨b, 0, none⟩)] w fun e w' => e = .returned (.tuple #[]) ∧ Lib.BuilderAt 50 5 B b (.pointer (some ⟨b, 0, none⟩)) bs w' ∧ Below B w w' := by
  obtain ⟨j, hj, hjs⟩ := Option.map_eq_some_iff.1 build_size
  rcases h with h | h
  · have h0 := h.cell0
    have hs := h.shape
    have hf := h.frozen0
    have HH := Lib.hid h
    clear h
    go_enter Tryd.func51, Tryd.ntmps51
    go_wp2
    rw [Lib.run_to_unsafe w ⟨b, 0, none⟩ Tryd.underlying48 Tryd.underlying104 hj (by rw [hjs]; decide) hs (Nat.zero_lt_succ 1)]
    simp only [Result.andThen]
    rw [Oper.upon_value]
    go_wp2
    rw [run_callFunc_extern Tryd.func66 (by kernel_rfl) (by kernel_rfl) (by kernel_rfl) (e := Extern.AbiNoEscape.same) (by kernel_rfl)]
    rw [Lib.run_noEscape]
    simp only [Result.andThen]
    rw [Oper.upon_value]
    go_wp2
    rw [Lib.run_from_unsafe w ⟨b, 0, none⟩ Tryd.underlying104 Tryd.underlying48 hj hs build_lies]
    simp only [Result.andThen]
    rw [Oper.upon_value]
    go_wp2
    go_end0
    exact ⟨rfl, HH.out.used _, (Below.refl B w).setCell (p := ⟨b, 0, none⟩) HH.out.1 _⟩
  · have h0 := h.cell0
    have HH := Lib.hid h
    clear h
    go_enter Tryd.func51, Tryd.ntmps51
    go_wp2
    try rw [Lib.run_neq_ptr_same w _ Tryd.underlying48 hj]
    try go_wp2
    go_end0
    exact ⟨rfl, HH.out, Below.refl B _⟩
theorem u8_info : (Tryd.prog.info? 5).map (fun i => (i.zero, i.size, i.bytes)) = some (some (.int .u8 0), 1, 1) := by kernel_rfl
theorem heap_lt {w : World} {b : Nat} {o : Obj} (h : w.heap[b]? = some o) : b < w.heap.size := by
  rcases Nat.lt_or_ge b w.heap.size with h' | h'
  · exact h'
  · simp [Array.getElem?_eq_none h'] at h
theorem row_form {w : World} {B : Nat} {e : TypeId} {v : Value} {n : Nat} {bs : List Value} (h : w.ownsRow B e 1 v n bs) : ∃ A k c, v = .slice A k c := by
  rcases h.2 with ⟨hv, _⟩ | ⟨g, cap, cur, hv, _⟩
  · exact ⟨_, _, _, hv⟩
  · exact ⟨_, _, _, hv⟩
set_option maxHeartbeats 1000000 in
set_option maxRecDepth 100000 in
theorem writeString_any (B b : Nat) (bs : List Value) (s : ByteArray) (w : World) (h : Lib.IsBuilder 50 5 B b bs w) (hn : bs.length + s.size ≤ 100000000000) (hB : B ≤ w.heap.size) :
    Calls Tryd.prog 31 #[.pointer (some ⟨b, 0, none⟩), .string s] w fun e w' => e = .returned (.tuple #[.int .i64 s.size, .nilIface]) ∧ Lib.BuilderAt 50 5 B b (.pointer (some ⟨b, 0, none⟩)) (bs ++ Lib.strCells s) w' ∧ Below B w w' := by
  obtain ⟨i0, hi, hz0, hz1, hz2⟩ := info_parts u8_info
  have HC := Lib.hid (copyCheck_any B b bs w h)
  clear h
  go_enter Tryd.func31, Tryd.ntmps31
  go_wp2_with fail
  refine HC.out.mono ?_
  rintro e w1 ⟨rfl, ⟨hBb, v, hbk, hown, hne⟩, hb1⟩
  obtain ⟨A, k, c, rfl⟩ := row_form hown
  have hw1 := hb1.size
  have c0 : w1.cell? ⟨b, 0, none⟩ = some (.pointer (some ⟨b, 0, none⟩)) := by rw [Lib.cell_of_heap hbk]; rfl
  have c1 : w1.cell? ⟨b, 1, none⟩ = some (.slice A k c) := by rw [Lib.cell_of_heap hbk]; rfl
  go_wp2_with (at_builtin; refine Lib.wpList_append_own_string _ rfl _ _ 35 9 rfl B 5 i0 Tryd.underlying35 Tryd.underlying9 hi hz0 hz1 hz2 _ _ _ rfl hown s rfl ?c3 ?c4 ?c5 ?_)
  case c3 => unfold maxLen; omega
  case c4 => omega
  case c5 => omega
  intro v' w2 hown2 hgrow _
  have hb2 : w2.heap[b]? = some (.cells #[.pointer (some ⟨b, 0, none⟩), .slice A k c] 50 (0, 0)) := (hgrow.block b (heap_lt hbk) (fun e => hne e.symm)).trans hbk
  have d0 : w2.cell? ⟨b, 0, none⟩ = some (.pointer (some ⟨b, 0, none⟩)) := by rw [Lib.cell_of_heap hb2]; rfl
  have d1 : w2.cell? ⟨b, 1, none⟩ = some (.slice A k c) := by rw [Lib.cell_of_heap hb2]; rfl
  have f1 : w2.frozen? ⟨b, 1, none⟩ = false := Lib.frozen_of_heap hb2 1
  obtain ⟨A2, k2, e2, rfl⟩ := row_form hown2
  go_wp2
  go_ret2
  refine ⟨rfl, Lib.BuilderAt.put hBb hb2 (bs' := bs ++ Lib.strCells s) (by simpa [Lib.strCells_length] using hown2) (by decide), ?_⟩
  exact (hb1.grown hgrow (by omega) (fun k hk => (hown.lt k hk).1)).setCell (p := ⟨b, 1, none⟩) hBb _
set_option maxHeartbeats 1000000 in
set_option maxRecDepth 100000 in
theorem writeByte_any (B b : Nat) (bs : List Value) (x : Int) (w : World) (h : Lib.IsBuilder 50 5 B b bs w) (hn : bs.length + 1 ≤ 100000000000) (hB : B ≤ w.heap.size) :
    Calls Tryd.prog 33 #[.pointer (some ⟨b, 0, none⟩), .int .u8 x] w fun e w' => e = .returned .nilIface ∧ Lib.BuilderAt 50 5 B b (.pointer (some ⟨b, 0, none⟩)) (bs ++ [.int .u8 x]) w' ∧ Below B w w' := by
  obtain ⟨i0, hi, hz0, hz1, hz2⟩ := info_parts u8_info
  have HC := Lib.hid (copyCheck_any B b bs w h)
  clear h
  go_enter Tryd.func33, Tryd.ntmps33
  go_wp2_with fail
  refine HC.out.mono ?_
  rintro e w1 ⟨rfl, ⟨hBb, v, hbk, hown, hne⟩, hb1⟩
  obtain ⟨A, k, c, rfl⟩ := row_form hown
  have hw1 := hb1.size
  have hlt := heap_lt hbk
  have c0 : w1.cell? ⟨b, 0, none⟩ = some (.pointer (some ⟨b, 0, none⟩)) := by rw [Lib.cell_of_heap hbk]; rfl
  have c1 : w1.cell? ⟨b, 1, none⟩ = some (.slice A k c) := by rw [Lib.cell_of_heap hbk]; rfl
  go_wp2_with (at_builtin; refine wpList_append_own _ rfl _ _ 35 rfl B 5 i0 (.int .u8 0) 1 1 Tryd.underlying35 hi hz0 hz1 hz2 rfl (by decide) _ _ _ rfl (hown.alloc _) ⟨w1.heap.size, 0, none⟩ 1 1 [.int .u8 x] rfl rfl ?c1 ?c2 ?c3 ?c4 ?c5 ?_)
  case c1 =>
    intro j u hj
    match j, hj with
    | 0, hj => simp at hj; subst hj; simp [Addr.add]
  case c2 => intro u hu; simp at hu; subst hu; rfl
  case c3 => unfold maxLen; omega
  case c4 => omega
  case c5 => simp; omega
  intro v' w2 hown2 hgrow _
  have hb2 : w2.heap[b]? = some (.cells #[.pointer (some ⟨b, 0, none⟩), .slice A k c] 50 (0, 0)) := (hgrow.block b (by simp; omega) (fun e => hne e.symm)).trans ((Lib.alloc_old w1 _ b hlt).trans hbk)
  have d0 : w2.cell? ⟨b, 0, none⟩ = some (.pointer (some ⟨b, 0, none⟩)) := by rw [Lib.cell_of_heap hb2]; rfl
  have d1 : w2.cell? ⟨b, 1, none⟩ = some (.slice A k c) := by rw [Lib.cell_of_heap hb2]; rfl
  have f1 : w2.frozen? ⟨b, 1, none⟩ = false := Lib.frozen_of_heap hb2 1
  obtain ⟨A2, k2, e2, rfl⟩ := row_form hown2
  go_wp2
  go_ret
  refine ⟨rfl, Lib.BuilderAt.put hBb hb2 (bs' := bs ++ [.int .u8 x]) (by simpa using hown2) (by decide), ?_⟩
  exact ((hb1.alloc (by omega) _).grown hgrow (by simp; omega) (fun k hk => (hown.lt k hk).1)).setCell (p := ⟨b, 1, none⟩) hBb _
theorem row_below {w w' : World} {B size : Nat} {e : TypeId} {v : Value} {n : Nat} {xs : List Value} (h : w.ownsRow B e size v n xs) (hb : Below w.heap.size w w') : w'.ownsRow B e size v n xs := by
  obtain ⟨hl, h | ⟨g, cap, cur, hv, hB, hg, hr⟩⟩ := h
  · exact ⟨hl, .inl h⟩
  · exact ⟨hl, .inr ⟨g, cap, cur, hv, hB, (hb.block g (heap_lt hg)).trans hg, hr⟩⟩
theorem builder_below {T e : TypeId} {w w' : World} {B b : Nat} {p : Value} {bs : List Value} (h : Lib.BuilderAt T e B b p bs w) (hb : Below w.heap.size w w') : Lib.BuilderAt T e B b p bs w' := by
  obtain ⟨hB, v, hk, ho, hne⟩ := h
  exact ⟨hB, v, (hb.block b (heap_lt hk)).trans hk, row_below ho hb, hne⟩
theorem isBuilder_below {T e : TypeId} {w w' : World} {B b : Nat} {bs : List Value} (h : Lib.IsBuilder T e B b bs w) (hb : Below w.heap.size w w') : Lib.IsBuilder T e B b bs w' :=
  h.imp (fun h => builder_below h hb) (fun h => builder_below h hb)
/-- A builder that holds a text. -/
def Bd (B b : Nat) (l : List UInt8) (w : World) : Prop := Lib.IsBuilder 50 5 B b (Lib.byteCells l) w
theorem bd_put {B b : Nat} {l m : List UInt8} {bs : List Value} {w : World} (h : Lib.BuilderAt 50 5 B b (.pointer (some ⟨b, 0, none⟩)) bs w) (hm : bs = Lib.byteCells l ++ Lib.byteCells m) : Bd B b (l ++ m) w := by
  subst hm
  rw [← Lib.byteCells_append] at h
  exact .inr h
set_option maxHeartbeats 1000000 in
set_option maxRecDepth 100000 in
theorem writeQuoted_any (B b : Nat) (l : List UInt8) (s : ByteArray) (w : World) (h : Bd B b l w) (hs : s.size ≤ 1000000) (hv : good s.data.toList = s.size) (hn : l.length + (quoteL s.data.toList).length ≤ 100000000000) (hB : B ≤ w.heap.size) (hF : Facts w) :
    Calls Tryd.prog 32 #[.pointer (some ⟨b, 0, none⟩), .string s] w fun e w' => e = .returned (.tuple #[]) ∧ Bd B b (l ++ quoteL s.data.toList) w' ∧ Below B w w' := by
  have HQ := Lib.hid (quote_any s hs w hF)
  have hq : quoteV s.data.toList = .tuple #[.string ⟨(quoteL s.data.toList).toArray⟩, .int .i64 0] := by
    unfold quoteV
    rw [if_neg (by rw [hv]; show ¬ s.size < s.size; omega)]
  rw [hq] at HQ
  have HW := Lib.hid (fun w1 (h1 : Below w.heap.size w w1) => writeString_any B b (Lib.byteCells l) ⟨(quoteL s.data.toList).toArray⟩ w1 (isBuilder_below h h1) (by rw [Lib.byteCells_length]; exact hn) (Nat.le_trans hB h1.size))
  generalize quoteL s.data.toList = m at *
  clear h hq hv hF
  go_enter Tryd.func32, Tryd.ntmps32
  go_wp2_with fail
  refine HQ.out.mono ?_
  rintro e w1 ⟨rfl, hb1⟩
  have HW1 := Lib.hid (HW.out w1 hb1)
  have HB1 := Lib.hid (hb1.mono hB)
  clear hb1 HW
  go_wp2_with fail
  refine HW1.out.mono ?_
  rintro e w2 ⟨rfl, hd, hb2⟩
  have HD := Lib.hid hd
  have HB2 := Lib.hid (HB1.out.trans hb2)
  clear hd hb2
  go_wp2_with fail
  go_end0
  exact ⟨rfl, bd_put HD.out rfl, HB2.out⟩
end Go.Proofs.YtmkjoonbjmieoaaDoor
