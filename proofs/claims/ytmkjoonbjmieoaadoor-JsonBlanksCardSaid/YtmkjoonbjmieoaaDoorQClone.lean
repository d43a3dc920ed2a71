/-
  DERIVED: THE SHELF's CONTRACTS AT THIS DUMP, IN PLAIN WORDS (tools/lay-plain.mjs out of 'TrydShelfW.lean', which tools/lay-shelf.mjs wrote): THE SAME DECLARATIONS UNDER THE SAME NAMES: 'import', 'namespace', 'open', 'def', 'theorem' AND NOTHING ELSE: no command of the shelf's: FOR A HAND-IN. Each laying: the table of numbers ('.._ren') and one theorem, a field a fact of the dump's own or the kernel's comparison; each contract: ONE APPLICATION.
  slices.Clone of a value's keys and items: a row of one's own that reads as they do; nothing that was there turns. Conditions: their number.
-/
import Derived.Shelf.Strings.Builder1
import Derived.Shelf.Small.Strs
import Derived.Shelf.Strings.BuilderF
import Derived.Shelf.Strings.BuilderK
import Derived.Shelf.Utf8.AppendRunePlain
import Derived.Shelf.Strconv.Itoa0
import Derived.Shelf.Strconv.Itoa1
import Derived.Shelf.LaysM
import Derived.Shelf.Strconv.Itoa2
import Derived.Shelf.Strconv.Itoa3
import Derived.Shelf.Strconv.Clone
import Derived.Shelf.Strconv.SyntaxError
import Derived.Shelf.LaysC
import Derived.Shelf.Strconv.ToError
import Derived.Shelf.Strconv.Lower
import Derived.Shelf.Strconv.ParseUint10
import Derived.Shelf.Strconv.ParseUint10Empty
import Derived.Shelf.Strconv.ParseUint10Any
import Derived.Shelf.Strconv.RangeError
import Derived.Shelf.Strconv.ToErrorRange
import Derived.Shelf.Strconv.ParseUintEmpty
import Derived.Shelf.Strconv.ParseUint10b64
import Derived.Shelf.Strconv.ParseUint10b32
import Derived.Shelf.Strconv.ParseUint10b16
import Derived.Shelf.Strconv.ParseUint10b8
import Derived.Shelf.Strconv.ParseUint10At
import Derived.Shelf.Strings.Search1
import Derived.Shelf.Unicode.Decode
import Derived.Shelf.Unicode.DecodeSlow
import Derived.Shelf.Unicode.DecodeAny
import Derived.Shelf.Slices.Turned
import Derived.Ground.Names2Prog
import Derived.Shelf.Slices.Clone
import Derived.Ground.SlgnProg
import Derived.Shelf.SlicesE.Clone
import Derived.Test.YtmkjoonbjmieoaaDoorProg
import Derived.Test.YtmkjoonbjmieoaaDoorQEqual
import Derived.Test.YtmkjoonbjmieoaaDoorQShelfB
import Derived.Test.YtmkjoonbjmieoaaDoorQPut2
namespace Go.Proofs
open Go.Shelf
def Tryd.laysSlE041_f42_ren : Go.Shelf.Ren := ⟨fun | 41 => 42 | n => n, fun | 22 => 24 | 23 => 26 | 4 => 4 | n => n, fun | n => n⟩
theorem Tryd.laysSlE041_f42 : Go.Proofs.SlLaysE0.n41 Tryd.prog Tryd.laysSlE041_f42_ren := {
  mixed := by kernel_rfl
  f41 := ⟨Tryd.f42.name, by decide, Tryd.func42.trans (congrArg some (by kernel_rfl))⟩
  t4 := Tryd.underlying4
  a4 := Tryd.isAgg4
  z4 := Tryd.sizeOf4
  v4 := Tryd.zeroValue4
  t22 := Tryd.underlying24
  a22 := Tryd.isAgg24
  z22 := Tryd.sizeOf24
  v22 := Tryd.zeroValue24 }
open Go.RowKit Go.Lib in
/-- slices.Clone: "Clone returns a copy of the slice. The elements are copied using assignment, so this is a shallow clone. The result may have additional unused capacity. The result preserves the nilness of s.": OF A SLICE THAT IS NOT nil IT RETURNS A SLICE THAT IS NOT nil, OF THE SAME CELLS, IN MEMORY OF THE CALL's OWN ('ownsRow': the how-to's 6f); below the heap's size at the call all is as it was. (LAID AT THE INSTANCE 'slices.Clone[[]string,string]': no walk: one application.) -/
theorem Tryd.slices_CloneJ (i0 : TypeInfo) (z : Value) (size bytes : Nat) (hi : Tryd.prog.info? 26 = some i0) (hz0 : i0.zero = some z) (hz1 : i0.size = size) (hz2 : i0.bytes = bytes) (hzs : z.cells.size = size) (hsz : 0 < size) (z23 : ∀ w, (Go.sizeOf 26).run Tryd.prog w = .ok size w) (b off n c : Nat) (news : List Value) (w : World) (hl : news.length = n * size) (hn : n ≤ maxLen) (hbig : n * bytes ≤ 140737488355328) (hc : ∀ j u, news[j]? = some u → w.cell? ⟨b, off + j, none⟩ = some u) (h1 : ∀ u ∈ news, u.oneCell' = true) :
    Calls Tryd.prog 42 #[.slice (some ⟨b, off, none⟩) n c] w fun e w' => ∃ v', e = .returned v' ∧ w'.ownsRow w.heap.size 26 size v' n news ∧ v' ≠ .slice none 0 0 ∧ Below w.heap.size w w' := AnyE.slices_Clone Tryd.laysSlE041_f42 i0 z size bytes hi hz0 hz1 hz2 hzs hsz z23 b off n c news w hl hn hbig hc h1
open Go.RowKit Go.Lib in
/-- The same at nil: nil comes back; the world is as it was; nothing is asked of the element's type. (LAID AT THE INSTANCE 'slices.Clone[[]string,string]': no walk: one application.) -/
theorem Tryd.slices_CloneJ_nil (n c : Nat) (w : World) :
    Calls Tryd.prog 42 #[.slice none n c] w fun e w' => e = .returned (.slice none 0 0) ∧ w' = w := AnyE.slices_Clone_nil Tryd.laysSlE041_f42 n c w
end Go.Proofs
namespace Go.Proofs.YtmkjoonbjmieoaaDoor
open Go.RowKit

/-- A cell that is set to what it holds. -/
theorem setCell_self {W : World} {g i : Nat} {cur : Array Value} {T : TypeId} {z : Nat × Nat} {v : Value} (h : W.heap[g]? = some (.cells cur T z)) (hv : cur[i]? = some v) : W.setCell ⟨g, i, none⟩ v = W := by
  unfold World.setCell
  have : W.heap.modify g (fun o => match o with
      | .cells c elem frozen => .cells (if (⟨g, i, none⟩ : Addr).spot.isSome then c else c.setIfInBounds i v) elem frozen
      | o => o) = W.heap := by
    apply Array.ext_getElem?
    intro k
    rw [Array.getElem?_modify]
    split
    · rename_i hk
      subst hk
      rw [h]
      simp only [Option.map_some, Option.isSome_none, Bool.false_eq_true, if_false, Option.some.injEq, Obj.cells.injEq, and_true]
      apply Array.ext_getElem?
      intro m
      rw [Array.getElem?_setIfInBounds]
      split
      · rename_i hm
        subst hm
        split
        · exact hv.symm
        · rename_i hlt
          rw [Array.getElem?_eq_none (by omega)]
      · rfl
    · rfl
  exact congrArg (fun hp => { W with heap := hp }) this
set_option maxRecDepth 100000 in
set_option maxHeartbeats 1000000 in
theorem cloneJ_any (a : Addr) (n c : Nat) (news : List Value) (hl : news.length = n * 4) (hn : n ≤ 1000000) (w : World) (hc : ∀ j u, news[j]? = some u → w.cell? (a.add j) = some u) (h1 : ∀ u ∈ news, u.oneCell' = true) :
    Calls Tryd.prog 42 #[.slice (some a) n c] w fun e w' => ∃ v', e = .returned v' ∧ w'.ownsRow w.heap.size 26 4 v' n news ∧ Below w.heap.size w w' := by
  obtain ⟨i0, hi, hz0, hz1, hz2⟩ := info_parts jinfo
  have q22 : ∀ (w : World) (a : Option Addr) (n c n' c' : Nat), (binOp .eql 24 (.slice a n c) (.slice none n' c')).run Tryd.prog w = .ok (.bool a.isNone) w := fun w a n c n' c' => Lib.run_eql_slice_nil w _ _ a n c n' c' Tryd.underlying24
  have A : Aside (∀ j u, news[j]? = some u → w.cell? (a.add j) = some u) := hc
  clear hc
  go_enter Tryd.func42, Tryd.ntmps42
  go_wp2_with (at_builtin; refine wpList_append_own _ rfl _ _ 24 rfl w.heap.size 26 i0 _ 4 _ Tryd.underlying24 hi hz0 hz1 hz2 rfl (by decide) _ _ _ rfl (World.ownsRow_made w #[] 0 (Nat.le_refl _) (Nat.zero_le _) (by simp)) a n c news rfl ?qc1 ?qc2 ?qc3 ?qc4 ?qc5 ?qc6 ?_)
  case qc1 => exact hl
  case qc2 =>
    intro j u hj
    exact Lib.cell?_alloc_some _ (A.out j u hj)
  case qc3 => exact h1
  case qc4 => rw [Nat.zero_add]; unfold maxLen; omega
  case qc5 => rw [Nat.zero_add]; omega
  case qc6 => simp
  intro v' w1 hown hgrow hnil
  go_wp2
  go_ret
  refine ⟨v', rfl, by simpa using hown, ?_⟩
  exact ((Below.refl _ w).alloc (Nat.le_refl _) _).grown hgrow (by simp) (by intro k hk; simp [Value.ownBlock] at hk; omega)
/-- A row of values of one's own. -/
def RowJ (W : World) (B : Nat) (P : Nat → Prop) (A : Option Addr) (l : List J) : Prop := 0 < l.length → ∃ (g : Nat) (cur : Array Value), A = some ⟨g, 0, none⟩ ∧ B ≤ g ∧ W.heap[g]? = some (.cells cur 26 (0, 0)) ∧
  ∀ i j, l[i]? = some j → ∃ v0 v1 v2 v3, cur[i * 4]? = some v0 ∧ cur[i * 4 + 1]? = some v1 ∧ cur[i * 4 + 2]? = some v2 ∧ cur[i * 4 + 3]? = some v3 ∧ JIn W P j (.agg #[v0, v1, v2, v3])
/-- A row of texts of one's own. -/
def RowK (W : World) (B : Nat) (A : Option Addr) (ks : List (List UInt8)) : Prop := 0 < ks.length → ∃ (g : Nat) (cur : Array Value), A = some ⟨g, 0, none⟩ ∧ B ≤ g ∧ W.heap[g]? = some (.cells cur 9 (0, 0)) ∧ ∀ (i : Nat) (x : List UInt8), ks[i]? = some x → cur[i]? = some (Value.string (txt x))
theorem own_get {w : World} {B : Nat} {e : TypeId} {size : Nat} {v : Value} {n : Nat} {xs : List Value} (h : w.ownsRow B e size v n xs) : ∃ A c, v = .slice A n c ∧ (0 < n * size → ∃ (g : Nat) (cur : Array Value), A = some ⟨g, 0, none⟩ ∧ B ≤ g ∧ w.heap[g]? = some (.cells cur e (0, 0)) ∧ ∀ (i : Nat) (u : Value), xs[i]? = some u → cur[i]? = some u) := by
  rcases h.2 with ⟨rfl, rfl⟩ | ⟨g, cap, cur, rfl, hB, hg, _, _, _, ht⟩
  · exact ⟨none, 0, rfl, fun h0 => by simp at h0⟩
  · refine ⟨_, _, rfl, fun _ => ⟨g, cur, rfl, hB, hg, fun i u hu => ?_⟩⟩
    rw [← ht, List.getElem?_take] at hu
    split at hu
    · simpa using hu
    · cases hu
theorem one_cells {W : World} {P : Nat → Prop} {j : J} {v0 v1 v2 v3 : Value} (h : JIn W P j (.agg #[v0, v1, v2, v3])) : v0.oneCell' = true ∧ v1.oneCell' = true ∧ v2.oneCell' = true ∧ v3.oneCell' = true := by
  obtain ⟨k, s, A, n, c, B, m, d, rfl, rfl, rfl, rfl⟩ := jin_shape h
  exact ⟨rfl, rfl, rfl, rfl⟩
/-- The items' cells, one behind the other. -/
theorem items_cells {w : World} {P : Nat → Prop} {b : Nat} : ∀ (l : List J) (o : Nat), LIn w P b o l → ∃ news : List Value, news.length = l.length * 4 ∧ (∀ j u, news[j]? = some u → w.cell? ⟨b, o + j, none⟩ = some u) ∧ (∀ u ∈ news, u.oneCell' = true) ∧
    ∀ i j, l[i]? = some j → ∃ v0 v1 v2 v3, news[i * 4]? = some v0 ∧ news[i * 4 + 1]? = some v1 ∧ news[i * 4 + 2]? = some v2 ∧ news[i * 4 + 3]? = some v3 ∧ JIn w P j (.agg #[v0, v1, v2, v3])
  | [], o, _ => ⟨[], rfl, fun j u h => by simp at h, fun u h => (by cases h), fun i j h => by simp at h⟩
  | t :: l, o, h => by
    rw [LIn] at h
    obtain ⟨⟨v0, v1, v2, v3, h0, h1, h2, h3, hj⟩, hl⟩ := h
    obtain ⟨news, n1, n2, n3, n4⟩ := items_cells l (o + 4) hl
    obtain ⟨p0, p1, p2, p3⟩ := one_cells hj
    refine ⟨v0 :: v1 :: v2 :: v3 :: news, by simp only [List.length_cons]; omega, fun j u hu => ?_, fun u hu => ?_, fun i j hi => ?_⟩
    · match j, hu with
      | 0, hu => simp at hu; subst hu; exact h0
      | 1, hu => simp at hu; subst hu; exact h1
      | 2, hu => simp at hu; subst hu; exact h2
      | 3, hu => simp at hu; subst hu; exact h3
      | j + 4, hu =>
        have := n2 j u (by simpa using hu)
        rw [show o + (j + 4) = o + 4 + j by omega]; exact this
    · simp only [List.mem_cons] at hu
      rcases hu with rfl | rfl | rfl | rfl | hu
      · exact p0
      · exact p1
      · exact p2
      · exact p3
      · exact n3 u hu
    · match i, hi with
      | 0, hi =>
        obtain rfl : t = j := by simpa using hi
        exact ⟨v0, v1, v2, v3, by simp, by simp, by simp, by simp, hj⟩
      | i + 1, hi =>
        obtain ⟨u0, u1, u2, u3, e0, e1, e2, e3, he⟩ := n4 i j (by simpa using hi)
        refine ⟨u0, u1, u2, u3, ?_, ?_, ?_, ?_, he⟩
        · rw [show (i + 1) * 4 = i * 4 + 4 by omega]; simpa using e0
        · rw [show (i + 1) * 4 + 1 = (i * 4 + 1) + 4 by omega]; simpa using e1
        · rw [show (i + 1) * 4 + 2 = (i * 4 + 2) + 4 by omega]; simpa using e2
        · rw [show (i + 1) * 4 + 3 = (i * 4 + 3) + 4 by omega]; simpa using e3
theorem cloneItems_any (P : Nat → Prop) (l : List J) (A : Option Addr) (c : Nat) (hn : l.length ≤ 1000000) (w : World) (h : SJ w P l A) :
    Calls Tryd.prog 42 #[.slice A l.length c] w fun e w' => ∃ A' c', e = .returned (.slice A' l.length c') ∧ RowJ w' w.heap.size P A' l ∧ Below w.heap.size w w' := by
  cases A with
  | none =>
    have h0 : l = [] := by
      rcases Nat.eq_zero_or_pos l.length with h0 | h0
      · exact List.eq_nil_of_length_eq_zero h0
      · obtain ⟨_, _, h1, _⟩ := h h0; cases h1
    subst h0
    refine (Tryd.slices_CloneJ_nil 0 c w).mono ?_
    rintro e w' ⟨rfl, rfl⟩
    exact ⟨none, 0, rfl, fun h => absurd h (Nat.lt_irrefl 0), Below.refl _ _⟩
  | some a =>
    obtain ⟨news, n1, n2, n3, n4⟩ : ∃ news : List Value, news.length = l.length * 4 ∧ (∀ j u, news[j]? = some u → w.cell? (a.add j) = some u) ∧ (∀ u ∈ news, u.oneCell' = true) ∧ ∀ i j, l[i]? = some j → ∃ v0 v1 v2 v3, news[i * 4]? = some v0 ∧ news[i * 4 + 1]? = some v1 ∧ news[i * 4 + 2]? = some v2 ∧ news[i * 4 + 3]? = some v3 ∧ JIn w P j (.agg #[v0, v1, v2, v3]) := by
      rcases Nat.eq_zero_or_pos l.length with h0 | h0
      · obtain rfl := List.eq_nil_of_length_eq_zero h0
        exact ⟨[], rfl, fun j u h => by simp at h, fun u h => (by cases h), fun i j h => by simp at h⟩
      · obtain ⟨b, o, h1, _, h2⟩ := h h0
        injection h1 with h1
        subst h1
        obtain ⟨news, m1, m2, m3, m4⟩ := items_cells l o h2
        exact ⟨news, m1, fun j u hu => by rw [Addr.add_lit]; exact m2 j u hu, m3, m4⟩
    refine (cloneJ_any a l.length c news n1 hn w n2 n3).mono ?_
    rintro e w' ⟨v', rfl, ho, hb⟩
    obtain ⟨A', c', rfl, hr⟩ := own_get ho
    refine ⟨A', c', rfl, fun hp => ?_, hb⟩
    obtain ⟨g, cur, h1, h2, h3, h4⟩ := hr (by omega)
    refine ⟨g, cur, h1, h2, h3, fun i j hi => ?_⟩
    obtain ⟨v0, v1, v2, v3, e0, e1, e2, e3, he⟩ := n4 i j hi
    exact ⟨v0, v1, v2, v3, h4 _ _ e0, h4 _ _ e1, h4 _ _ e2, h4 _ _ e3, he.below hb⟩
set_option maxRecDepth 100000 in
theorem cloneKeys_any (P : Nat → Prop) (ks : List (List UInt8)) (A : Option Addr) (c : Nat) (hn : ks.length ≤ 1000000) (w : World) (h : KIn w P A ks) :
    Calls Tryd.prog 41 #[.slice A ks.length c] w fun e w' => ∃ A' c', e = .returned (.slice A' ks.length c') ∧ RowK w' w.heap.size A' ks ∧ Below w.heap.size w w' := by
  cases A with
  | none =>
    have h0 : ks = [] := by
      rcases Nat.eq_zero_or_pos ks.length with h0 | h0
      · exact List.eq_nil_of_length_eq_zero h0
      · obtain ⟨_, _, h1, _⟩ := h h0; cases h1
    subst h0
    refine (Tryd.slices_Clone_nil 0 c w).mono ?_
    rintro e w' ⟨rfl, rfl⟩
    exact ⟨none, 0, rfl, fun h => absurd h (Nat.lt_irrefl 0), Below.refl _ _⟩
  | some a =>
    rcases Nat.eq_zero_or_pos ks.length with h0 | h0
    · obtain rfl := List.eq_nil_of_length_eq_zero h0
      refine (Tryd.slices_Clone_string_zero a c w).mono ?_
      rintro e w' ⟨v', rfl, ho, _, hb⟩
      obtain ⟨A', c', rfl, _⟩ := own_get ho
      exact ⟨A', c', rfl, fun h => absurd h (Nat.lt_irrefl 0), hb⟩
    · obtain ⟨b, o, h1, _, h2⟩ := h h0
      injection h1 with h1
      subst h1
      obtain ⟨i0, hi, hz0, hz1, hz2⟩ := info_parts sinfo
      have hmx : ks.length ≤ maxLen := by unfold maxLen; omega
      have hcl := Tryd.slices_Clone i0 _ 1 _ hi hz0 hz1 hz2 rfl (by decide) (fun w => Tryd.sizeOf9 w) b o ks.length c (ks.map fun x => Value.string (txt x)) w (by simp) hmx (by omega)
      refine (hcl (fun j u hu => ?_) (fun u hu => ?_)).mono ?_
      · rw [List.getElem?_map] at hu
        cases hx : ks[j]? with
        | none => rw [hx] at hu; cases hu
        | some x => rw [hx] at hu; injection hu with hu; subst hu; exact h2 j x hx
      · obtain ⟨x, _, rfl⟩ := List.mem_map.1 hu; rfl
      · rintro e w' ⟨v', rfl, ho, _, hb⟩
        obtain ⟨A', c', rfl, hr⟩ := own_get ho
        refine ⟨A', c', rfl, fun hp => ?_, hb⟩
        obtain ⟨g, cur, h3, h4, h5, h6⟩ := hr (by omega)
        exact ⟨g, cur, h3, h4, h5, fun i x hx => h6 i _ (by rw [List.getElem?_map, hx]; rfl)⟩
end Go.Proofs.YtmkjoonbjmieoaaDoor
