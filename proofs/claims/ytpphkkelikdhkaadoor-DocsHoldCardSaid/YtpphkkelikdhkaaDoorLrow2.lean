/-
  PLAIN FACTS ABOUT PLACES BY LINES: a place's line and units lead back to it, or to what it is in the midst of; both ways rise; what stands behind a text changes nothing ahead. No program; no condition but those that each theorem says.
-/
import Derived.Test.YtpphkkelikdhkaaDoorLrow
namespace Go.Proofs.YtpphkkelikdhkaaDoor

theorem hit_wd (x : List UInt8) : ∀ m : Nat, m ≤ x.length → byteAt x (unitsAt x m) ≠ m → m < byteAt x (unitsAt x m) + wd (x.drop (byteAt x (unitsAt x m))) ∧ 0 ≤ pt (x.drop (byteAt x (unitsAt x m))) ∧ x.drop (byteAt x (unitsAt x m)) ≠ [] := by
  induction x using by_pieces with
  | nil => intro m hm h; rw [byteAt_nil] at h; simp at hm; omega
  | cons x hx ih =>
    intro m hm h
    by_cases hw : (m : Int) < wd x
    · rw [unitsAt_lt x m hx hw] at h ⊢
      rw [show ((0 : Nat) : Int) = 0 from rfl, byteAt_zero] at h ⊢
      rw [List.drop_zero]
      refine ⟨by omega, ?_, hx⟩
      by_cases hp : pt x < 0
      · have := (pt_neg x hp).2
        omega
      · omega
    · rw [unitsAt_ge x m hx hw] at h ⊢
      have hb := byteAt_ge x (((un x + unitsAt (x.drop (wd x)) ((m : Int) - wd x)) : Nat) : Int) hx (by omega)
      rw [show (((un x + unitsAt (x.drop (wd x)) ((m : Int) - wd x) : Nat) : Int) - (un x : Int)) = ((unitsAt (x.drop (wd x)) ((m : Int) - wd x) : Nat) : Int) by omega, show ((m : Int) - (wd x : Int)) = ((m - wd x : Nat) : Int) by omega] at hb
      rw [show ((m : Int) - (wd x : Int)) = ((m - wd x : Nat) : Int) by omega] at h ⊢
      rw [hb] at h ⊢
      obtain ⟨h1, h2, h3⟩ := ih (m - wd x) (by rw [List.length_drop]; omega) (by omega)
      rw [← List.drop_drop]
      exact ⟨by omega, h2, h3⟩
theorem drop_row {l : List UInt8} {r : Nat × Nat} (h1 : r.1 ≤ r.2) (_ : r.2 ≤ l.length) : l.drop r.1 = piece l r ++ l.drop r.2 := by
  unfold piece
  have := List.take_append_drop (r.2 - r.1) (l.drop r.1)
  rw [List.drop_drop, show r.1 + (r.2 - r.1) = r.2 by omega] at this
  exact this.symm
theorem endW_two {l : List UInt8} (h : endW l = 2) : l.take 2 = [13, 10] := by
  unfold endW at h
  by_cases e : l.take 2 = [13, 10]
  · exact e
  · rw [if_neg e] at h; omega
theorem take2_nth {l : List UInt8} {k : Nat} (h : (l.drop k).take 2 = [13, 10]) : k + 1 < l.length ∧ nth l k = 13 ∧ nth l (k + 1) = 10 := by
  have hl := congrArg List.length h
  rw [List.length_take, List.length_drop] at hl
  simp at hl
  have h0 := congrArg (fun z => z[0]?) h
  have h1 := congrArg (fun z => z[1]?) h
  simp [List.getElem?_drop] at h0 h1
  refine ⟨by omega, ?_, ?_⟩
  · unfold nth; rw [List.getD_eq_getElem?_getD, h0]; rfl
  · unfold nth; rw [List.getD_eq_getElem?_getD, h1]; rfl
/-- The place of a place's line and units. -/
def backP (l : List UInt8) (p : Nat) : Nat := offP l (lineN l p) (charP l p)
theorem back_line (l : List UInt8) (p : Nat) (hp : p ≤ l.length) : backP l p ≤ p ∧ p - backP l p ≤ 3 ∧
    (backP l p = p ∨ (p - backP l p = 1 ∧ p < l.length ∧ nth l (backP l p) = 13 ∧ nth l p = 10) ∨ p < backP l p + wd (l.drop (backP l p))) := by
  have hr := lineN_some l p
  have hf := lineN_from l p
  have hnx := lineN_next l p
  have hb := rows_bound l 0 _ _ hr
  have hpl := piece_len hr
  unfold backP
  rw [offP_row (n := ((lineN l p : Nat) : Int)) _ (by rw [Int.toNat_natCast]; exact hr)]
  unfold charP
  have hst := rows_step l 0 (lineN l p) (rowN l (lineN l p))
  have hen := rows_end l 0 (lineN l p) (rowN l (lineN l p)) hr
  generalize rowN l (lineN l p) = r at *
  rw [show ((p : Int) - (r.1 : Int)) = ((p - r.1 : Nat) : Int) by omega]
  by_cases hin : p ≤ r.2
  · have hbp := back_place (piece l r) (p - r.1)
    have hh := hit_wd (piece l r) (p - r.1) (by omega)
    refine ⟨by omega, by have := hbp.2.1 (by omega); omega, ?_⟩
    by_cases he : byteAt (piece l r) (unitsAt (piece l r) ((p - r.1 : Nat) : Int)) = p - r.1
    · exact .inl (by omega)
    · obtain ⟨h1, h2, h3⟩ := hh he
      have hjl := byteAt_le (piece l r) (unitsAt (piece l r) ((p - r.1 : Nat) : Int))
      generalize byteAt (piece l r) (unitsAt (piece l r) ((p - r.1 : Nat) : Int)) = j at *
      refine .inr (.inr ?_)
      have hd : l.drop (r.1 + j) = (piece l r).drop j ++ l.drop r.2 := by
        rw [← List.drop_drop, drop_row (l := l) hb.2.1 (by omega), List.drop_append_of_le_length (by omega)]
      have hw : wd (l.drop (r.1 + j)) = wd ((piece l r).drop j) := by
        unfold wd
        rw [hd, dec_append _ _ h3 h2]
      rw [hw]
      omega
  · cases hq : (rows l 0)[lineN l p + 1]? with
    | none => have := hen hq; omega
    | some q =>
      have h1 := hnx q hq
      have h2 := (hst q hr hq).2
      rw [Nat.sub_zero] at h2
      have h3 := endW_12 (l.drop r.2)
      obtain ⟨h4, h5, h6⟩ := take2_nth (endW_two (l := l.drop r.2) (by omega))
      have h7 : p = r.2 + 1 := by omega
      have h8 : byteAt (piece l r) (unitsAt (piece l r) ((p - r.1 : Nat) : Int)) = r.2 - r.1 := by
        rw [unitsAt_end _ _ (by omega), byteAt_end _ _ (Int.le_refl _), hpl]
      rw [h8, show r.1 + (r.2 - r.1) = r.2 by omega]
      exact ⟨by omega, by omega, .inr (.inl ⟨by omega, by omega, h5, by rw [h7]; exact h6⟩)⟩

theorem rows_lt (l : List UInt8) (k : Nat) (i : Nat) (r : Nat × Nat) (hr : (rows l k)[i]? = some r) : ∀ (d : Nat) (q : Nat × Nat), (rows l k)[i + 1 + d]? = some q → r.2 < q.1 := by
  intro d
  induction d with
  | zero =>
    intro q hq
    have := (rows_step l k i r q hr hq).2
    have := endW_12 (l.drop (r.2 - k))
    omega
  | succ d ih =>
    intro q hq
    have hlt : i + 1 + d < (rows l k).length := by have := (List.getElem?_eq_some_iff.1 hq).1; omega
    have hm := List.getElem?_eq_getElem hlt
    have h1 := ih _ hm
    have h2 := (rows_step l k _ _ q hm hq).2
    have h3 := endW_12 (l.drop ((rows l k)[i + 1 + d].2 - k))
    have h4 := rows_bound l k _ _ hm
    omega
theorem off_mono (l : List UInt8) (a b c d : Nat) (h : a < c ∨ a = c ∧ b ≤ d) : offP l a b ≤ offP l c d := by
  by_cases hc : c < (rows l 0).length
  · have hq := rowN_some hc
    rcases h with h | ⟨rfl, h⟩
    · have hr := rowN_some (show a < (rows l 0).length by omega)
      have h1 := (offP_in (l := l) (n := ((a : Nat) : Int)) b (by rw [Int.toNat_natCast]; exact hr)).2
      have h2 := (offP_in (l := l) (n := ((c : Nat) : Int)) d (by rw [Int.toNat_natCast]; exact hq)).1
      have h3 := rows_lt l 0 a _ hr (c - a - 1) _ (by rw [show a + 1 + (c - a - 1) = c by omega]; exact hq)
      omega
    · rw [offP_row (n := ((a : Nat) : Int)) b (by rw [Int.toNat_natCast]; exact hq), offP_row (n := ((a : Nat) : Int)) d (by rw [Int.toNat_natCast]; exact hq)]
      have := byteAt_mono (piece l (rowN l a)) b d (by omega)
      omega
  · rw [offP_beyond (n := ((c : Nat) : Int)) (by rw [Int.toNat_natCast]; exact hc)]
    exact offP_le l a b
theorem at_mono (l : List UInt8) (p q : Nat) (h : p ≤ q) : lineN l p ≤ lineN l q ∧ (lineN l p = lineN l q → charP l p ≤ charP l q) := by
  have h1 := upto_mono l p q h
  refine ⟨by unfold lineN; omega, fun e => ?_⟩
  unfold charP
  rw [e]
  exact unitsAt_mono _ _ _ (by omega)

theorem endI_append_left (a b : List UInt8) (h : endI a < a.length) : endI (a ++ b) = endI a := by
  have hd : a = a.take (endI a) ++ a[endI a] :: a.drop (endI a + 1) := by
    rw [← List.drop_eq_getElem_cons h, List.take_append_drop]
  have hl : (a.take (endI a)).length = endI a := by rw [List.length_take]; omega
  have key : endI (a.take (endI a) ++ (a[endI a] :: (a.drop (endI a + 1) ++ b))) = endI a := by
    rw [endI_append _ _ (endI_not a), hl, endI_cons_true _ _ (endI_at a h)]
    rfl
  have e : a ++ b = a.take (endI a) ++ (a[endI a] :: (a.drop (endI a + 1) ++ b)) := by
    rw [← List.cons_append, ← List.append_assoc, ← hd]
  rw [e]
  exact key
theorem rows_count (l : List UInt8) : ∀ j k, (rows l j).length = (rows l k).length := by
  induction l using by_rows with
  | last l h => intro j k; rw [rows_last l j h, rows_last l k h]; rfl
  | more l h ih => intro j k; rw [rows_more l j h, rows_more l k h, List.length_cons, List.length_cons, ih]
theorem endW_append (x b : List UInt8) (hx : x ≠ []) (h : x.getLast? = some 13 → b.head? ≠ some 10) : endW (x ++ b) = endW x := by
  match x, hx, h with
  | [c], _, h =>
    unfold endW
    rw [if_neg (show ¬ [c].take 2 = [13, 10] by simp)]
    by_cases e : ([c] ++ b).take 2 = [13, 10]
    · cases b with
      | nil => simp at e
      | cons d t =>
        have e2 : c = 13 ∧ d = 10 := by simpa using e
        exact absurd (by rw [e2.2]; rfl) (h (by rw [e2.1]; rfl))
    · rw [if_neg e]
  | c :: d :: t, _, _ => rfl
theorem rows_app (b : List UInt8) (a : List UInt8) : ∀ k, (a.getLast? = some 13 → b.head? ≠ some 10) → ∃ init f e rest, rows a k = init ++ [(f, k + a.length)] ∧ rows (a ++ b) k = init ++ (f, e) :: rest ∧ rest.length + 1 = (rows b 0).length := by
  induction a using by_rows with
  | last a h =>
    intro k _
    have hno : ∀ c ∈ a, isEnd c = false := by
      have h1 := endI_not a
      have h2 := endI_le a
      rw [show endI a = a.length by omega, List.take_length] at h1
      exact h1
    have he := endI_append a b hno
    by_cases hb : endI b < b.length
    · have hd : (a ++ b).drop (a.length + endI b) = b.drop (endI b) := by rw [← List.drop_drop, List.drop_left]
      have hn : nextI (a ++ b) = a.length + nextI b := by
        unfold nextI
        rw [he, hd]
        omega
      have hd2 : (a ++ b).drop (nextI (a ++ b)) = b.drop (nextI b) := by rw [hn, ← List.drop_drop, List.drop_left]
      refine ⟨[], k, _, _, by rw [rows_last a k h]; rfl, by rw [rows_more (a ++ b) k (by rw [List.length_append]; omega)]; rfl, ?_⟩
      rw [hd2, rows_more b 0 hb, List.length_cons, rows_count (b.drop (nextI b)) _ (0 + nextI b)]
    · refine ⟨[], k, _, _, by rw [rows_last a k h]; rfl, by rw [rows_last (a ++ b) k (by rw [List.length_append]; omega)]; rfl, ?_⟩
      rw [rows_last b 0 hb]
      rfl
  | more a h ih =>
    intro k hc
    have he := endI_append_left a b h
    have hne : a.drop (endI a) ≠ [] := fun e => by have := congrArg List.length e; rw [List.length_drop] at this; simp at this; omega
    have hl1 := nextI_le a h
    have hlast : ∀ n, (a.drop n).getLast? = some 13 → a.getLast? = some 13 := by
      intro n hn
      rw [List.getLast?_drop] at hn
      split at hn
      · cases hn
      · exact hn
    have hn : nextI (a ++ b) = nextI a := by
      unfold nextI
      rw [he, List.drop_append_of_le_length (by omega), endW_append _ _ hne (fun x => hc (hlast _ x))]
    have hd : (a ++ b).drop (nextI a) = a.drop (nextI a) ++ b := List.drop_append_of_le_length hl1
    obtain ⟨init, f, e, rest, h1, h2, h3⟩ := ih (k + nextI a) (fun x => hc (hlast _ x))
    refine ⟨(k, k + endI a) :: init, f, e, rest, ?_, ?_, h3⟩
    · rw [rows_more a k h, h1, List.length_drop, show k + nextI a + (a.length - nextI a) = k + a.length by omega]
      rfl
    · rw [rows_more (a ++ b) k (by rw [List.length_append]; omega), he, hn, hd, h2]
      rfl
/-- Text behind a text. -/
structure Apart (a b : List UInt8) : Prop where
  count : (rows (a ++ b) 0).length + 1 = (rows a 0).length + (rows b 0).length
  off : ∀ (j u : Nat), j + 1 < (rows a 0).length → offP (a ++ b) j u = offP a j u
  line : ∀ (j u : Nat), j + 1 < (rows a 0).length → lineN (a ++ b) (offP a j u) = lineN a (offP a j u)
  char : ∀ (j u : Nat), j + 1 < (rows a 0).length → charP (a ++ b) (offP a j u) = charP a (offP a j u)
theorem piece_app (a b : List UInt8) (r : Nat × Nat) (h1 : r.1 ≤ r.2) (h2 : r.2 ≤ a.length) : piece (a ++ b) r = piece a r := by
  unfold piece
  rw [List.drop_append_of_le_length (by omega), List.take_append_of_le_length (by rw [List.length_drop]; omega)]
theorem apart (a b : List UInt8) (h : a.getLast? = some 13 → b.head? ≠ some 10) : Apart a b := by
  obtain ⟨init, f, e, rest, h1, h2, h3⟩ := rows_app b a 0 h
  have hla : (rows a 0).length = init.length + 1 := by rw [h1]; simp
  have key : ∀ j, j + 1 < (rows a 0).length → ∃ r, (rows a 0)[j]? = some r ∧ (rows (a ++ b) 0)[j]? = some r ∧ r.1 ≤ r.2 ∧ r.2 ≤ a.length ∧ (∀ q, (rows a 0)[j + 1]? = some q → r.2 < q.1) ∧ (∀ q, (rows (a ++ b) 0)[j + 1]? = some q → r.2 < q.1) := by
    intro j hj
    have hji : j < init.length := by omega
    have e1 : (rows a 0)[j]? = some init[j] := by rw [h1, List.getElem?_append_left hji]; exact List.getElem?_eq_getElem hji
    have e2 : (rows (a ++ b) 0)[j]? = some init[j] := by rw [h2, List.getElem?_append_left hji]; exact List.getElem?_eq_getElem hji
    have hb := rows_bound a 0 _ _ e1
    exact ⟨_, e1, e2, hb.2.1, by omega, fun q hq => rows_lt a 0 j _ e1 0 q hq, fun q hq => rows_lt (a ++ b) 0 j _ e2 0 q hq⟩
  have hoff : ∀ (j u : Nat), j + 1 < (rows a 0).length → offP (a ++ b) j u = offP a j u := by
    intro j u hj
    obtain ⟨r, e1, e2, hb1, hb2, _, _⟩ := key j hj
    rw [offP_row (n := ((j : Nat) : Int)) _ (by rw [Int.toNat_natCast]; exact e2), offP_row (n := ((j : Nat) : Int)) _ (by rw [Int.toNat_natCast]; exact e1), piece_app a b r hb1 hb2]
  have hline : ∀ (j u : Nat), j + 1 < (rows a 0).length → lineN (a ++ b) (offP a j u) = j ∧ lineN a (offP a j u) = j := by
    intro j u hj
    obtain ⟨r, e1, e2, hb1, hb2, g1, g2⟩ := key j hj
    have hin := offP_in (l := a) (n := ((j : Nat) : Int)) u (by rw [Int.toNat_natCast]; exact e1)
    exact ⟨lineN_of _ _ j r e2 hin.1 (fun q hq => by have := g2 q hq; omega), lineN_of _ _ j r e1 hin.1 (fun q hq => by have := g1 q hq; omega)⟩
  refine ⟨?_, hoff, fun j u hj => by rw [(hline j u hj).1, (hline j u hj).2], fun j u hj => ?_⟩
  · rw [h2, hla, ← h3]
    simp
    omega
  · obtain ⟨r, e1, e2, hb1, hb2, _, _⟩ := key j hj
    unfold charP
    rw [(hline j u hj).1, (hline j u hj).2, rowN_eq e1, rowN_eq e2, piece_app a b r hb1 hb2]
end Go.Proofs.YtpphkkelikdhkaaDoor
