/-
  PLAIN FACTS ABOUT A TEXT'S LINES: where lines begin and end (rows), places by lines and units (offP), and back (lineN, charP). No program; no condition but those that each theorem says.
-/
import Derived.Test.YtpphkkelikdhkaaDoorPlain
namespace Go.Proofs.YtpphkkelikdhkaaDoor

/-- Is a byte one of a line's end? -/
def isEnd (c : UInt8) : Bool := c == 10 || c == 13
/-- Where the first line ends. -/
def endI (l : List UInt8) : Nat := l.findIdx isEnd
/-- How many bytes the end has that stands here. -/
def endW (l : List UInt8) : Nat := if l.take 2 = [13, 10] then 2 else 1
/-- Where the second line begins. -/
def nextI (l : List UInt8) : Nat := endI l + endW (l.drop (endI l))

theorem endI_le (l : List UInt8) : endI l ≤ l.length := List.findIdx_le_length
theorem endW_12 (l : List UInt8) : 1 ≤ endW l ∧ endW l ≤ 2 := by unfold endW; split <;> omega
theorem endW_le (l : List UInt8) (h : l ≠ []) : endW l ≤ l.length := by
  unfold endW
  split
  · rename_i e
    have := congrArg List.length e
    rw [List.length_take] at this
    simp at this
    omega
  · cases l with
    | nil => exact absurd rfl h
    | cons _ _ => simp
theorem nextI_le (l : List UInt8) (h : endI l < l.length) : nextI l ≤ l.length := by
  have := endW_le (l.drop (endI l)) (fun e => by have := congrArg List.length e; rw [List.length_drop] at this; simp at this; omega)
  rw [List.length_drop] at this
  unfold nextI
  omega
theorem nextI_gt (l : List UInt8) : endI l < nextI l ∧ nextI l ≤ endI l + 2 := by
  have := endW_12 (l.drop (endI l))
  unfold nextI
  omega
theorem endI_at (l : List UInt8) (h : endI l < l.length) : isEnd l[endI l] = true := List.findIdx_getElem (w := h)
theorem endI_not (l : List UInt8) : ∀ c ∈ l.take (endI l), isEnd c = false := by
  intro c hc
  obtain ⟨i, hi, rfl⟩ := List.mem_iff_getElem.1 hc
  rw [List.length_take] at hi
  rw [List.getElem_take]
  have := List.not_of_lt_findIdx (p := isEnd) (xs := l) (i := i) (by unfold endI at hi; omega)
  simpa using this
theorem endI_append (a b : List UInt8) (h : ∀ c ∈ a, isEnd c = false) : endI (a ++ b) = a.length + endI b := by
  induction a with
  | nil => simp
  | cons c t ih =>
    have h1 : isEnd c = false := h c List.mem_cons_self
    have := ih (fun x hx => h x (List.mem_cons_of_mem _ hx))
    unfold endI at *
    rw [List.cons_append, List.findIdx_cons, h1, this]
    simp
    omega
theorem endI_cons_true (c : UInt8) (t : List UInt8) (h : isEnd c = true) : endI (c :: t) = 0 := by
  unfold endI
  rw [List.findIdx_cons, h]
  rfl
theorem endI_none (l : List UInt8) (h : ∀ c ∈ l, isEnd c = false) : endI l = l.length := by
  have := endI_append l [] h
  simpa [endI] using this

/-- The lines of a text that stands at a place: where each begins, and ends. -/
def rows (l : List UInt8) (k : Nat) : List (Nat × Nat) :=
  if _h : endI l < l.length then (k, k + endI l) :: rows (l.drop (nextI l)) (k + nextI l) else [(k, k + l.length)]
  termination_by l.length
  decreasing_by
    have := nextI_gt l
    rw [List.length_drop]
    omega
theorem rows_more (l : List UInt8) (k : Nat) (h : endI l < l.length) : rows l k = (k, k + endI l) :: rows (l.drop (nextI l)) (k + nextI l) := by rw [rows, dif_pos h]
theorem rows_last (l : List UInt8) (k : Nat) (h : ¬ endI l < l.length) : rows l k = [(k, k + l.length)] := by rw [rows, dif_neg h]
theorem by_rows {motive : List UInt8 → Prop} (last : ∀ l, ¬ endI l < l.length → motive l) (more : ∀ l, endI l < l.length → motive (l.drop (nextI l)) → motive l) (l : List UInt8) : motive l := by
  obtain ⟨n, hn⟩ : ∃ n, l.length = n := ⟨_, rfl⟩
  induction n using Nat.strongRecOn generalizing l with
  | ind n ih =>
    by_cases h : endI l < l.length
    · have := nextI_gt l
      exact more l h (ih (l.drop (nextI l)).length (by rw [List.length_drop]; omega) _ rfl)
    · exact last l h
theorem rows_first (l : List UInt8) (k : Nat) : ∃ t r, rows l k = (k, t) :: r := by
  by_cases h : endI l < l.length
  · exact ⟨_, _, rows_more l k h⟩
  · exact ⟨_, _, rows_last l k h⟩
theorem rows_pos (l : List UInt8) (k : Nat) : 0 < (rows l k).length := by
  obtain ⟨t, r, e⟩ := rows_first l k
  rw [e]; simp
theorem rows_len (l : List UInt8) : ∀ k, (rows l k).length ≤ l.length + 1 := by
  induction l using by_rows with
  | last l h => intro k; rw [rows_last l k h]; simp
  | more l h ih =>
    intro k
    rw [rows_more l k h]
    have := ih (k + nextI l)
    rw [List.length_drop] at this
    have h1 := nextI_gt l
    have h2 := nextI_le l h
    rw [List.length_cons]
    omega
theorem rows_bound (l : List UInt8) : ∀ (k i : Nat) (r : Nat × Nat), (rows l k)[i]? = some r → k ≤ r.1 ∧ r.1 ≤ r.2 ∧ r.2 ≤ k + l.length := by
  induction l using by_rows with
  | last l h =>
    intro k i r hr
    rw [rows_last l k h] at hr
    cases i with
    | zero => obtain rfl : (k, k + l.length) = r := by simpa using hr
              simp
    | succ i => simp at hr
  | more l h ih =>
    intro k i r hr
    rw [rows_more l k h] at hr
    have h1 := nextI_gt l
    have h2 := nextI_le l h
    cases i with
    | zero => obtain rfl : (k, k + endI l) = r := by simpa using hr
              simp; omega
    | succ i =>
      have := ih (k + nextI l) i r (by simpa using hr)
      rw [List.length_drop] at this
      omega
theorem rows_step (l : List UInt8) : ∀ (k i : Nat) (r q : Nat × Nat), (rows l k)[i]? = some r → (rows l k)[i + 1]? = some q → r.2 < k + l.length ∧ q.1 = r.2 + endW (l.drop (r.2 - k)) := by
  induction l using by_rows with
  | last l h =>
    intro k i r q hr hq
    rw [rows_last l k h] at hq
    simp at hq
  | more l h ih =>
    intro k i r q hr hq
    rw [rows_more l k h] at hr hq
    have h1 := nextI_gt l
    have h2 := nextI_le l h
    cases i with
    | zero =>
      obtain rfl : (k, k + endI l) = r := by simpa using hr
      obtain ⟨t, s, e⟩ := rows_first (l.drop (nextI l)) (k + nextI l)
      rw [e] at hq
      obtain rfl : (k + nextI l, t) = q := by simpa using hq
      refine ⟨by simp; omega, ?_⟩
      show k + nextI l = k + endI l + endW (l.drop (k + endI l - k))
      rw [Nat.add_sub_cancel_left]
      unfold nextI
      omega
    | succ i =>
      have := ih (k + nextI l) i r q (by simpa using hr) (by simpa using hq)
      have hb := rows_bound _ _ _ _ (show (rows (l.drop (nextI l)) (k + nextI l))[i]? = some r by simpa using hr)
      rw [List.length_drop, List.drop_drop, show nextI l + (r.2 - (k + nextI l)) = r.2 - k by omega] at this
      omega
theorem rows_end (l : List UInt8) : ∀ (k i : Nat) (r : Nat × Nat), (rows l k)[i]? = some r → (rows l k)[i + 1]? = none → r.2 = k + l.length := by
  induction l using by_rows with
  | last l h =>
    intro k i r hr hq
    rw [rows_last l k h] at hr
    cases i with
    | zero => obtain rfl : (k, k + l.length) = r := by simpa using hr
              rfl
    | succ i => simp at hr
  | more l h ih =>
    intro k i r hr hq
    rw [rows_more l k h] at hr hq
    have h2 := nextI_le l h
    cases i with
    | zero =>
      have := rows_pos (l.drop (nextI l)) (k + nextI l)
      rw [List.getElem?_cons_succ, List.getElem?_eq_none_iff] at hq
      omega
    | succ i =>
      have := ih (k + nextI l) i r (by simpa using hr) (by simpa using hq)
      rw [List.length_drop] at this
      omega
theorem rows_noend (l : List UInt8) : ∀ (k i : Nat) (r : Nat × Nat), (rows l k)[i]? = some r → ∀ c ∈ (l.drop (r.1 - k)).take (r.2 - r.1), isEnd c = false := by
  induction l using by_rows with
  | last l h =>
    intro k i r hr c hc
    rw [rows_last l k h] at hr
    cases i with
    | zero =>
      obtain rfl : (k, k + l.length) = r := by simpa using hr
      have h2 := endI_le l
      have h1 := endI_not l c
      rw [show endI l = l.length by omega, List.take_length] at h1
      refine h1 ?_
      have := List.mem_of_mem_take hc
      simpa using this
    | succ i => simp at hr
  | more l h ih =>
    intro k i r hr c hc
    rw [rows_more l k h] at hr
    cases i with
    | zero =>
      obtain rfl : (k, k + endI l) = r := by simpa using hr
      have h1 := endI_not l c
      refine h1 ?_
      simpa using hc
    | succ i =>
      have hb := rows_bound _ _ _ _ (show (rows (l.drop (nextI l)) (k + nextI l))[i]? = some r by simpa using hr)
      refine ih (k + nextI l) i r (by simpa using hr) c ?_
      rw [List.drop_drop, show nextI l + (r.1 - (k + nextI l)) = r.1 - k by omega]
      exact hc

/-- The document's way: byte by byte; was the byte ahead a 13? -/
def rowsD : List UInt8 → Bool → Nat → Nat → List (Nat × Nat)
  | [], _, f, k => [(f, k)]
  | c :: t, p, f, k => if c = 10 ∧ p = true then rowsD t false (k + 1) (k + 1) else if isEnd c then (f, k) :: rowsD t (c == 13) (k + 1) (k + 1) else rowsD t false f (k + 1)
theorem rowsD_skip (a b : List UInt8) : ∀ f k, (∀ c ∈ a, isEnd c = false) → rowsD (a ++ b) false f k = rowsD b false f (k + a.length) := by
  induction a with
  | nil => intro f k _; rfl
  | cons c t ih =>
    intro f k h
    have h1 : isEnd c = false := h c List.mem_cons_self
    rw [List.cons_append, rowsD, if_neg (fun x => by cases x.2), h1, if_neg (by simp), ih f (k + 1) (fun x hx => h x (List.mem_cons_of_mem _ hx))]
    rw [List.length_cons, show k + 1 + t.length = k + (t.length + 1) by omega]
theorem rowsD_rows (l : List UInt8) : ∀ k, rowsD l false k k = rows l k := by
  induction l using by_rows with
  | last l h =>
    intro k
    have h2 := endI_le l
    have h1 := endI_not l
    rw [show endI l = l.length by omega, List.take_length] at h1
    have := rowsD_skip l [] k k h1
    rw [List.append_nil] at this
    rw [this, rows_last l k h]
    rfl
  | more l h ih =>
    intro k
    have hs := rowsD_skip (l.take (endI l)) (l.drop (endI l)) k k (endI_not l)
    rw [List.take_append_drop] at hs
    have hlt : (l.take (endI l)).length = endI l := by rw [List.length_take]; omega
    rw [hlt] at hs
    have he := endI_at l h
    have hd : l.drop (endI l) = l[endI l] :: l.drop (endI l + 1) := List.drop_eq_getElem_cons h
    rw [hs, rows_more l k h, ← ih, hd, rowsD, if_neg (fun x => by cases x.2), he, if_pos rfl]
    congr 1
    have hw : nextI l = endI l + endW (l.drop (endI l)) := rfl
    rw [hd] at hw
    unfold endW at hw
    by_cases h13 : l[endI l] = 13
    · rw [h13] at hw ⊢
      cases ht : l.drop (endI l + 1) with
      | nil =>
        rw [ht] at hw
        rw [if_neg (by decide)] at hw
        rw [hw, ht, show k + (endI l + 1) = k + endI l + 1 by omega]
        rfl
      | cons d t =>
        rw [ht] at hw
        by_cases h10 : d = 10
        · subst h10
          rw [if_pos (by simp)] at hw
          have ht2 : l.drop (endI l + 2) = t := by
            have : (l.drop (endI l + 1)).drop 1 = l.drop (endI l + 1 + 1) := List.drop_drop
            rw [← this, ht]
            rfl
          rw [hw, ht2, rowsD, if_pos ⟨rfl, by decide⟩, show k + endI l + 1 + 1 = k + (endI l + 2) by omega]
        · rw [if_neg (by simp [h10])] at hw
          rw [hw, ht, show k + (endI l + 1) = k + endI l + 1 by omega]
          simp only [rowsD, h10, false_and, if_false]
    · rw [if_neg (fun x => h13 (by have := congrArg (fun z => z[0]?) x; simp [List.getElem?_eq_getElem h] at this; exact this))] at hw
      rw [hw, show (l[endI l] == 13) = false by simpa using h13, show k + (endI l + 1) = k + endI l + 1 by omega]

/-- How many lines begin at a place or ahead of it. -/
def upto (rs : List (Nat × Nat)) (p : Nat) : Nat := (rs.takeWhile (fun r => decide (r.1 ≤ p))).length
theorem upto_le (rs : List (Nat × Nat)) (p : Nat) : upto rs p ≤ rs.length := (List.takeWhile_sublist _).length_le
theorem upto_cons (r : Nat × Nat) (rs : List (Nat × Nat)) (p : Nat) : upto (r :: rs) p = if r.1 ≤ p then upto rs p + 1 else 0 := by
  unfold upto
  rw [List.takeWhile_cons]
  by_cases h : r.1 ≤ p
  · simp [h]
  · simp [h]
theorem upto_iff (l : List UInt8) (p : Nat) : ∀ (k i : Nat) (r : Nat × Nat), (rows l k)[i]? = some r → (i < upto (rows l k) p ↔ r.1 ≤ p) := by
  induction l using by_rows with
  | last l h =>
    intro k i r hr
    rw [rows_last l k h] at hr ⊢
    cases i with
    | zero =>
      obtain rfl : (k, k + l.length) = r := by simpa using hr
      rw [upto_cons]
      show 0 < (if k ≤ p then upto [] p + 1 else 0) ↔ k ≤ p
      by_cases hk : k ≤ p
      · simp [hk]
      · simp [hk]
    | succ i => simp at hr
  | more l h ih =>
    intro k i r hr
    have hb := rows_bound _ _ _ _ hr
    rw [rows_more l k h] at hr ⊢
    rw [upto_cons]
    show i < (if k ≤ p then upto _ p + 1 else 0) ↔ r.1 ≤ p
    cases i with
    | zero =>
      obtain rfl : (k, k + endI l) = r := by simpa using hr
      by_cases hk : k ≤ p
      · simp [hk]
      · simp [hk]
    | succ i =>
      have := ih (k + nextI l) i r (by simpa using hr)
      by_cases hk : k ≤ p
      · rw [if_pos hk, ← this]
        omega
      · rw [if_neg hk]
        omega
theorem upto_pos (l : List UInt8) (p : Nat) : 0 < upto (rows l 0) p := by
  obtain ⟨t, r, e⟩ := rows_first l 0
  exact (upto_iff l p 0 0 (0, t) (by rw [e]; rfl)).2 (Nat.zero_le _)
theorem upto_mono (l : List UInt8) (p q : Nat) (h : p ≤ q) : upto (rows l 0) p ≤ upto (rows l 0) q := by
  have h1 := upto_pos l p
  have h2 := upto_le (rows l 0) p
  have hr := List.getElem?_eq_getElem (show upto (rows l 0) p - 1 < (rows l 0).length by omega)
  have h3 := (upto_iff l p 0 _ _ hr).1 (by omega)
  have h4 := (upto_iff l q 0 _ _ hr).2 (by omega)
  omega

/-- The line of a place. -/
def lineN (l : List UInt8) (p : Nat) : Nat := upto (rows l 0) p - 1
def rowN (l : List UInt8) (n : Nat) : Nat × Nat := (rows l 0).getD n (0, 0)
theorem rowN_eq {l : List UInt8} {n : Nat} {r : Nat × Nat} (h : (rows l 0)[n]? = some r) : rowN l n = r := by
  unfold rowN
  rw [List.getD_eq_getElem?_getD, h]
  rfl
theorem rowN_some {l : List UInt8} {n : Nat} (h : n < (rows l 0).length) : (rows l 0)[n]? = some (rowN l n) := by
  have := List.getElem?_eq_getElem h
  rw [rowN_eq this]
  exact this
theorem lineN_lt (l : List UInt8) (p : Nat) : lineN l p < (rows l 0).length := by
  have h1 := upto_pos l p
  have h2 := upto_le (rows l 0) p
  unfold lineN
  omega
theorem lineN_some (l : List UInt8) (p : Nat) : (rows l 0)[lineN l p]? = some (rowN l (lineN l p)) := rowN_some (lineN_lt l p)
theorem lineN_from (l : List UInt8) (p : Nat) : (rowN l (lineN l p)).1 ≤ p := by
  have h1 := upto_pos l p
  exact (upto_iff l p 0 _ _ (lineN_some l p)).1 (by unfold lineN; omega)
theorem lineN_next (l : List UInt8) (p : Nat) (q : Nat × Nat) (h : (rows l 0)[lineN l p + 1]? = some q) : p < q.1 := by
  have h1 := upto_pos l p
  have h2 : ¬ lineN l p + 1 < upto (rows l 0) p := by unfold lineN; omega
  have h3 : ¬ q.1 ≤ p := fun x => h2 ((upto_iff l p 0 _ _ h).2 x)
  omega
/-- A line is the one of a place, if it begins there or ahead, and the next one behind. -/
theorem lineN_of (l : List UInt8) (p n : Nat) (r : Nat × Nat) (h : (rows l 0)[n]? = some r) (h1 : r.1 ≤ p) (h2 : ∀ q, (rows l 0)[n + 1]? = some q → p < q.1) : lineN l p = n := by
  have a := (upto_iff l p 0 _ _ h).2 h1
  have b := upto_le (rows l 0) p
  unfold lineN
  by_cases hc : n + 1 < (rows l 0).length
  · have hq := List.getElem?_eq_getElem hc
    have c : ¬ n + 1 < upto (rows l 0) p := fun x => by
      have := (upto_iff l p 0 _ _ hq).1 x
      have := h2 _ hq
      omega
    omega
  · omega
/-- The bytes of a line. -/
def piece (l : List UInt8) (r : Nat × Nat) : List UInt8 := (l.drop r.1).take (r.2 - r.1)
theorem piece_len {l : List UInt8} {n : Nat} {r : Nat × Nat} (h : (rows l 0)[n]? = some r) : (piece l r).length = r.2 - r.1 := by
  have := rows_bound _ _ _ _ h
  unfold piece
  rw [List.length_take, List.length_drop]
  omega
/-- The units ahead of a place, in its line. -/
def charP (l : List UInt8) (p : Nat) : Nat := unitsAt (piece l (rowN l (lineN l p))) ((p : Int) - (rowN l (lineN l p)).1)
/-- What is no place is the one next to it. -/
def clip (l : List UInt8) (p : Int) : Nat := (min (max p 0) l.length).toNat
theorem clip_le (l : List UInt8) (p : Int) : clip l p ≤ l.length := by unfold clip; omega
theorem clip_nat (l : List UInt8) (p : Nat) (h : p ≤ l.length) : clip l p = p := by unfold clip; omega
/-- The place of a line and units (of a line below 0, of units below 0: no matter). -/
def offP (l : List UInt8) (n : Int) (u : Int) : Nat :=
  if n.toNat < (rows l 0).length then (rowN l n.toNat).1 + byteAt (piece l (rowN l n.toNat)) u else l.length
theorem offP_beyond {l : List UInt8} {n u : Int} (h : ¬ n.toNat < (rows l 0).length) : offP l n u = l.length := by unfold offP; rw [if_neg h]
theorem offP_row {l : List UInt8} {n : Int} (u : Int) {r : Nat × Nat} (h : (rows l 0)[n.toNat]? = some r) : offP l n u = r.1 + byteAt (piece l r) u := by
  unfold offP
  rw [if_pos (List.getElem?_eq_some_iff.1 h).1, rowN_eq h]
theorem offP_le (l : List UInt8) (n u : Int) : offP l n u ≤ l.length := by
  by_cases h : n.toNat < (rows l 0).length
  · have hr := rowN_some h
    rw [offP_row u hr]
    have h1 := byteAt_le (piece l (rowN l n.toNat)) u
    have h2 := rows_bound _ _ _ _ hr
    rw [piece_len hr] at h1
    omega
  · rw [offP_beyond h]
    exact Nat.le_refl _
theorem offP_in {l : List UInt8} {n : Int} (u : Int) {r : Nat × Nat} (h : (rows l 0)[n.toNat]? = some r) : r.1 ≤ offP l n u ∧ offP l n u ≤ r.2 := by
  rw [offP_row u h]
  have h1 := byteAt_le (piece l r) u
  have h2 := rows_bound _ _ _ _ h
  rw [piece_len h] at h1
  omega
end Go.Proofs.YtpphkkelikdhkaaDoor
