/-
  PLAIN FACTS ABOUT A VALID TEXT: each place that a change may name stands between two points, so what changes make of a valid text is valid; what Open, Change and Close keep. No program; no condition but those that each theorem says.
-/
import Derived.Test.YtpphkkelikdhkaaDoorOChange2
namespace Go.Proofs.YtpphkkelikdhkaaDoor

theorem nth_take (l : List UInt8) {n k : Nat} (h : k < n) : nth (l.take n) k = nth l k := by
  unfold nth
  rw [List.getD_eq_getElem?_getD, List.getD_eq_getElem?_getD, List.getElem?_take, if_pos h]
theorem dec_take (l : List UInt8) {n : Nat} (hw : wd l ≤ n) (hp : 0 ≤ pt l) : dec (l.take n) = dec l := by
  have h1 := wd_pos l
  unfold dec
  rw [nth_take l (k := 0) (by omega)]
  exact decN_same _ _ _ _ _ _ _ hp (fun h2 => nth_take l (by have : 2 ≤ wd l := h2; omega)) (fun h2 => nth_take l (by have : 3 ≤ wd l := h2; omega)) (fun h2 => nth_take l (by have : 4 ≤ wd l := h2; omega))
/-- A valid text's front, up to behind its first point and further. -/
theorem valid_front (l : List UInt8) (hl : l ≠ []) (hp : 0 ≤ pt l) (k : Nat) (h : valid ((l.drop (wd l)).take k) = true) : valid (l.take (wd l + k)) = true := by
  have hd := dec_take l (n := wd l + k) (by omega) hp
  have hwl := wd_le l hl
  have hw1 := wd_pos l
  have hne : l.take (wd l + k) ≠ [] := by
    intro e
    have := congrArg List.length e
    rw [List.length_take, List.length_nil] at this
    omega
  have e1 : pt (l.take (wd l + k)) = pt l := congrArg Prod.fst hd
  have e2 : wd (l.take (wd l + k)) = wd l := congrArg Prod.snd hd
  rw [valid_cons _ hne, e1, e2, List.drop_take, Nat.add_sub_cancel_left, h, decide_eq_true hp]
  rfl
theorem valid_parts {l : List UInt8} (hl : l ≠ []) (h : valid l = true) : 0 ≤ pt l ∧ valid (l.drop (wd l)) = true := by
  rw [valid_cons _ hl, Bool.and_eq_true, decide_eq_true_eq] at h
  exact h
/-- A place of units in a valid text stands between two points. -/
theorem valid_byteAt (l : List UInt8) : ∀ u : Int, valid l = true → valid (l.take (byteAt l u)) = true := by
  induction l using by_pieces with
  | nil => intro u _; rw [List.take_nil, valid_nil]
  | cons l hl ih =>
    intro u h
    obtain ⟨hp, hv⟩ := valid_parts hl h
    by_cases hu : u < un l
    · rw [byteAt_lt l u hl hu, List.take_zero, valid_nil]
    · rw [byteAt_ge l u hl hu]
      exact valid_front l hl hp _ (ih _ hv)
theorem decN_lead (a b c d : Nat) (h : 2 ≤ (decN a b c d).2) : 128 ≤ a := by
  unfold decN at h
  split at h
  · simp only at h; omega
  · omega
/-- A place ahead of a byte of seven bits in a valid text stands between two points; so does the one behind it. -/
theorem valid_ascii (l : List UInt8) : ∀ k : Nat, valid l = true → k < l.length → nth l k < 128 → valid (l.take k) = true ∧ valid (l.take (k + 1)) = true := by
  induction l using by_pieces with
  | nil => intro k _ h; simp at h
  | cons l hl ih =>
    intro k h hk hn
    obtain ⟨hp, hv⟩ := valid_parts hl h
    by_cases hw : k < wd l
    · have h4 := wd_le4 l
      obtain ⟨w2, w3, w4⟩ := decN_wide (nth l 0) (nth l 1) (nth l 2) (nth l 3)
      have wh := decN_lead (nth l 0) (nth l 1) (nth l 2) (nth l 3)
      have hwd : wd l = (decN (nth l 0) (nth l 1) (nth l 2) (nth l 3)).2 := rfl
      rw [← hwd] at w2 w3 w4 wh
      have hk0 : k = 0 := by
        rcases k with _ | _ | _ | _ | k
        · rfl
        · have := w2 (by omega); have hn' : nth l 1 < 128 := hn; omega
        · have := w3 (by omega); have hn' : nth l 2 < 128 := hn; omega
        · have := w4 (by omega); have hn' : nth l 3 < 128 := hn; omega
        · omega
      subst hk0
      have hw1 : wd l = 1 := by
        have := wd_pos l
        by_cases h2 : 2 ≤ wd l
        · have := wh h2; omega
        · omega
      refine ⟨by rw [List.take_zero, valid_nil], ?_⟩
      have := valid_front l hl hp 0 (by rw [List.take_zero, valid_nil])
      rw [hw1] at this
      exact this
    · have hj : nth (l.drop (wd l)) (k - wd l) = nth l k := by
        unfold nth
        rw [List.getD_eq_getElem?_getD, List.getD_eq_getElem?_getD, List.getElem?_drop, show wd l + (k - wd l) = k by omega]
      obtain ⟨a, b⟩ := ih (k - wd l) hv (by rw [List.length_drop]; omega) (by rw [hj]; exact hn)
      have ha := valid_front l hl hp _ a
      have hb := valid_front l hl hp _ b
      rw [show wd l + (k - wd l) = k by omega] at ha
      rw [show wd l + (k - wd l + 1) = k + 1 by omega] at hb
      exact ⟨ha, hb⟩
theorem valid_rest {l : List UInt8} {k : Nat} (h : valid l = true) (hk : valid (l.take k) = true) : valid (l.drop k) = true := by
  have := (joins (l.drop k) (l.take k) hk).2.1
  rw [List.take_append_drop] at this
  rw [← this]; exact h
theorem valid_join {a b : List UInt8} (ha : valid a = true) (hb : valid b = true) : valid (a ++ b) = true := by rw [(joins b a ha).2.1]; exact hb
theorem end_low {l : List UInt8} {k : Nat} (hk : k < l.length) (h : isEnd l[k] = true) : nth l k < 128 := by
  unfold nth
  rw [List.getD_eq_getElem?_getD, List.getElem?_eq_getElem hk, Option.getD_some]
  unfold isEnd at h
  rw [Bool.or_eq_true, beq_iff_eq, beq_iff_eq] at h
  rcases h with h | h <;> rw [h] <;> decide
/-- The next line of a valid text begins between two points. -/
theorem valid_next {l : List UInt8} (h : valid l = true) (he : endI l < l.length) : valid (l.take (endI l)) = true ∧ valid (l.take (nextI l)) = true := by
  obtain ⟨a, b⟩ := valid_ascii l (endI l) h he (end_low he (endI_at l he))
  refine ⟨a, ?_⟩
  unfold nextI endW
  by_cases h2 : (l.drop (endI l)).take 2 = [13, 10]
  · rw [if_pos h2]
    have hlen : 2 ≤ (l.drop (endI l)).length := by
      have := congrArg List.length h2
      rw [List.length_take] at this
      simp only [List.length_cons, List.length_nil] at this
      omega
    rw [List.length_drop] at hlen
    have hx : nth l (endI l + 1) < 128 := by
      have e : (l.drop (endI l))[1]? = some 10 := by
        have := congrArg (fun x : List UInt8 => x[1]?) h2
        rw [List.getElem?_take, if_pos (by omega)] at this
        exact this
      rw [List.getElem?_drop] at e
      unfold nth
      rw [List.getD_eq_getElem?_getD, e]
      decide
    exact (valid_ascii l (endI l + 1) h (by omega) hx).2
  · rw [if_neg h2]
    exact b
/-- Each line of a valid text begins between two points, and its text is valid. -/
theorem valid_rows (l : List UInt8) : ∀ (k i : Nat) (r : Nat × Nat), valid l = true → (rows l k)[i]? = some r → valid (l.take (r.1 - k)) = true ∧ valid ((l.drop (r.1 - k)).take (r.2 - r.1)) = true := by
  induction l using by_rows with
  | last l h =>
    intro k i r hv hr
    rw [rows_last l k h] at hr
    cases i with
    | zero =>
      obtain rfl : (k, k + l.length) = r := by simpa using hr
      refine ⟨by rw [Nat.sub_self, List.take_zero, valid_nil], ?_⟩
      rw [Nat.sub_self, List.drop_zero, Nat.add_sub_cancel_left, List.take_length]
      exact hv
    | succ i => simp at hr
  | more l h ih =>
    intro k i r hv hr
    obtain ⟨a, b⟩ := valid_next hv h
    rw [rows_more l k h] at hr
    cases i with
    | zero =>
      obtain rfl : (k, k + endI l) = r := by simpa using hr
      refine ⟨by rw [Nat.sub_self, List.take_zero, valid_nil], ?_⟩
      rw [Nat.sub_self, List.drop_zero, Nat.add_sub_cancel_left]
      exact a
    | succ i =>
      have hr' : (rows (l.drop (nextI l)) (k + nextI l))[i]? = some r := by simpa using hr
      obtain ⟨c, d⟩ := ih (k + nextI l) i r (valid_rest hv b) hr'
      have hb := (rows_bound _ _ _ _ hr').1
      refine ⟨?_, ?_⟩
      · rw [show r.1 - k = nextI l + (r.1 - (k + nextI l)) by omega, List.take_add]
        exact valid_join b c
      · rw [List.drop_drop, show nextI l + (r.1 - (k + nextI l)) = r.1 - k by omega] at d
        exact d
/-- A place of a valid text stands between two points. -/
theorem valid_offP {l : List UInt8} (n u : Int) (h : valid l = true) : valid (l.take (offP l n u)) = true := by
  by_cases hn : n.toNat < (rows l 0).length
  · have hr := rowN_some hn
    obtain ⟨a, b⟩ := valid_rows l 0 _ _ h hr
    rw [offP_row u hr, List.take_add]
    rw [Nat.sub_zero] at a b
    refine valid_join a ?_
    have hl := byteAt_le (piece l (rowN l n.toNat)) u
    have hp := valid_byteAt (piece l (rowN l n.toNat)) u b
    rw [piece_len hr] at hl
    have e : (piece l (rowN l n.toNat)).take (byteAt (piece l (rowN l n.toNat)) u) = (l.drop (rowN l n.toNat).1).take (byteAt (piece l (rowN l n.toNat)) u) := by
      show ((l.drop (rowN l n.toNat).1).take ((rowN l n.toNat).2 - (rowN l n.toNat).1)).take _ = _
      rw [List.take_take, Nat.min_eq_left hl]
    rw [e] at hp
    exact hp
  · rw [offP_beyond hn, List.take_length]
    exact h
theorem valid_ofT {c : Chg} {t : ByteArray} (h : valid t.data.toList = true) (he : ofE c t = 0) : valid (ofT c t).data.toList = true := by
  have e2 : ofT c t = t.extract 0 (fromN c t) ++ c.s ++ t.extract (toN c t) t.size := by unfold ofT; rw [he, if_pos rfl]
  have hc : valid c.s.data.toList = true := by
    unfold ofE at he
    by_cases h1 : valid c.s.data.toList = false
    · rw [if_pos h1] at he; cases he
    · cases hv : valid c.s.data.toList with
      | true => rfl
      | false => exact absurd hv h1
  have hf : valid (t.data.toList.take (fromN c t)) = true := by
    unfold fromN
    split
    · rw [List.take_zero, valid_nil]
    · exact valid_offP _ _ h
  have ht : valid (t.data.toList.drop (toN c t)) = true := by
    unfold toN
    split
    · rw [List.drop_eq_nil_of_le (show t.data.toList.length ≤ t.size from Nat.le_refl _), valid_nil]
    · exact valid_rest h (valid_offP _ _ h)
  rw [e2]
  have e3 : (t.extract 0 (fromN c t) ++ c.s ++ t.extract (toN c t) t.size).data.toList = t.data.toList.take (fromN c t) ++ c.s.data.toList ++ t.data.toList.drop (toN c t) := by
    simp only [ByteArray.data_append, ByteArray.data_extract, Array.toList_append, Array.toList_extract, List.extract_eq_take_drop, Nat.sub_zero, List.drop_zero]
    rw [List.take_of_length_le (l := t.data.toList.drop (toN c t)) (by rw [List.length_drop]; exact Nat.le_refl _)]
  rw [e3]
  exact valid_join (valid_join hf hc) ht
theorem valid_chgs : ∀ (L : List Chg) (t : ByteArray), valid t.data.toList = true → (chgs t L).2 = 0 → valid (chgs t L).1.data.toList = true
  | [], t, h, _ => h
  | c :: r, t, h, he => by
    rw [chgs] at he ⊢
    by_cases h0 : ofE c t = 0
    · rw [if_pos h0] at he ⊢
      exact valid_chgs r _ (valid_ofT h h0) he
    · rw [if_neg h0] at he
      exact absurd he h0
/-- What holds of the open documents between two acts. -/
def Held (l : List Dc) : Prop := l.length ≤ 32 ∧ ∀ d ∈ l, dirB d.u.data.toList = true ∧ valid d.t.data.toList = true ∧ d.t.size ≤ 65536
theorem Held.nil : Held [] := ⟨by decide, fun d h => by simp at h⟩
theorem Held.del {l : List Dc} (h : Held l) (x : List UInt8) : Held (delD l x) :=
  ⟨Nat.le_trans (delD_length l x) h.1, fun d hd => h.2 d (List.mem_filter.1 hd).1⟩
theorem Held.open {l : List Dc} (h : Held l) (u t : ByteArray) (v : Int) : Held (openL l u t v) := by
  by_cases he : openE l u t = 0
  · unfold openL
    rw [he, if_pos rfl]
    unfold openE at he
    by_cases h1 : dirB u.data.toList = false
    · rw [if_pos h1] at he; cases he
    rw [if_neg h1] at he
    by_cases h2 : hasD l u.data.toList = true
    · rw [if_pos h2] at he; cases he
    rw [if_neg h2] at he
    by_cases h3 : 32 ≤ l.length
    · rw [if_pos h3] at he; cases he
    rw [if_neg h3] at he
    by_cases h4 : valid t.data.toList = false
    · rw [if_pos h4] at he; cases he
    rw [if_neg h4] at he
    by_cases h5 : 65536 < t.size
    · rw [if_pos h5] at he; cases he
    refine ⟨?_, fun d hd => ?_⟩
    · have := putD_length_new (l := l) (d := ⟨u, t, v⟩) (by cases hh : hasD l (Dc.k ⟨u, t, v⟩) with | false => rfl | true => exact absurd hh h2)
      rw [this]; omega
    · rcases putD_mem hd with rfl | hd
      · refine ⟨?_, ?_, by show t.size ≤ 65536; omega⟩
        · cases hh : dirB u.data.toList with | true => rfl | false => exact absurd hh h1
        · cases hh : valid t.data.toList with | true => rfl | false => exact absurd hh h4
      · exact h.2 d hd
  · rw [openL_bad rfl he]; exact h
theorem docOr_mem {l : List Dc} {x : List UInt8} (h : hasD l x = true) : docOr l x ∈ l ∧ (docOr l x).k = x := by
  rw [hasD_getD?] at h
  unfold docOr
  obtain ⟨d, hd⟩ := Option.isSome_iff_exists.1 h
  rw [hd]
  exact getD?_some hd
theorem Held.change {l : List Dc} (h : Held l) (u : ByteArray) (v : Int) (L : List Chg) : Held (changeL l u v L) := by
  by_cases he : changeE l u v L = 0
  · unfold changeL
    rw [he, if_pos rfl]
    unfold changeE at he
    by_cases h1 : hasD l u.data.toList = false
    · rw [if_pos h1] at he; cases he
    rw [if_neg h1] at he
    by_cases h2 : v ≤ (docOr l u.data.toList).v
    · rw [if_pos h2] at he; cases he
    rw [if_neg h2] at he
    have hh : hasD l u.data.toList = true := by cases hh : hasD l u.data.toList with | true => rfl | false => exact absurd hh h1
    obtain ⟨hm, hk⟩ := docOr_mem hh
    obtain ⟨a, b, c⟩ := h.2 _ hm
    refine ⟨?_, fun d hd => ?_⟩
    · exact Nat.le_trans (putD_length_old (l := l) (d := ⟨(docOr l u.data.toList).u, (chgs (docOr l u.data.toList).t L).1, v⟩) (by show hasD l (docOr l u.data.toList).k = true; rw [hk]; exact hh)) h.1
    · rcases putD_mem hd with rfl | hd
      · exact ⟨a, valid_chgs L _ b he, chgs_size L _ c⟩
      · exact h.2 d hd
  · rw [changeL_bad rfl he]; exact h
end Go.Proofs.YtpphkkelikdhkaaDoor
