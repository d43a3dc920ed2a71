/-
  PLAIN FACTS ABOUT POINTS, THEIR BYTES AND PIECES OF A TEXT: what a piece is, how far points reach, validity, points' bytes and back. No program; no condition but those that each theorem says.
-/
import Derived.Lib.DecodeN
namespace Go.Proofs.YtmkjoonbjmieoaaDoor

/-- The point that four numbers (nought behind a text's end) begin with, or -1, and how many bytes its piece has. -/
def decN (a b c d : Nat) : Int × Nat :=
  if a < 128 then ((a : Int), 1)
  else if a / 32 = 6 ∧ b / 64 = 2 ∧ 128 ≤ a % 32 * 64 + b % 64 then (((a % 32 * 64 + b % 64 : Nat) : Int), 2)
  else if a / 16 = 14 ∧ b / 64 = 2 ∧ c / 64 = 2 ∧ 2048 ≤ a % 16 * 4096 + b % 64 * 64 + c % 64 ∧ (a % 16 * 4096 + b % 64 * 64 + c % 64 < 55296 ∨ 57343 < a % 16 * 4096 + b % 64 * 64 + c % 64) then
    (((a % 16 * 4096 + b % 64 * 64 + c % 64 : Nat) : Int), 3)
  else if a / 8 = 30 ∧ b / 64 = 2 ∧ c / 64 = 2 ∧ d / 64 = 2 ∧ 65536 ≤ a % 8 * 262144 + b % 64 * 4096 + c % 64 * 64 + d % 64 ∧ a % 8 * 262144 + b % 64 * 4096 + c % 64 * 64 + d % 64 ≤ 1114111 then
    (((a % 8 * 262144 + b % 64 * 4096 + c % 64 * 64 + d % 64 : Nat) : Int), 4)
  else (-1, 1)
def nth (l : List UInt8) (k : Nat) : Nat := (l.getD k 0).toNat
def dec (l : List UInt8) : Int × Nat := decN (nth l 0) (nth l 1) (nth l 2) (nth l 3)
def pt (l : List UInt8) : Int := (dec l).1
def wd (l : List UInt8) : Nat := (dec l).2

theorem decN_facts (a b c d : Nat) : 1 ≤ (decN a b c d).2 ∧ (decN a b c d).2 ≤ 4 ∧ -1 ≤ (decN a b c d).1 ∧ (decN a b c d).1 ≤ 1114111 ∧ ((decN a b c d).1 < 0 → (decN a b c d).1 = -1 ∧ (decN a b c d).2 = 1) := by
  unfold decN
  repeat' split
  all_goals first | (simp only; omega) | exact ⟨by decide, by decide, by decide, by decide, fun _ => ⟨rfl, rfl⟩⟩
theorem wd_pos (l : List UInt8) : 1 ≤ wd l := (decN_facts _ _ _ _).1
theorem wd_le4 (l : List UInt8) : wd l ≤ 4 := (decN_facts _ _ _ _).2.1
theorem pt_ge (l : List UInt8) : -1 ≤ pt l := (decN_facts _ _ _ _).2.2.1
theorem pt_le (l : List UInt8) : pt l ≤ 1114111 := (decN_facts _ _ _ _).2.2.2.1
theorem pt_neg (l : List UInt8) (h : pt l < 0) : pt l = -1 ∧ wd l = 1 := (decN_facts _ _ _ _).2.2.2.2 h
theorem nth_end (l : List UInt8) (k : Nat) (h : l.length ≤ k) : nth l k = 0 := by
  unfold nth
  rw [List.getD_eq_getElem?_getD, List.getElem?_eq_none h]
  rfl
theorem decN_wide (a b c d : Nat) : (2 ≤ (decN a b c d).2 → b / 64 = 2) ∧ (3 ≤ (decN a b c d).2 → c / 64 = 2) ∧ (4 ≤ (decN a b c d).2 → d / 64 = 2) := by
  unfold decN
  repeat' split
  all_goals (simp only; omega)
theorem wd_le (l : List UInt8) (h : l ≠ []) : wd l ≤ l.length := by
  have h1 : 0 < l.length := List.length_pos_iff.2 h
  have h4 := wd_le4 l
  obtain ⟨w2, w3, w4⟩ := decN_wide (nth l 0) (nth l 1) (nth l 2) (nth l 3)
  have e2 := nth_end l 1
  have e3 := nth_end l 2
  have e4 := nth_end l 3
  have hw : wd l = (decN (nth l 0) (nth l 1) (nth l 2) (nth l 3)).2 := rfl
  rw [← hw] at w2 w3 w4
  omega
theorem decN_same (a b c d b' c' d' : Nat) (h0 : 0 ≤ (decN a b c d).1) (hb : 2 ≤ (decN a b c d).2 → b' = b) (hc : 3 ≤ (decN a b c d).2 → c' = c) (hd : 4 ≤ (decN a b c d).2 → d' = d) : decN a b' c' d' = decN a b c d := by
  by_cases h1 : a < 128
  · simp only [decN, h1, if_true]
  · by_cases h2 : a / 32 = 6 ∧ b / 64 = 2 ∧ 128 ≤ a % 32 * 64 + b % 64
    · have e : decN a b c d = (((a % 32 * 64 + b % 64 : Nat) : Int), 2) := by simp only [decN]; rw [if_neg h1, if_pos h2]
      rw [e] at hb
      have := hb (by simp)
      subst this
      rw [e]
      simp only [decN]
      rw [if_neg h1, if_pos h2]
    · by_cases h3 : a / 16 = 14 ∧ b / 64 = 2 ∧ c / 64 = 2 ∧ 2048 ≤ a % 16 * 4096 + b % 64 * 64 + c % 64 ∧ (a % 16 * 4096 + b % 64 * 64 + c % 64 < 55296 ∨ 57343 < a % 16 * 4096 + b % 64 * 64 + c % 64)
      · have e : decN a b c d = (((a % 16 * 4096 + b % 64 * 64 + c % 64 : Nat) : Int), 3) := by simp only [decN]; rw [if_neg h1, if_neg h2, if_pos h3]
        rw [e] at hb hc
        have e1 := hb (by simp)
        have e2 := hc (by simp)
        subst e1 e2
        rw [e]
        simp only [decN]
        rw [if_neg h1, if_neg h2, if_pos h3]
      · by_cases h4 : a / 8 = 30 ∧ b / 64 = 2 ∧ c / 64 = 2 ∧ d / 64 = 2 ∧ 65536 ≤ a % 8 * 262144 + b % 64 * 4096 + c % 64 * 64 + d % 64 ∧ a % 8 * 262144 + b % 64 * 4096 + c % 64 * 64 + d % 64 ≤ 1114111
        · have e : decN a b c d = (((a % 8 * 262144 + b % 64 * 4096 + c % 64 * 64 + d % 64 : Nat) : Int), 4) := by simp only [decN]; rw [if_neg h1, if_neg h2, if_neg h3, if_pos h4]
          rw [e] at hb hc hd
          have e1 := hb (by simp)
          have e2 := hc (by simp)
          have e3 := hd (by simp)
          subst e1 e2 e3
          exact rfl
        · have e : decN a b c d = (-1, 1) := by simp only [decN]; rw [if_neg h1, if_neg h2, if_neg h3, if_neg h4]
          rw [e] at h0
          simp at h0
theorem nth_append (l m : List UInt8) (k : Nat) (h : k < l.length) : nth (l ++ m) k = nth l k := by
  unfold nth
  rw [List.getD_eq_getElem?_getD, List.getD_eq_getElem?_getD, List.getElem?_append_left h]
/-- A point's bytes stand wherever something stands behind them. -/
theorem dec_append (l m : List UInt8) (h : l ≠ []) (hp : 0 ≤ pt l) : dec (l ++ m) = dec l := by
  have hw := wd_le l h
  have h1 : 0 < l.length := List.length_pos_iff.2 h
  unfold dec
  rw [nth_append l m 0 h1]
  exact decN_same _ _ _ _ _ _ _ hp (fun h2 => nth_append l m 1 (by have : 2 ≤ wd l := h2; omega)) (fun h2 => nth_append l m 2 (by have : 3 ≤ wd l := h2; omega)) (fun h2 => nth_append l m 3 (by have : 4 ≤ wd l := h2; omega))

theorem drop_lt (l : List UInt8) (h : ¬ l = []) : (l.drop (wd l)).length < l.length := by
  have h1 : 0 < l.length := List.length_pos_iff.2 h
  have := wd_pos l
  rw [List.length_drop]
  omega
/-- Has each piece a point? -/
def validF : Nat → List UInt8 → Bool
  | 0, _ => true
  | f + 1, l => if l = [] then true else decide (0 ≤ pt l) && validF f (l.drop (wd l))
/-- How many bytes the points have with which a text begins. -/
def goodF : Nat → List UInt8 → Nat
  | 0, _ => 0
  | f + 1, l => if l = [] then 0 else if pt l < 0 then 0 else wd l + goodF f (l.drop (wd l))
def valid (l : List UInt8) : Bool := validF l.length l
def good (l : List UInt8) : Nat := goodF l.length l
theorem nil_of_zero {l : List UInt8} (h : l.length ≤ 0) : l = [] := List.eq_nil_of_length_eq_zero (by omega)
theorem validF_eq : ∀ (f g : Nat) (l : List UInt8), l.length ≤ f → l.length ≤ g → validF f l = validF g l
  | 0, g, l, h, _ => by rw [nil_of_zero h]; cases g <;> rfl
  | f + 1, 0, l, _, h => by rw [nil_of_zero h]; rfl
  | f + 1, g + 1, l, h, k => by
    by_cases hl : l = []
    · rw [hl]; rfl
    · have := drop_lt l hl
      rw [validF, validF, if_neg hl, if_neg hl, validF_eq f g _ (by omega) (by omega)]
theorem goodF_eq : ∀ (f g : Nat) (l : List UInt8), l.length ≤ f → l.length ≤ g → goodF f l = goodF g l
  | 0, g, l, h, _ => by rw [nil_of_zero h]; cases g <;> rfl
  | f + 1, 0, l, _, h => by rw [nil_of_zero h]; rfl
  | f + 1, g + 1, l, h, k => by
    by_cases hl : l = []
    · rw [hl]; rfl
    · have := drop_lt l hl
      rw [goodF, goodF, if_neg hl, if_neg hl, goodF_eq f g _ (by omega) (by omega)]
theorem valid_nil : valid [] = true := rfl
theorem good_nil : good [] = 0 := rfl
theorem valid_cons (l : List UInt8) (h : l ≠ []) : valid l = (decide (0 ≤ pt l) && valid (l.drop (wd l))) := by
  have h1 := drop_lt l h
  obtain ⟨n, hn⟩ : ∃ n, l.length = n + 1 := ⟨l.length - 1, by have := List.length_pos_iff.2 h; omega⟩
  unfold valid
  rw [hn, validF, if_neg h, validF_eq n _ _ (by omega) (Nat.le_refl _)]
theorem good_bad (l : List UInt8) (h : l ≠ []) (hp : pt l < 0) : good l = 0 := by
  obtain ⟨n, hn⟩ : ∃ n, l.length = n + 1 := ⟨l.length - 1, by have := List.length_pos_iff.2 h; omega⟩
  unfold good
  rw [hn, goodF, if_neg h, if_pos hp]
theorem good_cons (l : List UInt8) (h : l ≠ []) (hp : ¬ pt l < 0) : good l = wd l + good (l.drop (wd l)) := by
  have h1 := drop_lt l h
  obtain ⟨n, hn⟩ : ∃ n, l.length = n + 1 := ⟨l.length - 1, by have := List.length_pos_iff.2 h; omega⟩
  unfold good
  rw [hn, goodF, if_neg h, if_neg hp, goodF_eq n _ _ (by omega) (Nat.le_refl _)]
/-- What holds of the empty text, and of each other one if it holds behind its first piece, holds of all. -/
theorem by_pieces {motive : List UInt8 → Prop} (nil : motive []) (cons : ∀ l, l ≠ [] → motive (l.drop (wd l)) → motive l) (l : List UInt8) : motive l := by
  have : ∀ n (l : List UInt8), l.length ≤ n → motive l := by
    intro n
    induction n with
    | zero =>
      intro l h
      have e : l = [] := List.eq_nil_of_length_eq_zero (by omega)
      rw [e]; exact nil
    | succ n ih =>
      intro l h
      by_cases hl : l = []
      · rw [hl]; exact nil
      · exact cons l hl (ih _ (by have := drop_lt l hl; omega))
  exact this l.length l (Nat.le_refl _)
theorem good_le (l : List UInt8) : good l ≤ l.length := by
  induction l using by_pieces with
  | nil => exact Nat.le_refl _
  | cons l h ih =>
    by_cases hp : pt l < 0
    · rw [good_bad l h hp]; exact Nat.zero_le _
    · rw [good_cons l h hp]
      have := wd_le l h
      rw [List.length_drop] at ih
      omega
/-- A text is valid just if its points reach its end. -/
theorem valid_good (l : List UInt8) : valid l = decide (good l = l.length) := by
  induction l using by_pieces with
  | nil => rfl
  | cons l h ih =>
    have hpos := List.length_pos_iff.2 h
    have hw := wd_le l h
    by_cases hp : pt l < 0
    · rw [valid_cons l h, good_bad l h hp, decide_eq_false (by omega), decide_eq_false (by omega)]; rfl
    · rw [valid_cons l h, good_cons l h hp, decide_eq_true (by omega), Bool.true_and, ih, List.length_drop]
      have : (good (l.drop (wd l)) = l.length - wd l) ↔ (wd l + good (l.drop (wd l)) = l.length) := by omega
      rw [decide_eq_decide]; exact this
theorem valid_append (b : List UInt8) (a : List UInt8) : valid a = true → valid (a ++ b) = valid b := by
  induction a using by_pieces with
  | nil => intro _; rfl
  | cons a h ih =>
    intro hv
    rw [valid_cons a h, Bool.and_eq_true, decide_eq_true_eq] at hv
    have hd := dec_append a b h hv.1
    have ep : pt (a ++ b) = pt a := by unfold pt; rw [hd]
    have ew : wd (a ++ b) = wd a := by unfold wd; rw [hd]
    have hn : a ++ b ≠ [] := by simp [h]
    have es : (a ++ b).drop (wd a) = a.drop (wd a) ++ b := List.drop_append_of_le_length (wd_le a h)
    rw [valid_cons _ hn, ep, ew, es, ih hv.2, decide_eq_true hv.1, Bool.true_and]
theorem decN_ascii (a b c d : Nat) (h : a < 128) : decN a b c d = ((a : Int), 1) := by unfold decN; rw [if_pos h]
theorem dec_ascii (c : UInt8) (l : List UInt8) (h : c.toNat < 128) : dec (c :: l) = ((c.toNat : Int), 1) := decN_ascii _ _ _ _ h
theorem valid_ascii (c : UInt8) (l : List UInt8) (h : c.toNat < 128) : valid (c :: l) = valid l := by
  rw [valid_cons _ (by simp)]
  have e1 : pt (c :: l) = (c.toNat : Int) := by unfold pt; rw [dec_ascii c l h]
  have e2 : wd (c :: l) = 1 := by unfold wd; rw [dec_ascii c l h]
  rw [e1, e2, decide_eq_true (by omega), Bool.true_and]; rfl
theorem decN_head (a b c d : Nat) (h : 2 ≤ (decN a b c d).2) : 128 ≤ a ∧ b / 64 = 2 := by
  revert h
  unfold decN
  repeat' split
  all_goals (simp only; omega)
theorem nth_drop (l : List UInt8) (n k : Nat) : nth (l.drop n) k = nth l (n + k) := by
  unfold nth
  rw [List.getD_eq_getElem?_getD, List.getD_eq_getElem?_getD, List.getElem?_drop]
/-- Behind a byte below 128 a valid text goes on as one. -/
theorem valid_drop (l : List UInt8) : ∀ n, valid l = true → 0 < n → n ≤ l.length → nth l (n - 1) < 128 → valid (l.drop n) = true := by
  induction l using by_pieces with
  | nil => intro n _ _ _ _; rw [List.drop_nil]; rfl
  | cons l h ih =>
    intro n hv h0 hn hb
    rw [valid_cons l h, Bool.and_eq_true, decide_eq_true_eq] at hv
    have hw := wd_le l h
    have hwp := wd_pos l
    obtain ⟨w2, w3, w4⟩ := decN_wide (nth l 0) (nth l 1) (nth l 2) (nth l 3)
    have hh := decN_head (nth l 0) (nth l 1) (nth l 2) (nth l 3)
    have hwd : wd l = (decN (nth l 0) (nth l 1) (nth l 2) (nth l 3)).2 := rfl
    rw [← hwd] at w2 w3 w4 hh
    have h4 := wd_le4 l
    by_cases hlt : n ≤ wd l
    · have : n = wd l := by
        rcases Nat.lt_or_ge n 2 with c | c
        · have e1 : n = 1 := by omega
          subst e1
          by_cases h1 : wd l = 1
          · omega
          · have := hh (by omega)
            simp at hb
            omega
        · exfalso
          have c1 : n = 2 ∨ n = 3 ∨ n = 4 := by omega
          rcases c1 with rfl | rfl | rfl
          · have := w2 (by omega); simp at hb; omega
          · have := w3 (by omega); simp at hb; omega
          · have := w4 (by omega); simp at hb; omega
      rw [this]; exact hv.2
    · have e : l.drop n = (l.drop (wd l)).drop (n - wd l) := by rw [List.drop_drop]; congr 1; omega
      rw [e]
      refine ih (n - wd l) hv.2 (by omega) (by rw [List.length_drop]; omega) ?_
      rw [nth_drop]
      have : wd l + (n - wd l - 1) = n - 1 := by omega
      rw [this]; exact hb
/-- Is a number a point? -/
def isPt (n : Int) : Bool := decide ((0 ≤ n ∧ n < 55296) ∨ (57343 < n ∧ n ≤ 1114111))
/-- A point's bytes, as numbers. -/
def encN (n : Nat) : List Nat :=
  if n < 128 then [n]
  else if n < 2048 then [192 + n / 64, 128 + n % 64]
  else if n < 65536 then [224 + n / 4096, 128 + n / 64 % 64, 128 + n % 64]
  else [240 + n / 262144, 128 + n / 4096 % 64, 128 + n / 64 % 64, 128 + n % 64]
def encL (n : Nat) : List UInt8 := (encN n).map UInt8.ofNat
theorem encN_len (n : Nat) : 1 ≤ (encN n).length ∧ (encN n).length ≤ 4 := by
  unfold encN
  repeat' split
  all_goals simp
theorem encL_len (n : Nat) : 1 ≤ (encL n).length ∧ (encL n).length ≤ 4 := by
  unfold encL; rw [List.length_map]; exact encN_len n
theorem encL_ne (n : Nat) : encL n ≠ [] := by
  intro h
  have := encL_len n
  rw [h] at this
  simp at this
theorem ofNat_toNat (x : Nat) (h : x < 256) : (UInt8.ofNat x).toNat = x := by
  rw [UInt8.toNat_ofNat']; omega
/-- A point's bytes are decoded as it. -/
theorem dec_enc (n : Nat) (h : isPt n = true) : dec (encL n) = ((n : Int), (encL n).length) := by
  unfold isPt at h
  rw [decide_eq_true_eq] at h
  unfold encL encN
  by_cases h1 : n < 128
  · rw [if_pos h1]
    simp only [dec, nth, List.map_cons, List.map_nil, List.getD_cons_zero, ofNat_toNat n (by omega), List.length_cons, List.length_nil]
    unfold decN
    rw [if_pos h1]
  · rw [if_neg h1]
    by_cases h2 : n < 2048
    · rw [if_pos h2]
      simp only [dec, nth, List.map_cons, List.map_nil, List.getD_cons_zero, List.getD_cons_succ, ofNat_toNat (192 + n / 64) (by omega), ofNat_toNat (128 + n % 64) (by omega), List.length_cons, List.length_nil]
      unfold decN
      rw [if_neg (by omega), if_pos (by omega)]
      exact Prod.ext (by simp only; omega) rfl
    · rw [if_neg h2]
      by_cases h3 : n < 65536
      · rw [if_pos h3]
        simp only [dec, nth, List.map_cons, List.map_nil, List.getD_cons_zero, List.getD_cons_succ, ofNat_toNat (224 + n / 4096) (by omega), ofNat_toNat (128 + n / 64 % 64) (by omega), ofNat_toNat (128 + n % 64) (by omega), List.length_cons, List.length_nil]
        unfold decN
        rw [if_neg (by omega), if_neg (by omega), if_pos (by omega)]
        exact Prod.ext (by simp only; omega) rfl
      · rw [if_neg h3]
        simp only [dec, nth, List.map_cons, List.map_nil, List.getD_cons_zero, List.getD_cons_succ, ofNat_toNat (240 + n / 262144) (by omega), ofNat_toNat (128 + n / 4096 % 64) (by omega), ofNat_toNat (128 + n / 64 % 64) (by omega), ofNat_toNat (128 + n % 64) (by omega), List.length_cons, List.length_nil]
        unfold decN
        rw [if_neg (by omega), if_neg (by omega), if_neg (by omega), if_pos (by omega)]
        exact Prod.ext (by simp only; omega) rfl
theorem dec_enc_append (n : Nat) (h : isPt n = true) (m : List UInt8) : dec (encL n ++ m) = ((n : Int), (encL n).length) := by
  rw [dec_append _ m (encL_ne n) (by unfold pt; rw [dec_enc n h]; simp), dec_enc n h]
theorem valid_enc (n : Nat) (h : isPt n = true) : valid (encL n) = true := by
  have hd := dec_enc n h
  have h1 : pt (encL n) = n := by unfold pt; rw [hd]
  have h2 : wd (encL n) = (encL n).length := by unfold wd; rw [hd]
  rw [valid_cons _ (encL_ne n), h1, h2, List.drop_length, valid_nil]
  simp
theorem prefix_enc (a b : Nat) (ha : isPt a = true) (hb : isPt b = true) (h : encL b <+: encL a) : a = b := by
  obtain ⟨r, hr⟩ := h
  have h1 := dec_enc_append b hb r
  rw [hr, dec_enc a ha] at h1
  have := (Prod.mk.inj h1).1
  omega

/-- The library's plain decode, by the piece. -/
theorem decodeN_decN (n a b c d : Nat) (e1 : n ≤ 1 → b = 0) (e2 : n ≤ 2 → c = 0) (e3 : n ≤ 3 → d = 0) : Lib.decodeN n a b c d = if (decN a b c d).1 < 0 then (65533, 1) else ((decN a b c d).1.toNat, (decN a b c d).2) := by
  by_cases h1 : a < 128
  · have e : decN a b c d = ((a : Int), 1) := by unfold decN; rw [if_pos h1]
    rw [e]
    simp only
    rw [if_neg (by omega), Int.toNat_natCast]
    unfold Lib.decodeN
    rw [if_pos h1]
  · by_cases h2 : a / 32 = 6 ∧ b / 64 = 2 ∧ 128 ≤ a % 32 * 64 + b % 64
    · have e : decN a b c d = (((a % 32 * 64 + b % 64 : Nat) : Int), 2) := by unfold decN; rw [if_neg h1, if_pos h2]
      rw [e]
      simp only
      rw [if_neg (by omega), Int.toNat_natCast]
      unfold Lib.decodeN
      rw [if_neg h1, if_pos ⟨h2.1, by omega, h2.2.1⟩, if_pos h2.2.2]
    · by_cases h3 : a / 16 = 14 ∧ b / 64 = 2 ∧ c / 64 = 2 ∧ 2048 ≤ a % 16 * 4096 + b % 64 * 64 + c % 64 ∧ (a % 16 * 4096 + b % 64 * 64 + c % 64 < 55296 ∨ 57343 < a % 16 * 4096 + b % 64 * 64 + c % 64)
      · have e : decN a b c d = (((a % 16 * 4096 + b % 64 * 64 + c % 64 : Nat) : Int), 3) := by unfold decN; rw [if_neg h1, if_neg h2, if_pos h3]
        rw [e]
        simp only
        rw [if_neg (by omega), Int.toNat_natCast]
        unfold Lib.decodeN
        rw [if_neg h1, if_neg (by omega), if_pos ⟨h3.1, by omega, by omega⟩, if_pos (by omega)]
      · by_cases h4 : a / 8 = 30 ∧ b / 64 = 2 ∧ c / 64 = 2 ∧ d / 64 = 2 ∧ 65536 ≤ a % 8 * 262144 + b % 64 * 4096 + c % 64 * 64 + d % 64 ∧ a % 8 * 262144 + b % 64 * 4096 + c % 64 * 64 + d % 64 ≤ 1114111
        · have e : decN a b c d = (((a % 8 * 262144 + b % 64 * 4096 + c % 64 * 64 + d % 64 : Nat) : Int), 4) := by unfold decN; rw [if_neg h1, if_neg h2, if_neg h3, if_pos h4]
          rw [e]
          simp only
          rw [if_neg (by omega), Int.toNat_natCast]
          unfold Lib.decodeN
          rw [if_neg h1, if_neg (by omega), if_neg (by omega), if_pos ⟨h4.1, by omega, by omega, by omega⟩, if_pos (by omega)]
        · have e : decN a b c d = (-1, 1) := by unfold decN; rw [if_neg h1, if_neg h2, if_neg h3, if_neg h4]
          rw [e]
          show _ = (65533, 1)
          unfold Lib.decodeN
          rw [if_neg h1]
          by_cases g2 : a / 32 = 6 ∧ (1 < n ∧ b / 64 = 2)
          · rw [if_pos g2, if_neg (by omega)]
          · rw [if_neg g2]
            by_cases g3 : a / 16 = 14 ∧ (1 < n ∧ b / 64 = 2) ∧ (2 < n ∧ c / 64 = 2)
            · rw [if_pos g3, if_neg (by omega)]
            · rw [if_neg g3]
              by_cases g4 : a / 8 = 30 ∧ (1 < n ∧ b / 64 = 2) ∧ (2 < n ∧ c / 64 = 2) ∧ (3 < n ∧ d / 64 = 2)
              · rw [if_pos g4, if_neg (by omega)]
              · rw [if_neg g4]
/-- The model's decode at a place, by the piece that stands there. -/
theorem decode_pt (s : ByteArray) (k : Nat) : Utf8.decode s k = if pt (s.data.toList.drop k) < 0 then (65533, 1) else ((pt (s.data.toList.drop k)).toNat, wd (s.data.toList.drop k)) := by
  have hg : ∀ j, (s.get! (k + j)).toNat = nth (s.data.toList.drop k) j := by
    intro j
    unfold nth
    rw [List.getD_eq_getElem?_getD, List.getElem?_drop]
    show (s.data[k + j]!).toNat = _
    rw [Array.getElem?_toList]
    by_cases hj : k + j < s.data.size
    · rw [getElem!_pos s.data (k + j) hj, Array.getElem?_eq_getElem hj]; rfl
    · rw [getElem!_neg s.data (k + j) hj, Array.getElem?_eq_none (by omega)]; rfl
  have hl : (s.data.toList.drop k).length = s.size - k := by rw [List.length_drop]; rfl
  rw [Lib.decode_at]
  have g0 := hg 0; have g1 := hg 1; have g2 := hg 2; have g3 := hg 3
  rw [Nat.add_zero] at g0
  rw [g0, g1, g2, g3]
  have e1 := nth_end (s.data.toList.drop k) 1
  have e2 := nth_end (s.data.toList.drop k) 2
  have e3 := nth_end (s.data.toList.drop k) 3
  rw [hl] at e1 e2 e3
  exact decodeN_decN _ _ _ _ _ e1 e2 e3

theorem nth_lt (l : List UInt8) (k : Nat) : nth l k < 256 := UInt8.toNat_lt _
/-- A point's bytes are those that were decoded. -/
theorem encN_decN (a b c d : Nat) (_ha : a < 256) (hb : b < 256) (hc : c < 256) (_hd : d < 256) (h : 0 ≤ (decN a b c d).1) : encN (decN a b c d).1.toNat = [a, b, c, d].take (decN a b c d).2 := by
  by_cases h1 : a < 128
  · have e : decN a b c d = ((a : Int), 1) := by unfold decN; rw [if_pos h1]
    rw [e]
    simp only [Int.toNat_natCast]
    unfold encN
    rw [if_pos h1]
    rfl
  · by_cases h2 : a / 32 = 6 ∧ b / 64 = 2 ∧ 128 ≤ a % 32 * 64 + b % 64
    · have e : decN a b c d = (((a % 32 * 64 + b % 64 : Nat) : Int), 2) := by unfold decN; rw [if_neg h1, if_pos h2]
      rw [e]
      simp only [Int.toNat_natCast]
      unfold encN
      rw [if_neg (by omega), if_pos (by omega)]
      simp only [List.take_succ_cons, List.take_zero, List.cons.injEq, and_true]
      omega
    · by_cases h3 : a / 16 = 14 ∧ b / 64 = 2 ∧ c / 64 = 2 ∧ 2048 ≤ a % 16 * 4096 + b % 64 * 64 + c % 64 ∧ (a % 16 * 4096 + b % 64 * 64 + c % 64 < 55296 ∨ 57343 < a % 16 * 4096 + b % 64 * 64 + c % 64)
      · have e : decN a b c d = (((a % 16 * 4096 + b % 64 * 64 + c % 64 : Nat) : Int), 3) := by unfold decN; rw [if_neg h1, if_neg h2, if_pos h3]
        rw [e]
        simp only [Int.toNat_natCast]
        unfold encN
        rw [if_neg (by omega), if_neg (by omega), if_pos (by omega)]
        simp only [List.take_succ_cons, List.take_zero, List.cons.injEq, and_true]
        omega
      · by_cases h4 : a / 8 = 30 ∧ b / 64 = 2 ∧ c / 64 = 2 ∧ d / 64 = 2 ∧ 65536 ≤ a % 8 * 262144 + b % 64 * 4096 + c % 64 * 64 + d % 64 ∧ a % 8 * 262144 + b % 64 * 4096 + c % 64 * 64 + d % 64 ≤ 1114111
        · have e : decN a b c d = (((a % 8 * 262144 + b % 64 * 4096 + c % 64 * 64 + d % 64 : Nat) : Int), 4) := by unfold decN; rw [if_neg h1, if_neg h2, if_neg h3, if_pos h4]
          rw [e]
          simp only [Int.toNat_natCast]
          unfold encN
          rw [if_neg (by omega), if_neg (by omega), if_neg (by omega)]
          simp only [List.take_succ_cons, List.take_zero, List.cons.injEq, and_true]
          omega
        · have e : decN a b c d = (-1, 1) := by unfold decN; rw [if_neg h1, if_neg h2, if_neg h3, if_neg h4]
          rw [e] at h
          simp at h
theorem nth_get (l : List UInt8) (k : Nat) (h : k < l.length) : UInt8.ofNat (nth l k) = l[k] := by
  unfold nth
  rw [List.getD_eq_getElem?_getD, List.getElem?_eq_getElem h]
  simp
theorem four_take (l : List UInt8) (n : Nat) (hn : n ≤ l.length) (h4 : n ≤ 4) : ([nth l 0, nth l 1, nth l 2, nth l 3].take n).map UInt8.ofNat = l.take n := by
  apply List.ext_getElem
  · simp; omega
  · intro i h1 h2
    simp at h1 h2
    have hi : i < l.length := by omega
    rw [List.getElem_map, List.getElem_take, List.getElem_take, ← nth_get l i hi]
    have : i = 0 ∨ i = 1 ∨ i = 2 ∨ i = 3 := by omega
    rcases this with rfl | rfl | rfl | rfl <;> rfl
theorem enc_dec (l : List UInt8) (h : l ≠ []) (hp : 0 ≤ pt l) : encL (pt l).toNat = l.take (wd l) := by
  have h1 := encN_decN (nth l 0) (nth l 1) (nth l 2) (nth l 3) (nth_lt _ _) (nth_lt _ _) (nth_lt _ _) (nth_lt _ _) hp
  have e1 : (decN (nth l 0) (nth l 1) (nth l 2) (nth l 3)).1 = pt l := rfl
  have e2 : (decN (nth l 0) (nth l 1) (nth l 2) (nth l 3)).2 = wd l := rfl
  rw [e1, e2] at h1
  unfold encL
  rw [h1]
  exact four_take l _ (wd_le l h) (wd_le4 l)
end Go.Proofs.YtmkjoonbjmieoaaDoor
