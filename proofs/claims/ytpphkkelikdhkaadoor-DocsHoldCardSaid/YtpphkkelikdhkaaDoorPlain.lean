/-
  PLAIN FACTS ABOUT POINTS, THEIR BYTES, PIECES AND UNITS OF A TEXT: what a piece is, units, validity, places and back, texts one behind the other. No program; no condition but those that each theorem says.
-/
import Derived.Lib.DecodeN
namespace Go.Proofs.YtpphkkelikdhkaaDoor

/-- The point that four numbers (nought behind a text's end) begin with, or -1, and how many bytes its piece has. -/
def decN (a b c d : Nat) : Int × Nat :=
  if a < 128 then ((a : Int), 1)
  else if a / 32 = 6 ∧ b / 64 = 2 ∧ 128 ≤ a % 32 * 64 + b % 64 then (((a % 32 * 64 + b % 64 : Nat) : Int), 2)
  else if a / 16 = 14 ∧ b / 64 = 2 ∧ c / 64 = 2 ∧ 2048 ≤ a % 16 * 4096 + b % 64 * 64 + c % 64 ∧ (a % 16 * 4096 + b % 64 * 64 + c % 64 < 55296 ∨ 57343 < a % 16 * 4096 + b % 64 * 64 + c % 64) then
    (((a % 16 * 4096 + b % 64 * 64 + c % 64 : Nat) : Int), 3)
  else if a / 8 = 30 ∧ b / 64 = 2 ∧ c / 64 = 2 ∧ d / 64 = 2 ∧ 65536 ≤ a % 8 * 262144 + b % 64 * 4096 + c % 64 * 64 + d % 64 ∧ a % 8 * 262144 + b % 64 * 4096 + c % 64 * 64 + d % 64 ≤ 1114111 then
    (((a % 8 * 262144 + b % 64 * 4096 + c % 64 * 64 + d % 64 : Nat) : Int), 4)
  else (-1, 1)
def nth (l : List UInt8) (k : Nat) : Nat := (l.getD k 0).toNat
def dec (l : List UInt8) : Int × Nat := decN (nth l 0) (nth l 1) (nth l 2) (nth l 3)
def pt (l : List UInt8) : Int := (dec l).1
def wd (l : List UInt8) : Nat := (dec l).2
def un (l : List UInt8) : Nat := if 65535 < pt l then 2 else 1

theorem decN_facts (a b c d : Nat) : 1 ≤ (decN a b c d).2 ∧ (decN a b c d).2 ≤ 4 ∧ -1 ≤ (decN a b c d).1 ∧ (decN a b c d).1 ≤ 1114111 ∧ ((decN a b c d).1 < 0 → (decN a b c d).1 = -1 ∧ (decN a b c d).2 = 1) := by
  unfold decN
  repeat' split
  all_goals first | (simp only; omega) | exact ⟨by decide, by decide, by decide, by decide, fun _ => ⟨rfl, rfl⟩⟩
theorem wd_pos (l : List UInt8) : 1 ≤ wd l := (decN_facts _ _ _ _).1
theorem wd_le4 (l : List UInt8) : wd l ≤ 4 := (decN_facts _ _ _ _).2.1
theorem pt_ge (l : List UInt8) : -1 ≤ pt l := (decN_facts _ _ _ _).2.2.1
theorem pt_le (l : List UInt8) : pt l ≤ 1114111 := (decN_facts _ _ _ _).2.2.2.1
theorem pt_neg (l : List UInt8) (h : pt l < 0) : pt l = -1 ∧ wd l = 1 := (decN_facts _ _ _ _).2.2.2.2 h
theorem un_12 (l : List UInt8) : 1 ≤ un l ∧ un l ≤ 2 := by unfold un; split <;> omega
theorem nth_end (l : List UInt8) (k : Nat) (h : l.length ≤ k) : nth l k = 0 := by
  unfold nth
  rw [List.getD_eq_getElem?_getD, List.getElem?_eq_none h]
  rfl
theorem decN_wide (a b c d : Nat) : (2 ≤ (decN a b c d).2 → b / 64 = 2) ∧ (3 ≤ (decN a b c d).2 → c / 64 = 2) ∧ (4 ≤ (decN a b c d).2 → d / 64 = 2) := by
  unfold decN
  repeat' split
  all_goals (simp only; omega)
theorem wd_le (l : List UInt8) (h : l ≠ []) : wd l ≤ l.length := by
  have h1 : 0 < l.length := List.length_pos_iff.2 h
  have h4 := wd_le4 l
  obtain ⟨w2, w3, w4⟩ := decN_wide (nth l 0) (nth l 1) (nth l 2) (nth l 3)
  have e2 := nth_end l 1
  have e3 := nth_end l 2
  have e4 := nth_end l 3
  have hw : wd l = (decN (nth l 0) (nth l 1) (nth l 2) (nth l 3)).2 := rfl
  rw [← hw] at w2 w3 w4
  omega
theorem decN_same (a b c d b' c' d' : Nat) (h0 : 0 ≤ (decN a b c d).1) (hb : 2 ≤ (decN a b c d).2 → b' = b) (hc : 3 ≤ (decN a b c d).2 → c' = c) (hd : 4 ≤ (decN a b c d).2 → d' = d) : decN a b' c' d' = decN a b c d := by
  by_cases h1 : a < 128
  · simp only [decN, h1, if_true]
  · by_cases h2 : a / 32 = 6 ∧ b / 64 = 2 ∧ 128 ≤ a % 32 * 64 + b % 64
    · have e : decN a b c d = (((a % 32 * 64 + b % 64 : Nat) : Int), 2) := by simp only [decN]; rw [if_neg h1, if_pos h2]
      rw [e] at hb
      have := hb (by simp)
      subst this
      rw [e]
      simp only [decN]
      rw [if_neg h1, if_pos h2]
    · by_cases h3 : a / 16 = 14 ∧ b / 64 = 2 ∧ c / 64 = 2 ∧ 2048 ≤ a % 16 * 4096 + b % 64 * 64 + c % 64 ∧ (a % 16 * 4096 + b % 64 * 64 + c % 64 < 55296 ∨ 57343 < a % 16 * 4096 + b % 64 * 64 + c % 64)
      · have e : decN a b c d = (((a % 16 * 4096 + b % 64 * 64 + c % 64 : Nat) : Int), 3) := by simp only [decN]; rw [if_neg h1, if_neg h2, if_pos h3]
        rw [e] at hb hc
        have e1 := hb (by simp)
        have e2 := hc (by simp)
        subst e1 e2
        rw [e]
        simp only [decN]
        rw [if_neg h1, if_neg h2, if_pos h3]
      · by_cases h4 : a / 8 = 30 ∧ b / 64 = 2 ∧ c / 64 = 2 ∧ d / 64 = 2 ∧ 65536 ≤ a % 8 * 262144 + b % 64 * 4096 + c % 64 * 64 + d % 64 ∧ a % 8 * 262144 + b % 64 * 4096 + c % 64 * 64 + d % 64 ≤ 1114111
        · have e : decN a b c d = (((a % 8 * 262144 + b % 64 * 4096 + c % 64 * 64 + d % 64 : Nat) : Int), 4) := by simp only [decN]; rw [if_neg h1, if_neg h2, if_neg h3, if_pos h4]
          rw [e] at hb hc hd
          have e1 := hb (by simp)
          have e2 := hc (by simp)
          have e3 := hd (by simp)
          subst e1 e2 e3
          exact rfl
        · have e : decN a b c d = (-1, 1) := by simp only [decN]; rw [if_neg h1, if_neg h2, if_neg h3, if_neg h4]
          rw [e] at h0
          simp at h0
theorem nth_append (l m : List UInt8) (k : Nat) (h : k < l.length) : nth (l ++ m) k = nth l k := by
  unfold nth
  rw [List.getD_eq_getElem?_getD, List.getD_eq_getElem?_getD, List.getElem?_append_left h]
/-- A point's bytes stand wherever something stands behind them. -/
theorem dec_append (l m : List UInt8) (h : l ≠ []) (hp : 0 ≤ pt l) : dec (l ++ m) = dec l := by
  have hw := wd_le l h
  have h1 : 0 < l.length := List.length_pos_iff.2 h
  unfold dec
  rw [nth_append l m 0 h1]
  exact decN_same _ _ _ _ _ _ _ hp (fun h2 => nth_append l m 1 (by have : 2 ≤ wd l := h2; omega)) (fun h2 => nth_append l m 2 (by have : 3 ≤ wd l := h2; omega)) (fun h2 => nth_append l m 3 (by have : 4 ≤ wd l := h2; omega))

theorem drop_lt (l : List UInt8) (h : ¬ l = []) : (l.drop (wd l)).length < l.length := by
  have h1 : 0 < l.length := List.length_pos_iff.2 h
  have := wd_pos l
  rw [List.length_drop]
  omega
/-- How many units a text has. -/
def units (l : List UInt8) : Nat := if _h : l = [] then 0 else un l + units (l.drop (wd l))
termination_by l.length
decreasing_by exact drop_lt l ‹_›
/-- Has each piece a point? -/
def valid (l : List UInt8) : Bool := if _h : l = [] then true else decide (0 ≤ pt l) && valid (l.drop (wd l))
termination_by l.length
decreasing_by exact drop_lt l ‹_›
/-- The place of a number of units. -/
def byteAt (l : List UInt8) (u : Int) : Nat := if _h : l = [] then 0 else if u < un l then 0 else wd l + byteAt (l.drop (wd l)) (u - un l)
termination_by l.length
decreasing_by exact drop_lt l ‹_›
/-- How many units the pieces have that end at a place or ahead of it. -/
def unitsAt (l : List UInt8) (a : Int) : Nat := if _h : l = [] then 0 else if a < wd l then 0 else un l + unitsAt (l.drop (wd l)) (a - wd l)
termination_by l.length
decreasing_by exact drop_lt l ‹_›
/-- The pieces: where each begins and ends, its units, has it a point? -/
def pieces (l : List UInt8) (k : Nat) : List (Nat × Nat × Nat × Bool) := if _h : l = [] then [] else (k, k + wd l, un l, decide (0 ≤ pt l)) :: pieces (l.drop (wd l)) (k + wd l)
termination_by l.length
decreasing_by exact drop_lt l ‹_›

theorem units_nil : units [] = 0 := by rw [units]; rfl
theorem valid_nil : valid [] = true := by rw [valid]; rfl
theorem byteAt_nil (u : Int) : byteAt [] u = 0 := by rw [byteAt]; rfl
theorem unitsAt_nil (u : Int) : unitsAt [] u = 0 := by rw [unitsAt]; rfl
theorem pieces_nil (k : Nat) : pieces [] k = [] := by rw [pieces]; rfl
theorem units_cons (l : List UInt8) (h : l ≠ []) : units l = un l + units (l.drop (wd l)) := by rw [units, dif_neg h]
theorem valid_cons (l : List UInt8) (h : l ≠ []) : valid l = (decide (0 ≤ pt l) && valid (l.drop (wd l))) := by rw [valid, dif_neg h]
theorem byteAt_lt (l : List UInt8) (u : Int) (h : l ≠ []) (hu : u < un l) : byteAt l u = 0 := by rw [byteAt, dif_neg h, if_pos hu]
theorem byteAt_ge (l : List UInt8) (u : Int) (h : l ≠ []) (hu : ¬ u < un l) : byteAt l u = wd l + byteAt (l.drop (wd l)) (u - un l) := by rw [byteAt, dif_neg h, if_neg hu]
theorem unitsAt_lt (l : List UInt8) (u : Int) (h : l ≠ []) (hu : u < wd l) : unitsAt l u = 0 := by rw [unitsAt, dif_neg h, if_pos hu]
theorem unitsAt_ge (l : List UInt8) (u : Int) (h : l ≠ []) (hu : ¬ u < wd l) : unitsAt l u = un l + unitsAt (l.drop (wd l)) (u - wd l) := by rw [unitsAt, dif_neg h, if_neg hu]
theorem pieces_cons (l : List UInt8) (k : Nat) (h : l ≠ []) : pieces l k = (k, k + wd l, un l, decide (0 ≤ pt l)) :: pieces (l.drop (wd l)) (k + wd l) := by rw [pieces, dif_neg h]

/-- What holds of the empty text, and of each other one if it holds behind its first piece, holds of all. -/
theorem by_pieces {motive : List UInt8 → Prop} (nil : motive []) (cons : ∀ l, l ≠ [] → motive (l.drop (wd l)) → motive l) (l : List UInt8) : motive l := by
  have : ∀ n (l : List UInt8), l.length ≤ n → motive l := by
    intro n
    induction n with
    | zero =>
      intro l h
      have e : l = [] := List.eq_nil_of_length_eq_zero (by omega)
      rw [e]; exact nil
    | succ n ih =>
      intro l h
      by_cases hl : l = []
      · rw [hl]; exact nil
      · exact cons l hl (ih _ (by have := drop_lt l hl; omega))
  exact this l.length l (Nat.le_refl _)

theorem units_le (l : List UInt8) : units l ≤ 2 * l.length := by
  induction l using by_pieces with
  | nil => rw [units_nil]; exact Nat.zero_le _
  | cons l h ih =>
    rw [units_cons l h]
    have h1 := un_12 l
    have h2 := drop_lt l h
    omega
theorem byteAt_le (l : List UInt8) : ∀ u, byteAt l u ≤ l.length := by
  induction l using by_pieces with
  | nil => intro u; rw [byteAt_nil]; exact Nat.zero_le _
  | cons l h ih =>
    intro u
    by_cases hu : u < un l
    · rw [byteAt_lt l u h hu]; exact Nat.zero_le _
    · rw [byteAt_ge l u h hu]
      have h1 := ih (u - un l)
      have h2 := wd_le l h
      rw [List.length_drop] at h1
      omega
theorem unitsAt_le (l : List UInt8) : ∀ a, unitsAt l a ≤ units l := by
  induction l using by_pieces with
  | nil => intro u; rw [unitsAt_nil]; exact Nat.zero_le _
  | cons l h ih =>
    intro a
    by_cases hu : a < wd l
    · rw [unitsAt_lt l a h hu]; exact Nat.zero_le _
    · rw [unitsAt_ge l a h hu, units_cons l h]
      have h1 := ih (a - wd l)
      omega
theorem unitsAt_neg (l : List UInt8) (a : Int) (ha : a < 0) : unitsAt l a = 0 := by
  by_cases h : l = []
  · rw [h, unitsAt_nil]
  · exact unitsAt_lt l a h (by omega)
theorem byteAt_neg (l : List UInt8) (a : Int) (ha : a < 0) : byteAt l a = 0 := by
  by_cases h : l = []
  · rw [h, byteAt_nil]
  · exact byteAt_lt l a h (by omega)
theorem unitsAt_end (l : List UInt8) : ∀ a : Int, l.length ≤ a → unitsAt l a = units l := by
  induction l using by_pieces with
  | nil => intro a _; rw [unitsAt_nil, units_nil]
  | cons l h ih =>
    intro a ha
    have h2 := wd_le l h
    rw [unitsAt_ge l a h (by omega), units_cons l h, ih _ (by rw [List.length_drop]; omega)]
theorem byteAt_end (l : List UInt8) : ∀ u : Int, units l ≤ u → byteAt l u = l.length := by
  induction l using by_pieces with
  | nil => intro u _; rw [byteAt_nil]; rfl
  | cons l h ih =>
    intro u hu
    rw [units_cons l h] at hu
    have h2 := wd_le l h
    rw [byteAt_ge l u h (by omega), ih _ (by omega), List.length_drop]
    omega
theorem byteAt_zero (l : List UInt8) : byteAt l 0 = 0 := by
  by_cases h : l = []
  · rw [h, byteAt_nil]
  · exact byteAt_lt l 0 h (by have := un_12 l; omega)
theorem unitsAt_zero (l : List UInt8) : unitsAt l 0 = 0 := by
  by_cases h : l = []
  · rw [h, unitsAt_nil]
  · exact unitsAt_lt l 0 h (by have := wd_pos l; omega)
theorem unitsAt_mono (l : List UInt8) : ∀ a b : Int, a ≤ b → unitsAt l a ≤ unitsAt l b := by
  induction l using by_pieces with
  | nil => intro a b _; rw [unitsAt_nil]; exact Nat.zero_le _
  | cons l h ih =>
    intro a b hab
    by_cases ha : a < wd l
    · rw [unitsAt_lt l a h ha]; exact Nat.zero_le _
    · rw [unitsAt_ge l a h ha, unitsAt_ge l b h (by omega)]
      have := ih (a - wd l) (b - wd l) (by omega)
      omega
theorem byteAt_mono (l : List UInt8) : ∀ a b : Int, a ≤ b → byteAt l a ≤ byteAt l b := by
  induction l using by_pieces with
  | nil => intro a b _; rw [byteAt_nil]; exact Nat.zero_le _
  | cons l h ih =>
    intro a b hab
    by_cases ha : a < un l
    · rw [byteAt_lt l a h ha]; exact Nat.zero_le _
    · rw [byteAt_ge l a h ha, byteAt_ge l b h (by omega)]
      have := ih (a - un l) (b - un l) (by omega)
      omega
/-- The place of the units ahead of a place: it, or ahead of it by three at most; of that place it is itself. -/
theorem back_place (l : List UInt8) : ∀ p : Nat, byteAt l (unitsAt l p) ≤ p ∧ (p ≤ l.length → p - byteAt l (unitsAt l p) ≤ 3) ∧ byteAt l (unitsAt l (byteAt l (unitsAt l p))) = byteAt l (unitsAt l p) := by
  induction l using by_pieces with
  | nil => intro p; rw [byteAt_nil]; refine ⟨Nat.zero_le _, fun h => ?_, byteAt_nil _⟩; have : p ≤ 0 := h; omega
  | cons l h ih =>
    intro p
    by_cases hp : (p : Int) < wd l
    · rw [unitsAt_lt l p h hp]
      have e : byteAt l ((0 : Nat) : Int) = 0 := byteAt_zero l
      rw [e]
      refine ⟨Nat.zero_le _, fun _ => by have := wd_le4 l; omega, ?_⟩
      have e2 : unitsAt l ((0 : Nat) : Int) = 0 := unitsAt_zero l
      rw [e2]
      exact e
    · have hw : wd l ≤ p := by omega
      obtain ⟨i1, i2, i3⟩ := ih (p - wd l)
      have es : ((p : Int) - (wd l : Int)) = ((p - wd l : Nat) : Int) := by omega
      rw [unitsAt_ge l p h hp, es]
      rw [byteAt_ge l _ h (by omega)]
      have eu : (((un l + unitsAt (l.drop (wd l)) ((p - wd l : Nat) : Int) : Nat) : Int) - (un l : Int)) = ((unitsAt (l.drop (wd l)) ((p - wd l : Nat) : Int) : Nat) : Int) := by omega
      rw [eu]
      refine ⟨by omega, fun hl => ?_, ?_⟩
      · have := i2 (by rw [List.length_drop]; omega)
        omega
      · rw [unitsAt_ge l _ h (by omega)]
        have ew : (((wd l + byteAt (l.drop (wd l)) ((unitsAt (l.drop (wd l)) ((p - wd l : Nat) : Int) : Nat) : Int) : Nat) : Int) - (wd l : Int)) = ((byteAt (l.drop (wd l)) ((unitsAt (l.drop (wd l)) ((p - wd l : Nat) : Int) : Nat) : Int) : Nat) : Int) := by omega
        rw [ew, byteAt_ge l _ h (by omega)]
        have eu2 : (((un l + unitsAt (l.drop (wd l)) ((byteAt (l.drop (wd l)) ((unitsAt (l.drop (wd l)) ((p - wd l : Nat) : Int) : Nat) : Int) : Nat) : Int) : Nat) : Int) - (un l : Int)) = ((unitsAt (l.drop (wd l)) ((byteAt (l.drop (wd l)) ((unitsAt (l.drop (wd l)) ((p - wd l : Nat) : Int) : Nat) : Int) : Nat) : Int) : Nat) : Int) := by omega
        rw [eu2, i3]
/-- The units ahead of the place of a number of units: that number, or one less. -/
theorem back_units (l : List UInt8) : ∀ u : Nat, u ≤ units l → unitsAt l (byteAt l u) ≤ u ∧ u - unitsAt l (byteAt l u) ≤ 1 := by
  induction l using by_pieces with
  | nil => intro u hu; rw [units_nil] at hu; rw [unitsAt_nil]; omega
  | cons l h ih =>
    intro u hu
    rw [units_cons l h] at hu
    by_cases hp : (u : Int) < un l
    · rw [byteAt_lt l u h hp]
      have e : unitsAt l ((0 : Nat) : Int) = 0 := unitsAt_zero l
      rw [e]
      have := un_12 l
      omega
    · have hw : un l ≤ u := by omega
      obtain ⟨i1, i2⟩ := ih (u - un l) (by omega)
      have es : ((u : Int) - (un l : Int)) = ((u - un l : Nat) : Int) := by omega
      rw [byteAt_ge l u h hp, es, unitsAt_ge l _ h (by omega)]
      have eu : (((wd l + byteAt (l.drop (wd l)) ((u - un l : Nat) : Int) : Nat) : Int) - (wd l : Int)) = ((byteAt (l.drop (wd l)) ((u - un l : Nat) : Int) : Nat) : Int) := by omega
      rw [eu]
      omega
theorem joins (b : List UInt8) (a : List UInt8) : valid a = true → units (a ++ b) = units a + units b ∧ valid (a ++ b) = valid b ∧ unitsAt (a ++ b) a.length = units a ∧ byteAt (a ++ b) (units a) = a.length := by
  induction a using by_pieces with
  | nil =>
    intro _
    rw [units_nil]
    refine ⟨by simp, by simp, ?_, ?_⟩
    · exact unitsAt_zero _
    · exact byteAt_zero _
  | cons a h ih =>
    intro hv
    rw [valid_cons a h, Bool.and_eq_true, decide_eq_true_eq] at hv
    obtain ⟨i1, i2, i3, i4⟩ := ih hv.2
    have hd := dec_append a b h hv.1
    have ep : pt (a ++ b) = pt a := by unfold pt; rw [hd]
    have ew : wd (a ++ b) = wd a := by unfold wd; rw [hd]
    have eu : un (a ++ b) = un a := by unfold un; rw [ep]
    have hn : a ++ b ≠ [] := by simp [h]
    have hl := wd_le a h
    have es : (a ++ b).drop (wd a) = a.drop (wd a) ++ b := List.drop_append_of_le_length hl
    have hlen : (a.drop (wd a)).length = a.length - wd a := List.length_drop
    rw [units_cons _ hn, valid_cons _ hn, ep, ew, eu, es, units_cons a h, i1, i2]
    refine ⟨by omega, by simp [hv.1], ?_, ?_⟩
    · rw [unitsAt_ge _ _ hn (by rw [ew]; omega), ew, eu, es]
      have e1 : ((a.length : Int) - (wd a : Int)) = (((a.drop (wd a)).length : Nat) : Int) := by omega
      rw [e1, i3]
    · rw [byteAt_ge _ _ hn (by rw [eu]; omega), ew, eu, es]
      have e1 : (((un a + units (a.drop (wd a)) : Nat) : Int) - (un a : Int)) = ((units (a.drop (wd a)) : Nat) : Int) := by omega
      rw [e1, i4]
      omega

/-- Is a number a point? -/
def isPt (n : Int) : Bool := decide ((0 ≤ n ∧ n < 55296) ∨ (57343 < n ∧ n ≤ 1114111))
/-- A point's bytes, as numbers. -/
def encN (n : Nat) : List Nat :=
  if n < 128 then [n]
  else if n < 2048 then [192 + n / 64, 128 + n % 64]
  else if n < 65536 then [224 + n / 4096, 128 + n / 64 % 64, 128 + n % 64]
  else [240 + n / 262144, 128 + n / 4096 % 64, 128 + n / 64 % 64, 128 + n % 64]
def encL (n : Nat) : List UInt8 := (encN n).map UInt8.ofNat
theorem encN_len (n : Nat) : 1 ≤ (encN n).length ∧ (encN n).length ≤ 4 := by
  unfold encN
  repeat' split
  all_goals simp
theorem encL_len (n : Nat) : 1 ≤ (encL n).length ∧ (encL n).length ≤ 4 := by
  unfold encL; rw [List.length_map]; exact encN_len n
theorem encL_ne (n : Nat) : encL n ≠ [] := by
  intro h
  have := encL_len n
  rw [h] at this
  simp at this
theorem ofNat_toNat (x : Nat) (h : x < 256) : (UInt8.ofNat x).toNat = x := by
  rw [UInt8.toNat_ofNat']; omega
/-- A point's bytes are decoded as it. -/
theorem dec_enc (n : Nat) (h : isPt n = true) : dec (encL n) = ((n : Int), (encL n).length) := by
  unfold isPt at h
  rw [decide_eq_true_eq] at h
  unfold encL encN
  by_cases h1 : n < 128
  · rw [if_pos h1]
    simp only [dec, nth, List.map_cons, List.map_nil, List.getD_cons_zero, ofNat_toNat n (by omega), List.length_cons, List.length_nil]
    unfold decN
    rw [if_pos h1]
  · rw [if_neg h1]
    by_cases h2 : n < 2048
    · rw [if_pos h2]
      simp only [dec, nth, List.map_cons, List.map_nil, List.getD_cons_zero, List.getD_cons_succ, ofNat_toNat (192 + n / 64) (by omega), ofNat_toNat (128 + n % 64) (by omega), List.length_cons, List.length_nil]
      unfold decN
      rw [if_neg (by omega), if_pos (by omega)]
      exact Prod.ext (by simp only; omega) rfl
    · rw [if_neg h2]
      by_cases h3 : n < 65536
      · rw [if_pos h3]
        simp only [dec, nth, List.map_cons, List.map_nil, List.getD_cons_zero, List.getD_cons_succ, ofNat_toNat (224 + n / 4096) (by omega), ofNat_toNat (128 + n / 64 % 64) (by omega), ofNat_toNat (128 + n % 64) (by omega), List.length_cons, List.length_nil]
        unfold decN
        rw [if_neg (by omega), if_neg (by omega), if_pos (by omega)]
        exact Prod.ext (by simp only; omega) rfl
      · rw [if_neg h3]
        simp only [dec, nth, List.map_cons, List.map_nil, List.getD_cons_zero, List.getD_cons_succ, ofNat_toNat (240 + n / 262144) (by omega), ofNat_toNat (128 + n / 4096 % 64) (by omega), ofNat_toNat (128 + n / 64 % 64) (by omega), ofNat_toNat (128 + n % 64) (by omega), List.length_cons, List.length_nil]
        unfold decN
        rw [if_neg (by omega), if_neg (by omega), if_neg (by omega), if_pos (by omega)]
        exact Prod.ext (by simp only; omega) rfl
theorem dec_enc_append (n : Nat) (h : isPt n = true) (m : List UInt8) : dec (encL n ++ m) = ((n : Int), (encL n).length) := by
  rw [dec_append _ m (encL_ne n) (by unfold pt; rw [dec_enc n h]; simp), dec_enc n h]
theorem valid_enc (n : Nat) (h : isPt n = true) : valid (encL n) = true := by
  have hd := dec_enc n h
  have h1 : pt (encL n) = n := by unfold pt; rw [hd]
  have h2 : wd (encL n) = (encL n).length := by unfold wd; rw [hd]
  rw [valid_cons _ (encL_ne n), h1, h2, List.drop_length, valid_nil]
  simp
theorem prefix_enc (a b : Nat) (ha : isPt a = true) (hb : isPt b = true) (h : encL b <+: encL a) : a = b := by
  obtain ⟨r, hr⟩ := h
  have h1 := dec_enc_append b hb r
  rw [hr, dec_enc a ha] at h1
  have := (Prod.mk.inj h1).1
  omega

/-- The library's plain decode, by the piece. -/
theorem decodeN_decN (n a b c d : Nat) (e1 : n ≤ 1 → b = 0) (e2 : n ≤ 2 → c = 0) (e3 : n ≤ 3 → d = 0) : Lib.decodeN n a b c d = if (decN a b c d).1 < 0 then (65533, 1) else ((decN a b c d).1.toNat, (decN a b c d).2) := by
  by_cases h1 : a < 128
  · have e : decN a b c d = ((a : Int), 1) := by unfold decN; rw [if_pos h1]
    rw [e]
    simp only
    rw [if_neg (by omega), Int.toNat_natCast]
    unfold Lib.decodeN
    rw [if_pos h1]
  · by_cases h2 : a / 32 = 6 ∧ b / 64 = 2 ∧ 128 ≤ a % 32 * 64 + b % 64
    · have e : decN a b c d = (((a % 32 * 64 + b % 64 : Nat) : Int), 2) := by unfold decN; rw [if_neg h1, if_pos h2]
      rw [e]
      simp only
      rw [if_neg (by omega), Int.toNat_natCast]
      unfold Lib.decodeN
      rw [if_neg h1, if_pos ⟨h2.1, by omega, h2.2.1⟩, if_pos h2.2.2]
    · by_cases h3 : a / 16 = 14 ∧ b / 64 = 2 ∧ c / 64 = 2 ∧ 2048 ≤ a % 16 * 4096 + b % 64 * 64 + c % 64 ∧ (a % 16 * 4096 + b % 64 * 64 + c % 64 < 55296 ∨ 57343 < a % 16 * 4096 + b % 64 * 64 + c % 64)
      · have e : decN a b c d = (((a % 16 * 4096 + b % 64 * 64 + c % 64 : Nat) : Int), 3) := by unfold decN; rw [if_neg h1, if_neg h2, if_pos h3]
        rw [e]
        simp only
        rw [if_neg (by omega), Int.toNat_natCast]
        unfold Lib.decodeN
        rw [if_neg h1, if_neg (by omega), if_pos ⟨h3.1, by omega, by omega⟩, if_pos (by omega)]
      · by_cases h4 : a / 8 = 30 ∧ b / 64 = 2 ∧ c / 64 = 2 ∧ d / 64 = 2 ∧ 65536 ≤ a % 8 * 262144 + b % 64 * 4096 + c % 64 * 64 + d % 64 ∧ a % 8 * 262144 + b % 64 * 4096 + c % 64 * 64 + d % 64 ≤ 1114111
        · have e : decN a b c d = (((a % 8 * 262144 + b % 64 * 4096 + c % 64 * 64 + d % 64 : Nat) : Int), 4) := by unfold decN; rw [if_neg h1, if_neg h2, if_neg h3, if_pos h4]
          rw [e]
          simp only
          rw [if_neg (by omega), Int.toNat_natCast]
          unfold Lib.decodeN
          rw [if_neg h1, if_neg (by omega), if_neg (by omega), if_pos ⟨h4.1, by omega, by omega, by omega⟩, if_pos (by omega)]
        · have e : decN a b c d = (-1, 1) := by unfold decN; rw [if_neg h1, if_neg h2, if_neg h3, if_neg h4]
          rw [e]
          show _ = (65533, 1)
          unfold Lib.decodeN
          rw [if_neg h1]
          by_cases g2 : a / 32 = 6 ∧ (1 < n ∧ b / 64 = 2)
          · rw [if_pos g2, if_neg (by omega)]
          · rw [if_neg g2]
            by_cases g3 : a / 16 = 14 ∧ (1 < n ∧ b / 64 = 2) ∧ (2 < n ∧ c / 64 = 2)
            · rw [if_pos g3, if_neg (by omega)]
            · rw [if_neg g3]
              by_cases g4 : a / 8 = 30 ∧ (1 < n ∧ b / 64 = 2) ∧ (2 < n ∧ c / 64 = 2) ∧ (3 < n ∧ d / 64 = 2)
              · rw [if_pos g4, if_neg (by omega)]
              · rw [if_neg g4]
/-- The model's decode at a place, by the piece that stands there. -/
theorem decode_pt (s : ByteArray) (k : Nat) : Utf8.decode s k = if pt (s.data.toList.drop k) < 0 then (65533, 1) else ((pt (s.data.toList.drop k)).toNat, wd (s.data.toList.drop k)) := by
  have hg : ∀ j, (s.get! (k + j)).toNat = nth (s.data.toList.drop k) j := by
    intro j
    unfold nth
    rw [List.getD_eq_getElem?_getD, List.getElem?_drop]
    show (s.data[k + j]!).toNat = _
    rw [Array.getElem?_toList]
    by_cases hj : k + j < s.data.size
    · rw [getElem!_pos s.data (k + j) hj, Array.getElem?_eq_getElem hj]; rfl
    · rw [getElem!_neg s.data (k + j) hj, Array.getElem?_eq_none (by omega)]; rfl
  have hl : (s.data.toList.drop k).length = s.size - k := by rw [List.length_drop]; rfl
  rw [Lib.decode_at]
  have g0 := hg 0; have g1 := hg 1; have g2 := hg 2; have g3 := hg 3
  rw [Nat.add_zero] at g0
  rw [g0, g1, g2, g3]
  have e1 := nth_end (s.data.toList.drop k) 1
  have e2 := nth_end (s.data.toList.drop k) 2
  have e3 := nth_end (s.data.toList.drop k) 3
  rw [hl] at e1 e2 e3
  exact decodeN_decN _ _ _ _ _ e1 e2 e3
end Go.Proofs.YtpphkkelikdhkaaDoor
