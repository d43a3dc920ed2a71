/-
  PLAIN FACTS ABOUT THE WORDS OF A TEXT OF MiniGo: letters, gaps, words, numbers, marks, strings and their values, tokens, what is wrong with them. No program; no condition but those that each theorem says.
-/
import Derived.Test.YtcbfohokigamfaaGreatDoorPlain
namespace Go.Proofs.YtcbfohokigamfaaGreatDoor

def isLt (c : UInt8) : Bool := (decide (97 ≤ c.toNat) && decide (c.toNat ≤ 122)) || (decide (65 ≤ c.toNat) && decide (c.toNat ≤ 90)) || decide (c.toNat = 95)
def isW (c : UInt8) : Bool := isLt c || isD c
def isBk (c : UInt8) : Bool := [32, 9, 13].contains c
/-- The reserved words. -/
def resW : List (List UInt8) := [[98, 114, 101, 97, 107], [99, 111, 110, 116, 105, 110, 117, 101], [101, 108, 115, 101], [102, 97, 108, 115, 101], [102, 108, 111, 97, 116, 54, 52], [102, 111, 114], [102, 117, 110, 99], [105, 102], [105, 109, 112, 111, 114, 116], [105, 110, 116], [98, 111, 111, 108], [115, 116, 114, 105, 110, 103], [108, 101, 110], [112, 97, 99, 107, 97, 103, 101], [112, 97, 110, 105, 99], [112, 114, 105, 110, 116], [114, 101, 116, 117, 114, 110], [115, 116, 114, 117, 99, 116], [116, 114, 117, 101], [116, 121, 112, 101], [118, 97, 114]]
def isRes (x : List UInt8) : Bool := resW.contains x
/-- The words behind which a line may end. -/
def endW : List (List UInt8) := [[116, 114, 117, 101], [102, 97, 108, 115, 101], [114, 101, 116, 117, 114, 110], [98, 114, 101, 97, 107], [99, 111, 110, 116, 105, 110, 117, 101], [105, 110, 116], [98, 111, 111, 108], [115, 116, 114, 105, 110, 103], [102, 108, 111, 97, 116, 54, 52]]

/-- What stands between tokens: how many bytes, and whether a line ends there (the text's end ends one, too); in a comment, or not. -/
def gapB : Bool → List UInt8 → Nat × Bool
  | _, [] => (0, true)
  | com, c :: l =>
    if c.toNat = 10 then ((gapB false l).1 + 1, true)
    else if com then ((gapB true l).1 + 1, (gapB true l).2)
    else if fst (is1 47) (c :: l) && fst (is1 47) l then ((gapB true l).1 + 1, (gapB true l).2)
    else if isBk c then ((gapB false l).1 + 1, (gapB false l).2)
    else (0, false)
def gap (l : List UInt8) : Nat × Bool := gapB false l
theorem gapB_le : ∀ (com : Bool) (l : List UInt8), (gapB com l).1 ≤ l.length
  | _, [] => Nat.le_refl _
  | com, c :: l => by
    have h1 := gapB_le false l
    have h2 := gapB_le true l
    rw [gapB, List.length_cons]
    repeat' split
    all_goals (simp only; omega)

/-- The exponent of a float. -/
def expL (l : List UInt8) : Nat := if fst (is1 101) l then (if run isD (l.drop (1 + signLen (l.drop 1))) = 0 then 0 else 1 + signLen (l.drop 1) + run isD (l.drop (1 + signLen (l.drop 1)))) else 0
/-- A number's kind, and how many bytes it has. -/
def numK (l : List UInt8) : Nat × Nat :=
  if fst (is1 46) (l.drop (run isD l)) then
    if run isD (l.drop (run isD l + 1)) = 0 then (3, run isD l)
    else (4, run isD l + 1 + run isD (l.drop (run isD l + 1)) + expL (l.drop (run isD l + 1 + run isD (l.drop (run isD l + 1)))))
  else (3, run isD l)
theorem expL_le (l : List UInt8) : expL l ≤ l.length := by
  unfold expL
  have h1 := run_le isD (l.drop (1 + signLen (l.drop 1)))
  have h2 := signLen_le (l.drop 1)
  rw [List.length_drop] at h1 h2
  split
  · have := fst_len _ l ‹_›
    split <;> omega
  · omega
theorem numK_le (l : List UInt8) : (numK l).2 ≤ l.length := by
  unfold numK
  have h1 := run_le isD l
  have h2 := run_le isD (l.drop (run isD l + 1))
  have h3 := expL_le (l.drop (run isD l + 1 + run isD (l.drop (run isD l + 1))))
  rw [List.length_drop] at h2 h3
  split
  · have := fst_len _ _ ‹_›
    rw [List.length_drop] at this
    split <;> (simp only; omega)
  · exact h1
/-- The marks of two bytes, and of one. -/
def mk2 (l : List UInt8) : Bool := [[61, 61], [33, 61], [60, 61], [62, 61], [38, 38], [124, 124], [58, 61]].contains (l.take 2)
def mk1 (l : List UInt8) : Bool := fst (fun c => [43, 45, 42, 47, 37, 60, 62, 33, 61, 40, 41, 123, 125, 44, 46, 58].contains c) l
def markL (l : List UInt8) : Nat := if mk2 l then 2 else if mk1 l then 1 else 0
theorem mk2_len (l : List UInt8) (h : mk2 l = true) : 2 ≤ l.length := by
  rcases Nat.lt_or_ge l.length 2 with hl | hl
  · unfold mk2 at h
    rw [List.take_of_length_le (by omega)] at h
    match l, hl with
    | [], _ => simp at h
    | [c], _ => simp at h
  · exact hl
theorem markL_le (l : List UInt8) : markL l ≤ l.length := by
  unfold markL
  split
  · exact mk2_len l ‹_›
  · split
    · exact fst_len _ l ‹_›
    · omega
/-- A hex digit's number. -/
def hexT : List UInt8 := [48, 49, 50, 51, 52, 53, 54, 55, 56, 57, 97, 98, 99, 100, 101, 102]
def hexI (c : UInt8) : Option Nat := hexT.idxOf? c
theorem hexI_lt {c : UInt8} {n : Nat} (h : hexI c = some n) : n < 16 := by
  have : ∀ k : Fin 256, ∀ m, hexI (UInt8.ofNat k.val) = some m → m < 16 := by decide +kernel
  have h1 := this ⟨c.toNat, c.toNat_lt⟩ n
  simp only [UInt8.ofNat_toNat] at h1
  exact h1 h
/-- What two hex digits say. -/
def hexP : List UInt8 → Option (UInt8 × Nat)
  | a :: b :: _ => match hexI a, hexI b with
    | some x, some y => some (UInt8.ofNat (16 * x + y), 4)
    | _, _ => none
  | _ => none
/-- What stands behind a backslash, and how many bytes the escape has. -/
def escQ : List UInt8 → Option (UInt8 × Nat)
  | [] => none
  | d :: u => if d.toNat = 110 then some (10, 2) else if d.toNat = 116 then some (9, 2) else if d.toNat = 92 ∨ d.toNat = 34 then some (d, 2) else if d.toNat = 120 then hexP u else none
/-- A byte of a string, and how many bytes say it. -/
def pieceQ : List UInt8 → Option (UInt8 × Nat)
  | [] => none
  | c :: t => if c.toNat = 92 then escQ t else if c.toNat < 32 ∨ c.toNat = 127 then none else some (c, 1)
theorem hexP_len {l : List UInt8} {c : UInt8} {n : Nat} (h : hexP l = some (c, n)) : n = 4 ∧ 2 ≤ l.length := by
  unfold hexP at h
  split at h
  · split at h
    · simp at h; simp; omega
    · simp at h
  · simp at h
theorem escQ_len {l : List UInt8} {c : UInt8} {n : Nat} (h : escQ l = some (c, n)) : 2 ≤ n ∧ n ≤ l.length + 1 := by
  cases l with
  | nil => simp [escQ] at h
  | cons d u =>
    simp only [escQ] at h
    rw [List.length_cons]
    split at h
    · simp at h; omega
    · split at h
      · simp at h; omega
      · split at h
        · simp at h; omega
        · split at h
          · have := hexP_len h; omega
          · simp at h
theorem pieceQ_len {l : List UInt8} {c : UInt8} {n : Nat} (h : pieceQ l = some (c, n)) : 1 ≤ n ∧ n ≤ l.length := by
  cases l with
  | nil => simp [pieceQ] at h
  | cons d u =>
    simp only [pieceQ] at h
    rw [List.length_cons]
    split at h
    · have := escQ_len h; omega
    · split at h
      · simp at h
      · simp at h; omega
/-- The value of a string, and its bytes, behind its first mark. -/
def uqF : Nat → List UInt8 → Option (List UInt8 × Nat)
  | 0, _ => none
  | f + 1, l =>
    if l = [] then none
    else if fst (is1 34) l then some ([], 1)
    else match pieceQ l with
      | none => none
      | some (c, n) => match uqF f (l.drop n) with
        | none => none
        | some (x, m) => some (c :: x, n + m)
def uqB (l : List UInt8) : Option (List UInt8 × Nat) := uqF (l.length + 1) l
theorem uqF_eq : ∀ (f g : Nat) (l : List UInt8), l.length < f → l.length < g → uqF f l = uqF g l
  | 0, _, _, h, _ => by omega
  | _, 0, _, _, h => by omega
  | f + 1, g + 1, l, h, k => by
    rw [uqF, uqF]
    by_cases hl : l = []
    · rw [if_pos hl, if_pos hl]
    · rw [if_neg hl, if_neg hl]
      cases hp : pieceQ l with
      | none => rfl
      | some p =>
        obtain ⟨c, n⟩ := p
        have := pieceQ_len hp
        have hpos := List.length_pos_iff.2 hl
        simp only
        rw [uqF_eq f g _ (by rw [List.length_drop]; omega) (by rw [List.length_drop]; omega)]
theorem uqB_nil : uqB [] = none := rfl
theorem uqB_end (l : List UInt8) (h : fst (is1 34) l = true) : uqB l = some ([], 1) := by
  have hl : l ≠ [] := by intro e; subst e; simp [fst] at h
  unfold uqB; rw [uqF, if_neg hl, if_pos h]
theorem uqB_bad (l : List UInt8) (h : fst (is1 34) l = false) (hp : pieceQ l = none) : uqB l = none := by
  unfold uqB; rw [uqF]
  split
  · rfl
  · rw [if_neg (by rw [h]; simp), hp]
theorem uqB_step (l : List UInt8) (h : fst (is1 34) l = false) (c : UInt8) (n : Nat) (hp : pieceQ l = some (c, n)) : uqB l = match uqB (l.drop n) with
    | none => none
    | some (x, m) => some (c :: x, n + m) := by
  have hl : l ≠ [] := by intro e; subst e; simp [pieceQ] at hp
  have := pieceQ_len hp
  unfold uqB; rw [uqF, if_neg hl, if_neg (by rw [h]; simp), hp]
  simp only
  rw [uqF_eq l.length ((l.drop n).length + 1) _ (by rw [List.length_drop]; omega) (by omega)]
theorem uqF_len : ∀ (f : Nat) (l x : List UInt8) (n : Nat), uqF f l = some (x, n) → 1 ≤ n ∧ n ≤ l.length ∧ x.length + 1 ≤ n
  | 0, _, _, _, h => by cases h
  | f + 1, l, x, n, h => by
    rw [uqF] at h
    split at h
    · cases h
    · rename_i hl
      have hpos := List.length_pos_iff.2 hl
      split at h
      · simp only [Option.some.injEq, Prod.mk.injEq] at h
        obtain ⟨rfl, rfl⟩ := h
        simp; omega
      · split at h
        · cases h
        · rename_i c k hp
          have h1 := pieceQ_len hp
          split at h
          · cases h
          · rename_i y m hy
            have ih := uqF_len f _ y m hy
            rw [List.length_drop] at ih
            simp only [Option.some.injEq, Prod.mk.injEq] at h
            obtain ⟨rfl, rfl⟩ := h
            rw [List.length_cons]
            omega
/-- The value of the string that a text begins with, and its bytes. -/
def uqS (l : List UInt8) : Option (List UInt8 × Nat) := if fst (is1 34) l then (uqB (l.drop 1)).map (fun x => (x.1, x.2 + 1)) else none
theorem uqS_len {l x : List UInt8} {n : Nat} (h : uqS l = some (x, n)) : 2 ≤ n ∧ n ≤ l.length ∧ x.length + 2 ≤ n := by
  unfold uqS at h
  split at h
  · rename_i h1
    have := fst_len _ l h1
    cases he : uqB (l.drop 1) with
    | none => rw [he] at h; cases h
    | some y =>
      obtain ⟨y, m⟩ := y
      rw [he] at h
      simp only [Option.map_some, Option.some.injEq, Prod.mk.injEq] at h
      obtain ⟨rfl, rfl⟩ := h
      have ih := uqF_len _ _ _ _ he
      rw [List.length_drop] at ih
      omega
  · cases h
def strL (l : List UInt8) : Nat := match uqS l with
  | none => 0
  | some (_, n) => n
theorem strL_le (l : List UInt8) : strL l ≤ l.length := by
  unfold strL
  split
  · omega
  · exact (uqS_len ‹_›).2.1
/-- The kind of the token that a text begins with, and how many bytes it has; nought: none. -/
def tokK (l : List UInt8) : Nat × Nat :=
  if fst isLt l then (if isRes (l.take (run isW l)) then 2 else 1, run isW l)
  else if fst isD l then numK l
  else if fst (is1 34) l then (5, strL l)
  else if fst (is1 59) l then (7, 1)
  else (6, markL l)
theorem tokK_le (l : List UInt8) : (tokK l).2 ≤ l.length := by
  unfold tokK
  split
  · exact run_le _ _
  · split
    · exact numK_le l
    · split
      · exact strL_le l
      · split
        · exact fst_len _ l ‹_›
        · exact markL_le l
/-- Why letters and digits are no name. -/
def nameF (x : List UInt8) : Nat := if 40 < x.length then 3 else if x = [95] then 9 else 0
/-- A row of digits' number. -/
def decV : Nat → List UInt8 → Nat
  | n, [] => n
  | n, c :: l => decV (10 * n + (c.toNat - 48)) l
/-- How many bytes a whole literal has that a text begins with. -/
def wholeN (x : List UInt8) : Nat := if 1 < run isD x && fst (is1 48) x then 0 else run isD x
/-- What is wrong with a whole literal. -/
def intF (x : List UInt8) : Nat := if x ≠ [] ∧ wholeN x = x.length then (if decV 0 x < 9223372036854775808 then 0 else 3) else 4
/-- What a string's literal says, or what is wrong with it. -/
def valR (x : List UInt8) : Except Nat (List UInt8) := match uqS x with
  | none => .error 4
  | some (v, n) => if n < x.length ∨ good x < x.length then .error 4 else if 4096 < v.length then .error 3 else .ok v
def valF (x : List UInt8) : Nat := match valR x with
  | .error e => e
  | .ok _ => 0
/-- What is wrong with a token of a kind; ff: with a float. -/
def faultF (ff : List UInt8 → Nat) (k : Nat) (x : List UInt8) : Nat := if k = 1 then nameF x else if k = 3 then intF x else if k = 4 then ff x else if k = 5 then valF x else 0
/-- A token's kind, text and places. -/
abbrev Tok := Nat × List UInt8 × Nat × Nat
def wants (t : Tok) : Bool := if t.1 = 1 ∨ t.1 = 3 ∨ t.1 = 4 ∨ t.1 = 5 then true else if t.1 = 6 then (t.2.1 == [41] || t.2.1 == [125]) else endW.contains t.2.1
/-- Tokens behind a line's end. -/
def ends (acc : List Tok) : List Tok := match acc.getLast? with
  | none => acc
  | some t => if wants t then acc ++ [(7, [], t.2.2.2, t.2.2.2)] else acc
theorem ends_ends (acc : List Tok) : ends (ends acc) = ends acc := by
  unfold ends
  cases h : acc.getLast? with
  | none => simp only [h]
  | some t =>
    simp only
    by_cases hw : wants t = true
    · rw [if_pos hw]
      simp only [List.getLast?_append, List.getLast?_singleton, Option.some_or]
      rw [if_neg (by simp [wants, endW])]
    · rw [if_neg hw, h]
      simp only
      rw [if_neg hw]
/-- Tokens behind a gap. -/
def endIf (b : Bool) (acc : List Tok) : List Tok := if b then ends acc else acc
/-- The tokens of what stands from a place on, behind those that were taken; or the place, and the error. -/
def lexF (ff : List UInt8 → Nat) : Nat → List Tok → Nat → List UInt8 → Except (Nat × Nat) (List Tok)
  | 0, acc, _, _ => .ok acc
  | f + 1, acc, k, l =>
    if l.drop (gap l).1 = [] then .ok (endIf (gap l).2 acc)
    else if (tokK (l.drop (gap l).1)).2 = 0 then .error (k + (gap l).1, 4)
    else if faultF ff (tokK (l.drop (gap l).1)).1 ((l.drop (gap l).1).take (tokK (l.drop (gap l).1)).2) ≠ 0 then .error (k + (gap l).1, faultF ff (tokK (l.drop (gap l).1)).1 ((l.drop (gap l).1).take (tokK (l.drop (gap l).1)).2))
    else lexF ff f (endIf (gap l).2 acc ++ [((tokK (l.drop (gap l).1)).1, (l.drop (gap l).1).take (tokK (l.drop (gap l).1)).2, k + (gap l).1, k + (gap l).1 + (tokK (l.drop (gap l).1)).2)]) (k + (gap l).1 + (tokK (l.drop (gap l).1)).2) (l.drop ((gap l).1 + (tokK (l.drop (gap l).1)).2))
def lex (ff : List UInt8 → Nat) (acc : List Tok) (k : Nat) (l : List UInt8) : Except (Nat × Nat) (List Tok) := lexF ff (l.length + 1) acc k l
theorem lexF_eq (ff : List UInt8 → Nat) : ∀ (f g : Nat) (acc : List Tok) (k : Nat) (l : List UInt8), l.length < f → l.length < g → lexF ff f acc k l = lexF ff g acc k l
  | 0, _, _, _, _, h, _ => by omega
  | _, 0, _, _, _, _, h => by omega
  | f + 1, g + 1, acc, k, l, h, j => by
    rw [lexF, lexF]
    by_cases hl : l.drop (gap l).1 = []
    · rw [if_pos hl, if_pos hl]
    · rw [if_neg hl, if_neg hl]
      by_cases h0 : (tokK (l.drop (gap l).1)).2 = 0
      · rw [if_pos h0, if_pos h0]
      · rw [if_neg h0, if_neg h0]
        have hpos := List.length_pos_iff.2 hl
        rw [List.length_drop] at hpos
        rw [lexF_eq ff f g _ _ _ (by rw [List.length_drop]; omega) (by rw [List.length_drop]; omega)]
/-- At a gap's end. -/
def lexT (ff : List UInt8 → Nat) (acc : List Tok) (k : Nat) (l : List UInt8) : Except (Nat × Nat) (List Tok) :=
  if l = [] then .ok acc
  else if (tokK l).2 = 0 then .error (k, 4)
  else if faultF ff (tokK l).1 (l.take (tokK l).2) ≠ 0 then .error (k, faultF ff (tokK l).1 (l.take (tokK l).2))
  else lex ff (acc ++ [((tokK l).1, l.take (tokK l).2, k, k + (tokK l).2)]) (k + (tokK l).2) (l.drop (tokK l).2)
theorem lex_gap (ff : List UInt8 → Nat) (acc : List Tok) (k : Nat) (l : List UInt8) : lex ff acc k l = lexT ff (endIf (gap l).2 acc) (k + (gap l).1) (l.drop (gap l).1) := by
  unfold lex lexT
  rw [lexF]
  split
  · rfl
  · rename_i hl
    have hpos := List.length_pos_iff.2 hl
    rw [List.length_drop] at hpos
    split
    · rfl
    · split
      · rfl
      · unfold lex
        rw [List.drop_drop]
        exact lexF_eq ff _ _ _ _ _ (by rw [List.length_drop]; omega) (by omega)
/-- The tokens of a text, or the place and the error. -/
def tokensL (ff : List UInt8 → Nat) (l : List UInt8) : Except (Nat × Nat) (List Tok) :=
  if 65536 < l.length then .error (65536, 3) else if good l < l.length then .error (good l, 8) else lex ff [] 0 l
end Go.Proofs.YtcbfohokigamfaaGreatDoor
