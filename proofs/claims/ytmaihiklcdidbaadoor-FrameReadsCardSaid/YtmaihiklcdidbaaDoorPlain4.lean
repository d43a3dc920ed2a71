/-
  PLAIN FACTS: the document's own way to read a head (names by letters, lines counted) says what Plain's way says. No program; no condition but those that each theorem says.
-/
import Derived.Test.YtmaihiklcdidbaaDoorPlain3
namespace Go.Proofs.YtmaihiklcdidbaaDoor
open Go.Lib

/-- A letter of A to Z made small. -/
def low (c : UInt8) : UInt8 := if 65 ≤ c.toNat ∧ c.toNat ≤ 90 then c - 65 + 97 else c
/-- A byte that a name may have. -/
def nameB (c : UInt8) : Bool := decide (97 ≤ c.toNat ∧ c.toNat ≤ 122) || decide (c.toNat = 45)
theorem fold_low (x c : UInt8) (h : nameB c = true) : foldEq x c = decide (low x = c) := by
  have key : ∀ c : Fin 256, nameB (UInt8.ofNat c.val) = true → ∀ x : Fin 256, foldEq (UInt8.ofNat x.val) (UInt8.ofNat c.val) = decide (low (UInt8.ofNat x.val) = UInt8.ofNat c.val) := by decide +kernel
  have := key ⟨c.toNat, c.toNat_lt⟩ (by rwa [show UInt8.ofNat c.toNat = c from UInt8.ofNat_toNat]) ⟨x.toNat, x.toNat_lt⟩
  rwa [show UInt8.ofNat c.toNat = c from UInt8.ofNat_toNat, show UInt8.ofNat x.toNat = x from UInt8.ofNat_toNat] at this
theorem fold_map : ∀ (s t : List UInt8), t.all nameB = true → (equalFold s t = true ↔ s.map low = t)
  | [], [], _ => by simp [equalFold]
  | [], _ :: _, _ => by simp [equalFold]
  | _ :: _, [], _ => by simp [equalFold]
  | x :: s, c :: t, h => by
    rw [List.all_cons, Bool.and_eq_true] at h
    rw [equalFold, Bool.and_eq_true, fold_low x c h.1, fold_map s t h.2, List.map_cons, List.cons.injEq, decide_eq_true_iff]
/-- Does a line have this name? Then: its value. -/
def lineN (s name : List UInt8) : Option (List UInt8) :=
  if s[name.length]? = some 58 ∧ (s.take name.length).map low = name then some (s.drop (name.length + 1)) else none
theorem low_colon : low 58 = 58 := by decide
theorem lineN_some {s name v : List UInt8} (hn : name.all nameB = true) : lineN s name = some v ↔ (cut s [58]).2.2 = true ∧ equalFold (cut s [58]).1 name = true ∧ v = (cut s [58]).2.1 := by
  constructor
  · intro h
    unfold lineN at h
    split at h
    · rename_i hc
      injection h with h
      have hlt := (List.getElem?_eq_some_iff.1 hc.1).1
      have hx : ∀ x ∈ s.take name.length, x ≠ 58 := by
        rintro x hx rfl
        have : low 58 ∈ (s.take name.length).map low := List.mem_map_of_mem hx
        rw [hc.2, low_colon] at this
        have := List.all_eq_true.1 hn _ this
        revert this; decide
      have hs : s = s.take name.length ++ (58 :: []) ++ s.drop (name.length + 1) := by
        conv => lhs; rw [← List.take_append_drop name.length s]
        rw [List.drop_eq_getElem_cons hlt, (List.getElem?_eq_some_iff.1 hc.1).2]
        simp
      have hi : index s [58] = name.length := by
        have := index_clean (r := s.drop (name.length + 1)) (t := []) hx
        rw [← hs, List.length_take, Nat.min_eq_left (by omega)] at this
        exact this
      unfold cut
      rw [hi, if_pos (by omega)]
      simp only [Int.toNat_natCast, List.length_cons, List.length_nil]
      exact ⟨trivial, (fold_map _ _ hn).2 hc.2, h.symm⟩
    · cases h
  · rintro ⟨h1, h2, h3⟩
    unfold cut at h1 h2 h3
    split at h1
    · rename_i hi
      rw [if_pos hi] at h2 h3
      have hr := index_len hi
      simp only [List.length_cons, List.length_nil] at h2 h3 hr
      have hl := fold_len _ _ h2
      rw [List.length_take, Nat.min_eq_left (by omega)] at hl
      rw [hl] at h2 h3
      have hoc : s[name.length]? = some 58 := by
        rcases index_spec s [58] with ⟨h0, _⟩ | ⟨i, e1, _, e3, _⟩
        · omega
        · have := occAt_head rfl e3
          rw [e1] at hl
          rw [← hl]
          exact this
      unfold lineN
      rw [if_pos ⟨hoc, (fold_map _ _ hn).1 h2⟩, h3]
    · cases h1
theorem lineP_named (s : List UInt8) : lineP s = match lineN s lenN with
    | some v => .len v
    | none => match lineN s typN with
      | some v => .typ v
      | none => .bad := by
  have hl : lenN.all nameB = true := by decide
  have ht : typN.all nameB = true := by decide
  cases h : lineN s lenN with
  | some v =>
    obtain ⟨h1, h2, h3⟩ := (lineN_some hl).1 h
    unfold lineP
    simp only
    rw [if_pos h1, if_pos h2, h3]
  | none =>
    have hn : ¬ ((cut s [58]).2.2 = true ∧ equalFold (cut s [58]).1 lenN = true) := by
      rintro ⟨h1, h2⟩
      have := (lineN_some (v := (cut s [58]).2.1) hl).2 ⟨h1, h2, rfl⟩
      rw [h] at this; cases this
    cases h' : lineN s typN with
    | some v =>
      obtain ⟨h1, h2, h3⟩ := (lineN_some ht).1 h'
      unfold lineP
      simp only
      rw [if_pos h1, if_neg (fun hx => hn ⟨h1, hx⟩), if_pos h2, h3]
    | none =>
      have hn' : ¬ ((cut s [58]).2.2 = true ∧ equalFold (cut s [58]).1 typN = true) := by
        rintro ⟨h1, h2⟩
        have := (lineN_some (v := (cut s [58]).2.1) ht).2 ⟨h1, h2, rfl⟩
        rw [h'] at this; cases this
      unfold lineP
      simp only
      by_cases h1 : (cut s [58]).2.2 = true
      · rw [if_pos h1, if_neg (fun hx => hn ⟨h1, hx⟩), if_neg (fun hx => hn' ⟨h1, hx⟩)]
      · rw [if_neg h1]
def intO : Option Nat → Int | some n => n | none => -1
/-- The document's count of lines: n: the length so far, L lengths, T types. -/
def lenQ : List (List UInt8) → Int → Nat → Nat → Int
  | [], n, L, T => if L ≠ 1 ∨ 1 < T then -1 else n
  | s :: r, n, L, T => match lineN s lenN with
    | some v => match numP v with
      | none => -1
      | some m => lenQ r m (L + 1) T
    | none => match lineN s typN with
      | some v => if v.all isPr = true then lenQ r n L (T + 1) else -1
      | none => -1
theorem lenQ_over : ∀ (r : List (List UInt8)) (n : Int) (L T : Nat), 2 ≤ L ∨ 2 ≤ T → lenQ r n L T = -1
  | [], n, L, T, h => by unfold lenQ; rw [if_pos (by omega)]
  | s :: r, n, L, T, h => by
    unfold lenQ
    split
    · split
      · rfl
      · exact lenQ_over r _ _ _ (by omega)
    · split
      · split
        · exact lenQ_over r _ _ _ (by omega)
        · rfl
      · rfl
theorem lenQ_tell : ∀ (r : List (List UInt8)) (kl kt : Bool) (o : Option Nat), (kl = true ↔ o = none) → lenQ r (intO o) (if kl then 0 else 1) (if kt then 0 else 1) = intO (tellP r kl kt o).join
  | [], kl, kt, o, h => by
    unfold lenQ tellP
    cases o with
    | none => obtain rfl := h.2 rfl; rfl
    | some m =>
      have hk : kl = false := by
        cases kl with
        | false => rfl
        | true => cases h.1 rfl
      subst hk
      cases kt <;> rfl
  | s :: r, kl, kt, o, h => by
    unfold lenQ
    rw [tellP, lineP_named]
    cases hl : lineN s lenN with
    | some v =>
      simp only
      cases hn : numP v with
      | none => cases kl <;> rfl
      | some m =>
        simp only
        cases kl with
        | false =>
          simp only [Bool.false_eq_true, if_false]
          rw [lenQ_over _ _ _ _ (.inl (by omega))]
          rfl
        | true =>
          have := lenQ_tell r false kt (some m) (by simp)
          exact this
    | none =>
      simp only
      cases ht : lineN s typN with
      | none => rfl
      | some v =>
        simp only
        by_cases hp : v.all isPr = true
        · rw [if_pos hp]
          cases kt with
          | false =>
            simp only [Bool.false_eq_true, if_false, false_and]
            rw [lenQ_over _ _ _ _ (.inr (by omega))]
            rfl
          | true =>
            have := lenQ_tell r kl false o h
            simp only [hp, and_self, if_true]
            exact this
        · simp only [hp, and_false, if_false, Bool.false_eq_true]
          rfl
theorem lenQ_head (l : List UInt8) : lenQ (splitP l) (-1) 0 0 = intO (headP l) :=
  lenQ_tell (splitP l) true true none (by simp)
end Go.Proofs.YtmaihiklcdidbaaDoor
