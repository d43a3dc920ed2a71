/-
  PLAIN FACTS ABOUT SPLICES OF A TEXT: which fit, what they make of it, where a byte stands then. No program; no condition but those that each theorem says.
-/
namespace Go.Proofs.Ytlgjlfljohapfaa

/-- A splice: from, to, its text. -/
structure Spl where
  f : Int
  t : Int
  s : ByteArray
/-- Do splices fit between a place and an end? -/
def fitsF (n : Int) : Int → List Spl → Bool
  | _, [] => true
  | a, x :: l => decide (a ≤ x.f) && decide (x.f ≤ x.t) && decide (x.t ≤ n) && fitsF n x.t l
def fits (n : Int) (l : List Spl) : Bool := decide (0 ≤ n) && fitsF n 0 l
/-- Is a place's byte kept? -/
def keptB (at' : Int) (l : List Spl) : Bool := l.all fun x => !(decide (x.f ≤ at') && decide (at' < x.t))
/-- By how much a splice makes a text longer. -/
def grow (x : Spl) : Int := x.s.size - (x.t - x.f)
/-- By how much the splices ahead of a place do. -/
def movD (at' : Int) : List Spl → Int
  | [] => 0
  | x :: l => (if x.t ≤ at' then grow x else 0) + movD at' l
/-- The greatest To, or nought. -/
def maxT : Int → List Spl → Int
  | a, [] => a
  | a, x :: l => maxT (max a x.t) l
def big : Int := 9223372036854775807
def far : Int := 4611686018427387904
/-- Where a place stands, and is it kept? -/
def movOk (l : List Spl) (at' : Int) : Bool := decide (0 ≤ at') && decide (at' ≤ far) && fits big l && keptB at' l
def movV (l : List Spl) (at' : Int) : Int := if movOk l at' = true then at' + movD at' l else 0
theorem fitsF_cons (n a : Int) (x : Spl) (l : List Spl) : fitsF n a (x :: l) = (decide (a ≤ x.f) && decide (x.f ≤ x.t) && decide (x.t ≤ n) && fitsF n x.t l) := rfl
theorem fitsF_yes {n a : Int} {x : Spl} {l : List Spl} (h1 : a ≤ x.f) (h2 : x.f ≤ x.t) (h3 : x.t ≤ n) : fitsF n a (x :: l) = fitsF n x.t l := by
  rw [fitsF_cons, decide_eq_true h1, decide_eq_true h2, decide_eq_true h3]; rfl
theorem fitsF_no {n a : Int} {x : Spl} {l : List Spl} (h : ¬ (a ≤ x.f ∧ x.f ≤ x.t ∧ x.t ≤ n)) : fitsF n a (x :: l) = false := by
  rw [fitsF_cons]
  by_cases h1 : a ≤ x.f
  · by_cases h2 : x.f ≤ x.t
    · have h3 : ¬ x.t ≤ n := fun h3 => h ⟨h1, h2, h3⟩
      rw [decide_eq_false h3]; simp
    · rw [decide_eq_false h2]; simp
  · rw [decide_eq_false h1]; simp
theorem drop_at {α : Type} {l : List α} {i : Nat} {x : α} (h : l[i]? = some x) : l.drop i = x :: l.drop (i + 1) := by
  obtain ⟨hi, rfl⟩ := List.getElem?_eq_some_iff.1 h
  exact List.drop_eq_getElem_cons hi
end Go.Proofs.Ytlgjlfljohapfaa
