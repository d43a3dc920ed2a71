/-
  PLAIN FACTS ABOUT WHERE A BYTE STANDS behind splices. No program; no condition but those that each theorem says.
-/
import Derived.Test.YtlgjlfljohapfaaEPlain
namespace Go.Proofs.Ytlgjlfljohapfaa

/-- What the numbers of a splice that is read may be, and how long its text. -/
def okS (x : Spl) : Prop := -9223372036854775808 ≤ x.f ∧ x.f ≤ 9223372036854775807 ∧ -9223372036854775808 ≤ x.t ∧ x.t ≤ 9223372036854775807 ∧ x.s.size ≤ 300
theorem fitsF_max (m n : Int) : ∀ (l : List Spl) (a : Int), (∀ x ∈ l, x.t ≤ m) → (∀ x ∈ l, x.t ≤ n) → fitsF m a l = fitsF n a l
  | [], _, _, _ => rfl
  | x :: l, a, hm, hn => by
    rw [fitsF_cons, fitsF_cons, fitsF_max m n l x.t (fun y hy => hm y (List.mem_cons_of_mem _ hy)) (fun y hy => hn y (List.mem_cons_of_mem _ hy)),
      decide_eq_true (hm x List.mem_cons_self), decide_eq_true (hn x List.mem_cons_self)]
theorem maxT_ge : ∀ (l : List Spl) (a : Int), a ≤ maxT a l
  | [], _ => Int.le_refl _
  | x :: l, a => Int.le_trans (Int.le_max_left a x.t) (maxT_ge l _)
theorem maxT_all : ∀ (l : List Spl) (a : Int), ∀ x ∈ l, x.t ≤ maxT a l
  | [], _, _, h => by cases h
  | y :: l, a, x, h => by
    rcases List.mem_cons.1 h with rfl | h
    · exact Int.le_trans (Int.le_max_right a x.t) (maxT_ge l _)
    · exact maxT_all l _ x h
theorem maxT_le (m : Int) : ∀ (l : List Spl) (a : Int), a ≤ m → (∀ x ∈ l, x.t ≤ m) → maxT a l ≤ m
  | [], _, h, _ => h
  | x :: l, _, h, hl => maxT_le m l _ (Int.max_le.2 ⟨h, hl x List.mem_cons_self⟩) (fun y hy => hl y (List.mem_cons_of_mem _ hy))
theorem fits_max (l : List Spl) (h : ∀ x ∈ l, okS x) : fits (maxT 0 l) l = fits big l := by
  unfold fits
  rw [decide_eq_true (maxT_ge l 0), decide_eq_true (by decide), fitsF_max _ big l 0 (maxT_all l 0) (fun x hx => (h x hx).2.2.2.1)]
/-- What is left of fitting splices, at the next one. -/
theorem fitsF_step {n a : Int} {x : Spl} {l : List Spl} (h : fitsF n a (x :: l) = true) : a ≤ x.f ∧ x.f ≤ x.t ∧ x.t ≤ n ∧ fitsF n x.t l = true := by
  by_cases hc : a ≤ x.f ∧ x.f ≤ x.t ∧ x.t ≤ n
  · exact ⟨hc.1, hc.2.1, hc.2.2, by rw [← fitsF_yes hc.1 hc.2.1 hc.2.2]; exact h⟩
  · rw [fitsF_no hc] at h; cases h
end Go.Proofs.Ytlgjlfljohapfaa
