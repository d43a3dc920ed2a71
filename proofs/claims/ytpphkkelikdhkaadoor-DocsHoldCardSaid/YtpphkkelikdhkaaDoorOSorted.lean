/-
  PLAIN FACTS ABOUT RISING URIS: the sorted keys of a map of documents are the documents' URIs in their order. No program; no condition but those that each theorem says.
-/
import Derived.Test.YtpphkkelikdhkaaDoorOPlain
import Derived.Sort.KeysCollected
namespace Go.Proofs.YtpphkkelikdhkaaDoor
open Go.RowKit Go.Maps

theorem lt8_lt : ∀ (a b : List UInt8), lt8 a b = true ↔ a < b
  | [], [] => by simp [lt8, bytesBefore]
  | [], b :: s => by simp [lt8, bytesBefore]
  | a :: r, [] => by simp [lt8, bytesBefore]
  | a :: r, b :: s => by
    have ih := lt8_lt r s
    unfold lt8 at ih ⊢
    rw [List.cons_lt_cons_iff, bytesBefore, Bool.or_eq_true, Bool.and_eq_true, decide_eq_true_eq, beq_iff_eq, ih]
theorem keys_of (l : List Dc) : strKeys (Dm l) = l.map Dc.k := by
  show (l.map ent).map (fun p => strOf p.1) = l.map Dc.k
  rw [List.map_map]
  rfl
theorem sorted_keys {l : List Dc} (hr : Rise l) {ss : List (List UInt8)} (hp : ss.Perm (strKeys (Dm l))) : ss.mergeSort (fun x y => decide (x ≤ y)) = l.map Dc.k := by
  rw [keys_of] at hp
  refine List.Perm.eq_of_pairwise (le := fun a b : List UInt8 => a ≤ b) (fun a b _ _ h1 h2 => Std.le_antisymm h1 h2) ?_ ?_ ((List.mergeSort_perm _ _).trans hp)
  · have := List.pairwise_mergeSort (le := fun x y : List UInt8 => decide (x ≤ y)) (fun a b c h1 h2 => by
      rw [decide_eq_true_eq] at h1 h2 ⊢
      exact Std.le_trans h1 h2) (fun a b => by
      rw [Bool.or_eq_true, decide_eq_true_eq, decide_eq_true_eq]
      exact Std.le_total) ss
    exact this.imp (fun h => by rwa [decide_eq_true_eq] at h)
  · rw [List.pairwise_map]
    exact hr.imp (fun {a b} h => Std.le_of_lt ((lt8_lt _ _).1 h))
theorem getD?_at {l : List Dc} (hr : Rise l) {i : Nat} {d : Dc} (h : l[i]? = some d) : getD? l d.k = some d := by
  unfold getD?
  have hi := (List.getElem?_eq_some_iff.1 h).1
  have hd := (List.getElem?_eq_some_iff.1 h).2
  rw [List.find?_eq_some_iff_getElem]
  refine ⟨by simp, i, hi, hd, fun j hj => ?_⟩
  have hlt := (List.pairwise_iff_getElem.1 hr) j i (by omega) hi hj
  rw [hd] at hlt
  simp only [Bool.not_eq_true', beq_eq_false_iff_ne, ne_eq]
  intro e
  rw [e] at hlt
  unfold lt8 at hlt
  rw [WideAt.bytes_irrefl] at hlt
  cases hlt
end Go.Proofs.YtpphkkelikdhkaaDoor
