/-
  PLAIN FACTS ABOUT TEXTS THAT STAND FAST: lines and places reckoned with fuel (twins that the kernel reckons), and the twins' laws. No program; no condition but those that each theorem says.
-/
import Derived.Test.YtpphkkelikdhkaaDoorLrow2
import Derived.KernelRfl
namespace Go.Proofs.YtpphkkelikdhkaaDoor

def byteF : Nat → List UInt8 → Int → Nat
  | 0, _, _ => 0
  | f + 1, l, u => if l = [] then 0 else if u < un l then 0 else wd l + byteF f (l.drop (wd l)) (u - un l)
def unitsAtF : Nat → List UInt8 → Int → Nat
  | 0, _, _ => 0
  | f + 1, l, a => if l = [] then 0 else if a < wd l then 0 else un l + unitsAtF f (l.drop (wd l)) (a - wd l)
def rowsF : Nat → List UInt8 → Nat → List (Nat × Nat)
  | 0, l, k => [(k, k + l.length)]
  | f + 1, l, k => if endI l < l.length then (k, k + endI l) :: rowsF f (l.drop (nextI l)) (k + nextI l) else [(k, k + l.length)]
theorem nil_of_zero {l : List UInt8} (h : l.length ≤ 0) : l = [] := List.eq_nil_of_length_eq_zero (by omega)
theorem byteF_eq : ∀ (f : Nat) (l : List UInt8) (u : Int), l.length ≤ f → byteAt l u = byteF f l u
  | 0, l, u, h => by rw [nil_of_zero h, byteAt_nil]; rfl
  | f + 1, l, u, h => by
    by_cases hl : l = []
    · rw [hl, byteAt_nil]; rfl
    · rw [byteF, if_neg hl]
      by_cases hu : u < un l
      · rw [byteAt_lt l u hl hu, if_pos hu]
      · rw [byteAt_ge l u hl hu, if_neg hu, byteF_eq f _ _ (by have := drop_lt l hl; omega)]
theorem unitsAtF_eq : ∀ (f : Nat) (l : List UInt8) (u : Int), l.length ≤ f → unitsAt l u = unitsAtF f l u
  | 0, l, u, h => by rw [nil_of_zero h, unitsAt_nil]; rfl
  | f + 1, l, u, h => by
    by_cases hl : l = []
    · rw [hl, unitsAt_nil]; rfl
    · rw [unitsAtF, if_neg hl]
      by_cases hu : u < wd l
      · rw [unitsAt_lt l u hl hu, if_pos hu]
      · rw [unitsAt_ge l u hl hu, if_neg hu, unitsAtF_eq f _ _ (by have := drop_lt l hl; omega)]
theorem rowsF_eq : ∀ (f : Nat) (l : List UInt8) (k : Nat), l.length ≤ f → rows l k = rowsF f l k
  | 0, l, k, h => rows_last l k (by omega)
  | f + 1, l, k, h => by
    rw [rowsF]
    by_cases he : endI l < l.length
    · rw [rows_more l k he, if_pos he, rowsF_eq f _ _ (by rw [List.length_drop]; have := (nextI_gt l).1; omega)]
    · rw [rows_last l k he, if_neg he]
theorem piece_le (l : List UInt8) (r : Nat × Nat) : (piece l r).length ≤ l.length := by
  unfold piece
  rw [List.length_take, List.length_drop]
  omega
def rowNF (f : Nat) (l : List UInt8) (n : Nat) : Nat × Nat := (rowsF f l 0).getD n (0, 0)
def lineNF (f : Nat) (l : List UInt8) (p : Nat) : Nat := upto (rowsF f l 0) p - 1
def charPF (f : Nat) (l : List UInt8) (p : Nat) : Nat := unitsAtF f (piece l (rowNF f l (lineNF f l p))) ((p : Int) - (rowNF f l (lineNF f l p)).1)
def offPF (f : Nat) (l : List UInt8) (n u : Int) : Nat := if n.toNat < (rowsF f l 0).length then (rowNF f l n.toNat).1 + byteF f (piece l (rowNF f l n.toNat)) u else l.length
theorem lineNF_eq (f : Nat) (l : List UInt8) (p : Nat) (h : l.length ≤ f) : lineN l p = lineNF f l p := by unfold lineN lineNF; rw [rowsF_eq f l 0 h]
theorem rowNF_eq (f : Nat) (l : List UInt8) (p : Nat) (h : l.length ≤ f) : rowN l p = rowNF f l p := by unfold rowN rowNF; rw [rowsF_eq f l 0 h]
theorem charPF_eq (f : Nat) (l : List UInt8) (p : Nat) (h : l.length ≤ f) : charP l p = charPF f l p := by
  unfold charP charPF
  rw [lineNF_eq f l p h, rowNF_eq f l _ h, unitsAtF_eq f _ _ (Nat.le_trans (piece_le _ _) h)]
theorem offPF_eq (f : Nat) (l : List UInt8) (n u : Int) (h : l.length ≤ f) : offP l n u = offPF f l n u := by
  unfold offP offPF
  rw [rowsF_eq f l 0 h, rowNF_eq f l _ h, byteF_eq f _ _ (Nat.le_trans (piece_le _ _) h)]
/-- The chapter's text of three ends, and the one with a point of four bytes. -/
def threeB : ByteArray := ⟨#[97, 98, 13, 10, 99, 10, 13]⟩
def fourB : ByteArray := ⟨#[97, 240, 159, 152, 128, 98]⟩
theorem rows_three : rows threeB.data.toList 0 = [(0, 2), (4, 5), (6, 6), (7, 7)] := by rw [rowsF_eq 7 _ _ (by decide)]; kernel_rfl
theorem rows_none : rows (⟨#[]⟩ : ByteArray).data.toList 0 = [(0, 0)] := by rw [rowsF_eq 0 _ _ (by decide)]; kernel_rfl
theorem off_three (n u : Int) (k : Nat) (h : offPF 7 threeB.data.toList n u = k) : offP threeB.data.toList n u = k := by rw [offPF_eq 7 _ _ _ (by decide)]; exact h
theorem off_four (n u : Int) (k : Nat) (h : offPF 6 fourB.data.toList n u = k) : offP fourB.data.toList n u = k := by rw [offPF_eq 6 _ _ _ (by decide)]; exact h
theorem at_three (p : Int) (n c : Nat) (h : lineNF 7 threeB.data.toList (clip threeB.data.toList p) = n) (k : charPF 7 threeB.data.toList (clip threeB.data.toList p) = c) : lineN threeB.data.toList (clip threeB.data.toList p) = n ∧ charP threeB.data.toList (clip threeB.data.toList p) = c := by rw [lineNF_eq 7 _ _ (by decide), charPF_eq 7 _ _ (by decide)]; exact ⟨h, k⟩
theorem at_four (p : Int) (n c : Nat) (h : lineNF 6 fourB.data.toList (clip fourB.data.toList p) = n) (k : charPF 6 fourB.data.toList (clip fourB.data.toList p) = c) : lineN fourB.data.toList (clip fourB.data.toList p) = n ∧ charP fourB.data.toList (clip fourB.data.toList p) = c := by rw [lineNF_eq 6 _ _ (by decide), charPF_eq 6 _ _ (by decide)]; exact ⟨h, k⟩
example : offP threeB.data.toList 1 5 = 5 := off_three 1 5 5 (by kernel_rfl)
example : lineN threeB.data.toList (clip threeB.data.toList 3) = 0 ∧ charP threeB.data.toList (clip threeB.data.toList 3) = 2 := at_three 3 0 2 (by kernel_rfl) (by kernel_rfl)
example : offP fourB.data.toList 0 3 = 5 := off_four 0 3 5 (by kernel_rfl)
end Go.Proofs.YtpphkkelikdhkaaDoor
