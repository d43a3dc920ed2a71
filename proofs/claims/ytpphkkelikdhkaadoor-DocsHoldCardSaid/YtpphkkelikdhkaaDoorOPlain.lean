/-
  PLAIN FACTS ABOUT OPEN DOCUMENTS: a list of them, rising by their URIs, as the datum of a map; what is found, put and struck there. No program; no condition but those that each theorem says.
-/
import Derived.Maps.Ext
import Derived.Maps.OwnSet
import Derived.StringKeys
namespace Go.Proofs.YtpphkkelikdhkaaDoor
open Go.RowKit Go.Maps

/-- A document: its URI, its text, its version. -/
structure Dc where
  u : ByteArray
  t : ByteArray
  v : Int
deriving DecidableEq
def Dc.k (d : Dc) : List UInt8 := d.u.data.toList
def docV (d : Dc) : Value := .agg #[.string d.u, .string d.t, .int .i64 d.v]
def docD (d : Dc) : DataW Unit := .agg [.lit (.string d.k), .lit (.string d.t.data.toList), .lit (.int .i64 d.v)]
def docR (x : Value) : Option (DataW Unit × List MemPlace) := match x with
  | .agg a => match a.toList with
    | [.string u, .string t, .int .i64 n] => some (docD ⟨u, t, n⟩, [])
    | _ => none
  | _ => none
theorem docR_mk (d : Dc) : docR (docV d) = some (docD d, []) := rfl
theorem ba_ext {a b : ByteArray} (h : a.data.toList = b.data.toList) : a = b := by
  cases a; cases b; simp only at h; rw [Array.toList_inj.1 h]
theorem docD_inj {a b : Dc} (h : docD a = docD b) : a = b := by
  unfold docD at h
  obtain ⟨u, t, v⟩ := a
  obtain ⟨u', t', v'⟩ := b
  simp only [Dc.k, DataW.agg.injEq, List.cons.injEq, DataW.lit.injEq, Lit.string.injEq, Lit.int.injEq, true_and, and_true] at h
  obtain ⟨h1, h2, h3⟩ := h
  rw [ba_ext h1, ba_ext h2, h3]
theorem docR_inv {x : Value} {d : Dc} {p : List MemPlace} (h : docR x = some (docD d, p)) : x = docV d ∧ p = [] := by
  unfold docR at h
  split at h
  · split at h
    · rename_i a _ u t n ha
      simp only [Option.some.injEq, Prod.mk.injEq] at h
      obtain ⟨h1, h2⟩ := h
      have := docD_inj h1
      subst this
      refine ⟨?_, h2.symm⟩
      unfold docV
      rw [show a = a.toList.toArray by simp, ha]
    · cases h
  · cases h
def ent (d : Dc) : Lit × DataW Unit := (.string d.k, docD d)
def Dm (l : List Dc) : DataW Unit := .map (l.map ent)
def lt8 (a b : List UInt8) : Bool := bytesBefore a b
/-- Documents whose URIs rise. -/
def Rise (l : List Dc) : Prop := l.Pairwise fun a b => lt8 a.k b.k = true
def hasD (l : List Dc) (x : List UInt8) : Bool := l.any fun d => d.k == x
def getD? (l : List Dc) (x : List UInt8) : Option Dc := l.find? fun d => d.k == x
def delD (l : List Dc) (x : List UInt8) : List Dc := l.filter fun d => !(d.k == x)
def insD (d : Dc) : List Dc → List Dc
  | [] => [d]
  | e :: r => if lt8 d.k e.k then d :: e :: r else e :: insD d r
def putD (l : List Dc) (d : Dc) : List Dc := insD d (delD l d.k)
def zeroDc : Dc := ⟨⟨#[]⟩, ⟨#[]⟩, 0⟩
theorem has_Dm (l : List Dc) (x : List UInt8) : Maps.has (Dm l) (.string x) = hasD l x := by
  show (l.map ent).any (fun p => p.1.sameKey (.string x)) = l.any fun d => d.k == x
  induction l with
  | nil => rfl
  | cons d l ih => rw [List.map_cons, List.any_cons, List.any_cons, ih]; rfl
theorem at_Dm (l : List Dc) (x : List UInt8) : (Dm l).atKey (.string x) (docD zeroDc) = docD ((getD? l x).getD zeroDc) := by
  unfold Dm DataW.atKey getD?
  simp only
  induction l with
  | nil => rfl
  | cons d l ih =>
    rw [List.map_cons, List.find?_cons, List.find?_cons]
    by_cases h : (d.k == x) = true
    · have : (ent d).1.sameKey (.string x) = true := h
      rw [h, this]
      rfl
    · have h2 : (d.k == x) = false := by simpa using h
      have : (ent d).1.sameKey (.string x) = false := h2
      rw [h2, this]
      exact ih
theorem size_Dm (l : List Dc) : Maps.size (Dm l) = l.length := by simp [Maps.size, Dm]
theorem filter_ent (l : List Dc) (x : List UInt8) : (l.map ent).filter (fun p => !p.1.sameKey (.string x)) = (delD l x).map ent := by
  unfold delD
  induction l with
  | nil => rfl
  | cons d l ih =>
    rw [List.map_cons, List.filter_cons, List.filter_cons]
    by_cases h : (d.k == x) = true
    · have : (ent d).1.sameKey (.string x) = true := h
      rw [h, this]
      exact ih
    · have h2 : (d.k == x) = false := by simpa using h
      have : (ent d).1.sameKey (.string x) = false := h2
      rw [h2, this]
      simp only [Bool.not_false, if_true, List.map_cons]
      rw [ih]
theorem insert_ent (d : Dc) (l : List Dc) : DataW.insert (ent d) (l.map ent) = (insD d l).map ent := by
  induction l with
  | nil => rfl
  | cons e l ih =>
    unfold insD
    rw [List.map_cons, DataW.insert]
    by_cases h : lt8 d.k e.k = true
    · have : (ent d).1.before (ent e).1 = true := h
      rw [if_pos this, if_pos h]
      rfl
    · have : ¬ (ent d).1.before (ent e).1 = true := h
      rw [if_neg this, if_neg h, ih]
      rfl
theorem put_Dm (l : List Dc) (d : Dc) : (Dm l).put (.string d.k) (docD d) = Dm (putD l d) := by
  unfold Dm DataW.put putD
  simp only
  rw [filter_ent, show ((Lit.string d.k, docD d) : Lit × DataW Unit) = ent d from rfl, insert_ent]
theorem del_Dm (l : List Dc) (x : List UInt8) : (Dm l).del (.string x) = Dm (delD l x) := by
  unfold Dm DataW.del
  simp only
  rw [filter_ent]
theorem getD?_some {l : List Dc} {x : List UInt8} {d : Dc} (h : getD? l x = some d) : d ∈ l ∧ d.k = x := by
  unfold getD? at h
  exact ⟨List.mem_of_find?_eq_some h, by simpa using List.find?_some h⟩
theorem hasD_getD? (l : List Dc) (x : List UInt8) : hasD l x = (getD? l x).isSome := by
  unfold hasD getD?
  rw [Bool.eq_iff_iff, List.find?_isSome]
  simp
theorem insD_mem {d e : Dc} {l : List Dc} : e ∈ insD d l ↔ e = d ∨ e ∈ l := by
  induction l with
  | nil => simp [insD]
  | cons f l ih =>
    unfold insD
    split
    · simp
    · rw [List.mem_cons, ih, List.mem_cons]
      constructor
      · rintro (h | h | h)
        · exact .inr (.inl h)
        · exact .inl h
        · exact .inr (.inr h)
      · rintro (h | h | h)
        · exact .inr (.inl h)
        · exact .inl h
        · exact .inr (.inr h)
theorem putD_mem {d e : Dc} {l : List Dc} (h : e ∈ putD l d) : e = d ∨ e ∈ l := by
  rcases insD_mem.1 h with h | h
  · exact .inl h
  · exact .inr (List.mem_filter.1 h).1
theorem insD_length (d : Dc) (l : List Dc) : (insD d l).length = l.length + 1 := by
  induction l with
  | nil => rfl
  | cons e l ih => unfold insD; split <;> simp [ih]
theorem delD_length (l : List Dc) (x : List UInt8) : (delD l x).length ≤ l.length := List.length_filter_le _ _
theorem delD_none {l : List Dc} {x : List UInt8} (h : hasD l x = false) : delD l x = l := by
  unfold delD
  rw [List.filter_eq_self]
  intro d hd
  unfold hasD at h
  rw [List.any_eq_false] at h
  simpa using h d hd
theorem delD_less {l : List Dc} {x : List UInt8} (h : hasD l x = true) : (delD l x).length + 1 ≤ l.length := by
  unfold hasD at h
  unfold delD
  induction l with
  | nil => simp at h
  | cons d l ih =>
    rw [List.filter_cons]
    by_cases hd : (d.k == x) = true
    · rw [hd]
      simp only [Bool.not_true, List.length_cons]
      have := delD_length l x
      unfold delD at this
      simpa using this
    · have h2 : (d.k == x) = false := by simpa using hd
      rw [List.any_cons, h2, Bool.false_or] at h
      rw [h2]
      have := ih h
      simp only [Bool.not_false, if_true, List.length_cons]
      omega
theorem putD_length_old {l : List Dc} {d : Dc} (h : hasD l d.k = true) : (putD l d).length ≤ l.length := by
  unfold putD
  rw [insD_length]
  exact delD_less h
theorem putD_length_new {l : List Dc} {d : Dc} (h : hasD l d.k = false) : (putD l d).length = l.length + 1 := by
  unfold putD
  rw [insD_length, delD_none h]
theorem hasD_ins (d : Dc) (l : List Dc) (x : List UInt8) : hasD (insD d l) x = ((d.k == x) || hasD l x) := by
  rw [Bool.eq_iff_iff]
  unfold hasD
  rw [Bool.or_eq_true, List.any_eq_true, List.any_eq_true]
  constructor
  · rintro ⟨e, he, hx⟩
    rcases insD_mem.1 he with rfl | he
    · exact .inl hx
    · exact .inr ⟨e, he, hx⟩
  · rintro (h | ⟨e, he, hx⟩)
    · exact ⟨d, insD_mem.2 (.inl rfl), h⟩
    · exact ⟨e, insD_mem.2 (.inr he), hx⟩
theorem getD?_ins (d : Dc) (l : List Dc) (x : List UInt8) (h : hasD l d.k = false) : getD? (insD d l) x = if d.k == x then some d else getD? l x := by
  induction l with
  | nil =>
    unfold insD getD?
    rw [List.find?_cons]
    split <;> simp_all
  | cons e l ih =>
    unfold hasD at h
    rw [List.any_cons, Bool.or_eq_false_iff] at h
    have ih := ih h.2
    unfold insD
    split
    · unfold getD?
      rw [List.find?_cons]
      by_cases hx : (d.k == x) = true
      · rw [hx]; rfl
      · rw [if_neg hx, show (d.k == x) = false by simpa using hx]
    · unfold getD? at ih ⊢
      rw [List.find?_cons, List.find?_cons, ih]
      by_cases hx : (d.k == x) = true
      · have hk : d.k = x := by simpa using hx
        have : (e.k == x) = false := by rw [← hk]; exact h.1
        rw [this, hx]
      · have hx2 : (d.k == x) = false := by simpa using hx
        rw [hx2]
        rfl
theorem hasD_del (l : List Dc) (x y : List UInt8) : hasD (delD l x) y = (!(x == y) && hasD l y) := by
  rw [Bool.eq_iff_iff]
  unfold hasD delD
  rw [Bool.and_eq_true, List.any_eq_true, List.any_eq_true]
  constructor
  · rintro ⟨d, hd, hy⟩
    obtain ⟨h1, h2⟩ := List.mem_filter.1 hd
    have e : d.k = y := by simpa using hy
    refine ⟨?_, d, h1, hy⟩
    rw [e] at h2
    simp only [Bool.not_eq_true', beq_eq_false_iff_ne, ne_eq] at h2 ⊢
    exact fun e => h2 e.symm
  · rintro ⟨h, d, hd, hy⟩
    refine ⟨d, List.mem_filter.2 ⟨hd, ?_⟩, hy⟩
    have e : d.k = y := by simpa using hy
    rw [e]
    simp only [Bool.not_eq_true', beq_eq_false_iff_ne, ne_eq] at h ⊢
    exact fun e => h e.symm
theorem getD?_del (l : List Dc) (x y : List UInt8) : getD? (delD l x) y = if x == y then none else getD? l y := by
  unfold getD? delD
  induction l with
  | nil => simp
  | cons d l ih =>
    rw [List.filter_cons]
    by_cases hx : (d.k == x) = true
    · have e : d.k = x := by simpa using hx
      rw [hx, List.find?_cons]
      simp only [Bool.not_true]
      rw [show (if false = true then d :: List.filter (fun d => !d.k == x) l else List.filter (fun d => !d.k == x) l) = List.filter (fun d => !d.k == x) l from rfl, ih]
      by_cases hy : (x == y) = true
      · rw [if_pos hy, if_pos hy]
      · rw [if_neg hy, if_neg hy, e, show (x == y) = false by simpa using hy]
    · have hx2 : (d.k == x) = false := by simpa using hx
      rw [hx2]
      simp only [Bool.not_false, if_true]
      rw [List.find?_cons, List.find?_cons, ih]
      by_cases hy : (d.k == y) = true
      · rw [hy]
        have e : d.k = y := by simpa using hy
        have : (x == y) = false := by
          rw [← e, beq_eq_false_iff_ne, ne_eq]
          rintro rfl
          simp at hx2
        rw [this]
        rfl
      · rw [show (d.k == y) = false by simpa using hy]
theorem getD?_put (l : List Dc) (d : Dc) (x : List UInt8) : getD? (putD l d) x = if d.k == x then some d else getD? l x := by
  unfold putD
  rw [getD?_ins _ _ _ (by rw [hasD_del]; simp), getD?_del]
  split
  · rfl
  · rfl
end Go.Proofs.YtpphkkelikdhkaaDoor
