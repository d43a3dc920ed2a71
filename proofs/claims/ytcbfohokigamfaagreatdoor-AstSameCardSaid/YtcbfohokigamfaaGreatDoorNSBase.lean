/-
  What is asked of the walk of each of ast's shape functions (CL), and how it serves as a function value (sf); the trees that so much fuel serves.
-/
import Derived.Test.YtcbfohokigamfaaGreatDoorNRop
namespace Go.Proofs.YtcbfohokigamfaaGreatDoor
open Go.RowKit

mutual
/-- All names of a tree. -/
def allN (O : ByteArray → Prop) : Nd → Prop
  | .mk _ _ _ _ s l => O s ∧ allL O l
def allL (O : ByteArray → Prop) : List Nd → Prop
  | [] => True
  | n :: l => allN O n ∧ allL O l
end
theorem allN_eq {O : ByteArray → Prop} {n : Nd} (h : allN O n) : O n.name ∧ allL O n.kids := by
  cases n
  rw [allN] at h
  exact h
theorem allL_mem {O : ByteArray → Prop} : ∀ {l : List Nd}, allL O l → ∀ t ∈ l, allN O t
  | [], _, t, ht => by cases ht
  | n :: l, h, t, ht => by
    rw [allL] at h
    rcases List.mem_cons.1 ht with rfl | ht
    · exact h.1
    · exact allL_mem h.2 t ht
/-- The trees that so much fuel serves. -/
def DD (O : ByteArray → Prop) (f : Nat) (T : Nd) : Prop := 8 * sz T + 6 ≤ f ∧ sz T ≤ 100000 ∧ allN O T
/-- What is asked of a tree, so much fuel and a word's rank. -/
structure Fit (O : ByteArray → Prop) (f r : Nat) (n : Nd) : Prop where
  fuel : 8 * sz n + r ≤ f
  size : sz n ≤ 100000
  names : allN O n
theorem Fit.kid {O : ByteArray → Prop} {f r : Nat} {n : Nd} (h : Fit O (f + 1) r n) : ∀ t ∈ n.kids, DD O f t := by
  intro t ht
  obtain ⟨i, hi, rfl⟩ := List.getElem_of_mem ht
  have := sz_kid (n := n) (List.getElem?_eq_getElem hi)
  have h1 := h.fuel
  have h2 := h.size
  exact ⟨by omega, by omega, allL_mem (allN_eq h.names).2 _ ht⟩
theorem Fit.lim {O : ByteArray → Prop} {f r : Nat} {n : Nd} (h : Fit O f r n) : n.name.size ≤ 1000000 ∧ n.kids.length ≤ 1000000 ∧ O n.name := by
  have h1 := sz_eq n
  have h2 := szL_len n.kids
  have h3 := h.size
  exact ⟨by omega, by omega, (allN_eq h.names).1⟩
theorem Fit.same {O : ByteArray → Prop} {f r r' : Nat} {n : Nd} (h : Fit O (f + 1) r n) (hr : r' < r) : Fit O f r' n := by
  have := h.fuel
  exact ⟨by omega, h.size, h.names⟩
theorem DD.fit {O : ByteArray → Prop} {f r : Nat} {n : Nd} (h : DD O f n) (hr : r ≤ 6) : Fit O f r n := ⟨by have := h.1; omega, h.2.1, h.2.2⟩
/-- A function tells of trees what a word does. -/
def CL (FAC : World → Prop) (tk : Int → ByteArray → Bool) (O : ByteArray → Prop) (f : Nat) (g : FuncId) (c : Sc) : Prop := ∀ (n : Nd) (nv : Value) (w : World), FAC w → Fit O f c.rank n → NIn w TT n nv →
  Calls Tryz.prog g #[nv] w fun e w' => e = .returned (.bool (shp tk f c n)) ∧ Below w.heap.size w w'
theorem rank_le (c : Sc) : c.rank ≤ 6 := by cases c <;> simp [Sc.rank]
theorem CL.sf_of {FAC : World → Prop} {tk : Int → ByteArray → Bool} {O : ByteArray → Prop} {f : Nat} {g : FuncId} {c : Sc} (keepF : ∀ w w', FAC w → Below w.heap.size w w' → FAC w') (he : Enters Tryz.prog g) (h : CL FAC tk O f g c) (W : World) (hW : FAC W) :
    FnV (DD O f) W (.func (.func g) #[] #[]) (shp tk f c) :=
  ⟨g, #[], rfl, he, fun w hw T u hD hn => h T u w (keepF _ _ hW hw) (hD.fit (rank_le c)) hn⟩
/-- The same, with what makes it a function value. -/
structure SL (FAC : World → Prop) (tk : Int → ByteArray → Bool) (O : ByteArray → Prop) (f : Nat) (g : FuncId) (c : Sc) : Prop where
  cl : CL FAC tk O f g c
  sf : ∀ W, FAC W → FnV (DD O f) W (.func (.func g) #[] #[]) (shp tk f c)
theorem SL.of {FAC : World → Prop} {tk : Int → ByteArray → Bool} {O : ByteArray → Prop} {f : Nat} {g : FuncId} {c : Sc} (keepF : ∀ w w', FAC w → Below w.heap.size w w' → FAC w') (he : Enters Tryz.prog g) (h : CL FAC tk O f g c) : SL FAC tk O f g c :=
  ⟨h, fun W hW => h.sf_of keepF he W hW⟩
/-- A maker of function values tells of trees so. -/
def Six (W : World) (N : Nat) (n : Nd) (ia : Option Addr) (ic : Nat) : Prop :=
  W.cell? ⟨N, 0, none⟩ = some (.int .i64 n.kind) ∧ W.cell? ⟨N, 1, none⟩ = some (.int .i64 n.fro) ∧ W.cell? ⟨N, 2, none⟩ = some (.int .i64 n.till) ∧ W.cell? ⟨N, 3, none⟩ = some (.int .i64 n.at') ∧ W.cell? ⟨N, 4, none⟩ = some (.string n.name) ∧ W.cell? ⟨N, 5, none⟩ = some (.slice ia n.kids.length ic)
theorem six_keep {W W' : World} {N : Nat} {a b c d e g : Value} (h : W.cell? ⟨N, 0, none⟩ = some a ∧ W.cell? ⟨N, 1, none⟩ = some b ∧ W.cell? ⟨N, 2, none⟩ = some c ∧ W.cell? ⟨N, 3, none⟩ = some d ∧ W.cell? ⟨N, 4, none⟩ = some e ∧ W.cell? ⟨N, 5, none⟩ = some g) (k : Below W.heap.size W W') :
    W'.cell? ⟨N, 0, none⟩ = some a ∧ W'.cell? ⟨N, 1, none⟩ = some b ∧ W'.cell? ⟨N, 2, none⟩ = some c ∧ W'.cell? ⟨N, 3, none⟩ = some d ∧ W'.cell? ⟨N, 4, none⟩ = some e ∧ W'.cell? ⟨N, 5, none⟩ = some g :=
  ⟨cell_kept h.1 rfl k, cell_kept h.2.1 rfl k, cell_kept h.2.2.1 rfl k, cell_kept h.2.2.2.1 rfl k, cell_kept h.2.2.2.2.1 rfl k, cell_kept h.2.2.2.2.2 rfl k⟩
section
variable {P : Program} {ops : Array Oper} {Q : Exit → Act → World → Prop}
/-- An operation that is not wanted. -/
theorem rop_skip {i d : Nat} {o : Oper} {a : Act} {w : World} {φ : World → Value → Prop} (ho : ops[i]? = some o) (hd : o.dst = some d) (hw : Region.wanted o (yielded ops a.tmps) = false) (hφ : φ w undef) :
    wpOp P ops Q i (fun a' w'' => ∃ v, a' = a.put (some d) v ∧ φ w'' v ∧ Below w.heap.size w w'') a w := by
  unfold wpOp
  rw [ho]
  simp only [hw, Bool.false_eq_true, if_false]
  rw [hd]
  exact ⟨undef, rfl, hφ, Below.refl _ _⟩
theorem unwanted_of {o : Oper} {j d : Nat} {b b' : Bool} {T : Array Value} (hg : o.guard = some (j, b)) (hd : (ops[j]?).bind (·.dst) = some d) (h : T.getD d undef = .bool b') (hne : b' ≠ b) : Region.wanted o (yielded ops T) = false := by
  unfold Region.wanted yielded
  rw [hg]
  simp only [hd, Option.bind_some, getD_some h]
  cases b <;> cases b' <;> simp_all
theorem unwanted_undef {o : Oper} {j d : Nat} {b : Bool} {T : Array Value} (hg : o.guard = some (j, b)) (hd : (ops[j]?).bind (·.dst) = some d) (h : T.getD d undef = undef) : Region.wanted o (yielded ops T) = false := by
  unfold Region.wanted yielded
  rw [hg]
  simp only [hd, Option.bind_some]
  rw [Array.getD_eq_getD_getElem?] at h
  cases hx : T[d]? with
  | none => simp
  | some v =>
    rw [hx] at h
    obtain rfl : v = undef := h
    rfl
end
end Go.Proofs.YtcbfohokigamfaaGreatDoor
