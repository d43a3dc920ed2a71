/-
  emendlaw10's small makers of trees: what they hand back, in new memory. (Written by a program.)
  emendlaw10's branch, body, may, no: what they hand back.
  emendlaw10's may, no: whether the grammar makes a body of one statement; the small trees of works. Conditions: what isToken tells (Htok); names that may be asked (O).
-/
import Derived.Test.YtkpddjbdmjbefaaGreatDoorNSame
namespace Go.Proofs.YtkpddjbdmjbefaaGreatDoor
open Go.RowKit

def nt (k : Int) (s : ByteArray) (l : List Nd) : Nd := .mk k 0 0 0 s l
def tName (s : ByteArray) : Nd := nt 25 s []
def tTwo (s : ByteArray) (a b : Nd) : Nd := nt 31 s [a, b]
def tBack (e : Nd) : Nd := nt 19 ⟨#[]⟩ [e]
def tLit : Nd := nt 28 ⟨#[]⟩ [nt 8 ⟨#[84]⟩ []]
def tSel (x : Nd) (s : ByteArray) : Nd := nt 26 s [x]
def tParen (x : Nd) : Nd := nt 33 ⟨#[]⟩ [x]
def tBlock (l : List Nd) : Nd := nt 10 ⟨#[]⟩ l
def tNone : Nd := nt 0 ⟨#[]⟩ []
def tBranch (e : Nd) : Nd := nt 14 ⟨#[]⟩ [e, tBlock [], tNone]
def tBody (l : List Nd) : Nd := nt 1 ⟨#[112]⟩ [nt 5 ⟨#[102]⟩ [tNone, nt 6 ⟨#[]⟩ [], tNone, tBlock l]]
def TreeEnd (T : Nd) (w : World) (e : Ending) (w' : World) : Prop := ∃ r, e = .returned r ∧ NIn w' TT T r ∧ Below w.heap.size w w'
theorem nin_leaf (W : World) (k : Int) (s : ByteArray) : NIn W TT (nt k s []) (.agg #[.int .i64 k, .int .i64 0, .int .i64 0, .int .i64 0, .string s, .slice none 0 0]) := by
  unfold nt
  rw [NIn]
  exact ⟨none, 0, rfl, Nat.le_refl _, fun h => by cases h⟩
theorem nin_kids {W : World} (k : Int) (s : ByteArray) {l : List Nd} {b o c : Nat} (hc : l.length ≤ c) (h : NLn W TT b o l) : NIn W TT (nt k s l) (.agg #[.int .i64 k, .int .i64 0, .int .i64 0, .int .i64 0, .string s, .slice (some ⟨b, o, none⟩) l.length c]) := by
  unfold nt
  rw [NIn]
  exact ⟨some ⟨b, o, none⟩, c, rfl, hc, fun _ => ⟨b, o, rfl, trivial, h⟩⟩
theorem nln_nil {W : World} {b o : Nat} : NLn W TT b o [] := by rw [NLn]; trivial
theorem nln_cons {W : World} {b o : Nat} {n : Nd} {l : List Nd} {v0 v1 v2 v3 v4 v5 : Value} (h0 : W.cell? ⟨b, o, none⟩ = some v0) (h1 : W.cell? ⟨b, o + 1, none⟩ = some v1) (h2 : W.cell? ⟨b, o + 2, none⟩ = some v2) (h3 : W.cell? ⟨b, o + 3, none⟩ = some v3) (h4 : W.cell? ⟨b, o + 4, none⟩ = some v4) (h5 : W.cell? ⟨b, o + 5, none⟩ = some v5)
    (hn : NIn W TT n (.agg #[v0, v1, v2, v3, v4, v5])) (hl : NLn W TT b (o + 6) l) : NLn W TT b o (n :: l) := by
  rw [NLn]
  exact ⟨⟨v0, v1, v2, v3, v4, v5, h0, h1, h2, h3, h4, h5, hn⟩, hl⟩
theorem cellA {W : World} {g : Nat} {cs : Array Value} {t : TypeId} (h : W.heap[g]? = some (.cells cs t (0, 0))) {i : Nat} {v : Value} (hv : cs[i]? = some v) : W.cell? ⟨g, i, none⟩ = some v := by
  unfold World.cell?
  simp only [h]
  exact hv
theorem results_cell_oneA {fn : Func} {p : Tmp} {ty : TypeId} (h : fn.results = #[.cell p ty]) (tmps : Array Value) (P : Program) (w : World) :
    (results fn tmps).run P w = ((asAddr (tmps.getD p undef)).run P w).andThen fun a w₁ => (loadVar ty a).run P w₁ := by
  simp only [results, h]
  simp [Sem.run_bind, Result.andThen]
theorem load_nd {wq : World} {N : Nat} {a b c d e f : Value} {T : TypeId} (hg : wq.heap[N]? = some (.cells #[a, b, c, d, e, f] T (0, 0))) : (loadVar 24 ⟨N, 0, none⟩).run Tryz.prog wq = .ok (.agg #[a, b, c, d, e, f]) wq :=
  run_loadVar_row (P := Tryz.prog) wq N T 24 #[a, b, c, d, e, f] (0, 0) _ hg Tryz.underlying24 rfl (by kernel_rfl)
theorem ret_cell1A {fn : Func} {p : Tmp} {ty : TypeId} (hr : fn.results = #[.cell p ty]) {N : Nat} {wq : World} {Q : Ending → World → Prop} (tmps : Array Value) (hp : tmps.getD p undef = .pointer (some ⟨N, 0, none⟩)) (v : Value)
    (hl : (loadVar ty ⟨N, 0, none⟩).run Tryz.prog wq = .ok v wq) (hq : Q (.returned v) wq) : bodyPost Tryz.prog fn Q Exit.ret ⟨tmps, []⟩ wq := by
  refine bodyPost_ret (v := v) ?_ rfl hq
  rw [results_cell_oneA hr, hp]
  simp [asAddr, Result.andThen, hl]
/-- A block more. -/
theorem one_more {w0 w : World} {B : Nat} (hb : Below B w0 w) (hB : B ≤ w.heap.size) (cs : Array Value) (t : TypeId) : Below B w0 (w.alloc (.cells cs t)) ∧ (w.alloc (.cells cs t)).heap[w.heap.size]? = some (.cells cs t (0, 0)) ∧ (w.alloc (.cells cs t)).heap.size = w.heap.size + 1 ∧ Below w.heap.size w (w.alloc (.cells cs t)) :=
  ⟨hb.trans ((alloc_below w _).mono hB), alloc_top w cs t, World.size_alloc .., alloc_below w _⟩

set_option maxRecDepth 100000 in
theorem name_tree (s : ByteArray) (w : World) : Calls Tryz.prog 11 #[.string s] w (TreeEnd (tName s) w) := by
  go_enter Tryz.func11, Tryz.ntmps11
  go_wp2_with fail
  have B0 : Below w.heap.size w w := Below.refl _ _
  obtain ⟨B1, T1, Z1, K1⟩ := one_more B0 B0.size #[.int .i64 25, .int .i64 0, .int .i64 0, .int .i64 0, .string s, .slice none 0 0] 24
  generalize hw1 : w.alloc (.cells #[.int .i64 25, .int .i64 0, .int .i64 0, .int .i64 0, .string s, .slice none 0 0] 24) = w1 at *
  refine ret_cell1A (p := 2) rfl _ rfl _ (load_nd T1) ⟨_, rfl, ?_, B1⟩
  exact nin_leaf _ 25 s
set_option maxRecDepth 100000 in
theorem two_tree (s : ByteArray) (a b : Nd) (u v : Value) (w : World) (hu : NIn w TT a u) (hv : NIn w TT b v) : Calls Tryz.prog 14 #[.string s, u, v] w (TreeEnd (tTwo s a b) w) := by
  obtain ⟨ia, ic, rfl, hcc, hk⟩ := hu.open
  obtain ⟨ja, jc, rfl, hcj, hj⟩ := hv.open
  go_enter Tryz.func14, Tryz.ntmps14
  go_wp2_with fail
  have B0 : Below w.heap.size w w := Below.refl _ _
  obtain ⟨B1, T1, Z1, K1⟩ := one_more B0 B0.size #[.int .i64 a.kind, .int .i64 a.fro, .int .i64 a.till, .int .i64 a.at', .string a.name, .slice ia a.kids.length ic] 24
  generalize hw1 : w.alloc (.cells #[.int .i64 a.kind, .int .i64 a.fro, .int .i64 a.till, .int .i64 a.at', .string a.name, .slice ia a.kids.length ic] 24) = w1 at *
  obtain ⟨B2, T2, Z2, K2⟩ := one_more B1 B1.size #[.int .i64 b.kind, .int .i64 b.fro, .int .i64 b.till, .int .i64 b.at', .string b.name, .slice ja b.kids.length jc] 24
  generalize hw2 : w1.alloc (.cells #[.int .i64 b.kind, .int .i64 b.fro, .int .i64 b.till, .int .i64 b.at', .string b.name, .slice ja b.kids.length jc] 24) = w2 at *
  rw [Z1] at T2 Z2
  replace T1 := (K2.block _ (Array.getElem?_eq_some_iff.1 T1).1).trans T1
  obtain ⟨B3, T3, Z3, K3⟩ := one_more B2 B2.size #[.int .i64 31, .int .i64 0, .int .i64 0, .int .i64 0, .string s, .slice (some ⟨w.heap.size + 1 + 1 + 1, 0, none⟩) 2 2] 24
  generalize hw3 : w2.alloc (.cells #[.int .i64 31, .int .i64 0, .int .i64 0, .int .i64 0, .string s, .slice (some ⟨w.heap.size + 1 + 1 + 1, 0, none⟩) 2 2] 24) = w3 at *
  rw [Z2] at T3 Z3
  replace T1 := (K3.block _ (Array.getElem?_eq_some_iff.1 T1).1).trans T1
  replace T2 := (K3.block _ (Array.getElem?_eq_some_iff.1 T2).1).trans T2
  obtain ⟨B4, T4, Z4, K4⟩ := one_more B3 B3.size #[.int .i64 a.kind, .int .i64 a.fro, .int .i64 a.till, .int .i64 a.at', .string a.name, .slice ia a.kids.length ic, .int .i64 b.kind, .int .i64 b.fro, .int .i64 b.till, .int .i64 b.at', .string b.name, .slice ja b.kids.length jc] 24
  generalize hw4 : w3.alloc (.cells #[.int .i64 a.kind, .int .i64 a.fro, .int .i64 a.till, .int .i64 a.at', .string a.name, .slice ia a.kids.length ic, .int .i64 b.kind, .int .i64 b.fro, .int .i64 b.till, .int .i64 b.at', .string b.name, .slice ja b.kids.length jc] 24) = w4 at *
  rw [Z3] at T4 Z4
  replace T1 := (K4.block _ (Array.getElem?_eq_some_iff.1 T1).1).trans T1
  replace T2 := (K4.block _ (Array.getElem?_eq_some_iff.1 T2).1).trans T2
  replace T3 := (K4.block _ (Array.getElem?_eq_some_iff.1 T3).1).trans T3
  refine ret_cell1A (p := 6) rfl _ rfl _ (load_nd T3) ⟨_, rfl, ?_, B4⟩
  exact nin_kids (l := [a, b]) 31 s (Nat.le_refl _) (nln_cons (cellA T4 (i := 0) rfl) (cellA T4 (i := 1) rfl) (cellA T4 (i := 2) rfl) (cellA T4 (i := 3) rfl) (cellA T4 (i := 4) rfl) (cellA T4 (i := 5) rfl) ((NIn.shut hcc hk).below B4) (nln_cons (cellA T4 (i := 6) rfl) (cellA T4 (i := 7) rfl) (cellA T4 (i := 8) rfl) (cellA T4 (i := 9) rfl) (cellA T4 (i := 10) rfl) (cellA T4 (i := 11) rfl) ((NIn.shut hcj hj).below B4) nln_nil))
set_option maxRecDepth 100000 in
theorem back_tree (a : Nd) (u : Value) (w : World) (hu : NIn w TT a u) : Calls Tryz.prog 13 #[u] w (TreeEnd (tBack a) w) := by
  obtain ⟨ia, ic, rfl, hcc, hk⟩ := hu.open
  go_enter Tryz.func13, Tryz.ntmps13
  go_wp2_with fail
  have B0 : Below w.heap.size w w := Below.refl _ _
  obtain ⟨B1, T1, Z1, K1⟩ := one_more B0 B0.size #[.int .i64 a.kind, .int .i64 a.fro, .int .i64 a.till, .int .i64 a.at', .string a.name, .slice ia a.kids.length ic] 24
  generalize hw1 : w.alloc (.cells #[.int .i64 a.kind, .int .i64 a.fro, .int .i64 a.till, .int .i64 a.at', .string a.name, .slice ia a.kids.length ic] 24) = w1 at *
  obtain ⟨B2, T2, Z2, K2⟩ := one_more B1 B1.size #[.int .i64 19, .int .i64 0, .int .i64 0, .int .i64 0, .string ⟨#[]⟩, .slice (some ⟨w.heap.size + 1 + 1, 0, none⟩) 1 1] 24
  generalize hw2 : w1.alloc (.cells #[.int .i64 19, .int .i64 0, .int .i64 0, .int .i64 0, .string ⟨#[]⟩, .slice (some ⟨w.heap.size + 1 + 1, 0, none⟩) 1 1] 24) = w2 at *
  rw [Z1] at T2 Z2
  replace T1 := (K2.block _ (Array.getElem?_eq_some_iff.1 T1).1).trans T1
  obtain ⟨B3, T3, Z3, K3⟩ := one_more B2 B2.size #[.int .i64 a.kind, .int .i64 a.fro, .int .i64 a.till, .int .i64 a.at', .string a.name, .slice ia a.kids.length ic] 24
  generalize hw3 : w2.alloc (.cells #[.int .i64 a.kind, .int .i64 a.fro, .int .i64 a.till, .int .i64 a.at', .string a.name, .slice ia a.kids.length ic] 24) = w3 at *
  rw [Z2] at T3 Z3
  replace T1 := (K3.block _ (Array.getElem?_eq_some_iff.1 T1).1).trans T1
  replace T2 := (K3.block _ (Array.getElem?_eq_some_iff.1 T2).1).trans T2
  refine ret_cell1A (p := 2) rfl _ rfl _ (load_nd T2) ⟨_, rfl, ?_, B3⟩
  exact nin_kids (l := [a]) 19 ⟨#[]⟩ (Nat.le_refl _) (nln_cons (cellA T3 (i := 0) rfl) (cellA T3 (i := 1) rfl) (cellA T3 (i := 2) rfl) (cellA T3 (i := 3) rfl) (cellA T3 (i := 4) rfl) (cellA T3 (i := 5) rfl) ((NIn.shut hcc hk).below B3) nln_nil)
set_option maxRecDepth 100000 in
theorem paren_tree (a : Nd) (u : Value) (w : World) (hu : NIn w TT a u) : Calls Tryz.prog 19 #[u] w (TreeEnd (tParen a) w) := by
  obtain ⟨ia, ic, rfl, hcc, hk⟩ := hu.open
  go_enter Tryz.func19, Tryz.ntmps19
  go_wp2_with fail
  have B0 : Below w.heap.size w w := Below.refl _ _
  obtain ⟨B1, T1, Z1, K1⟩ := one_more B0 B0.size #[.int .i64 a.kind, .int .i64 a.fro, .int .i64 a.till, .int .i64 a.at', .string a.name, .slice ia a.kids.length ic] 24
  generalize hw1 : w.alloc (.cells #[.int .i64 a.kind, .int .i64 a.fro, .int .i64 a.till, .int .i64 a.at', .string a.name, .slice ia a.kids.length ic] 24) = w1 at *
  obtain ⟨B2, T2, Z2, K2⟩ := one_more B1 B1.size #[.int .i64 33, .int .i64 0, .int .i64 0, .int .i64 0, .string ⟨#[]⟩, .slice (some ⟨w.heap.size + 1 + 1, 0, none⟩) 1 1] 24
  generalize hw2 : w1.alloc (.cells #[.int .i64 33, .int .i64 0, .int .i64 0, .int .i64 0, .string ⟨#[]⟩, .slice (some ⟨w.heap.size + 1 + 1, 0, none⟩) 1 1] 24) = w2 at *
  rw [Z1] at T2 Z2
  replace T1 := (K2.block _ (Array.getElem?_eq_some_iff.1 T1).1).trans T1
  obtain ⟨B3, T3, Z3, K3⟩ := one_more B2 B2.size #[.int .i64 a.kind, .int .i64 a.fro, .int .i64 a.till, .int .i64 a.at', .string a.name, .slice ia a.kids.length ic] 24
  generalize hw3 : w2.alloc (.cells #[.int .i64 a.kind, .int .i64 a.fro, .int .i64 a.till, .int .i64 a.at', .string a.name, .slice ia a.kids.length ic] 24) = w3 at *
  rw [Z2] at T3 Z3
  replace T1 := (K3.block _ (Array.getElem?_eq_some_iff.1 T1).1).trans T1
  replace T2 := (K3.block _ (Array.getElem?_eq_some_iff.1 T2).1).trans T2
  refine ret_cell1A (p := 2) rfl _ rfl _ (load_nd T2) ⟨_, rfl, ?_, B3⟩
  exact nin_kids (l := [a]) 33 ⟨#[]⟩ (Nat.le_refl _) (nln_cons (cellA T3 (i := 0) rfl) (cellA T3 (i := 1) rfl) (cellA T3 (i := 2) rfl) (cellA T3 (i := 3) rfl) (cellA T3 (i := 4) rfl) (cellA T3 (i := 5) rfl) ((NIn.shut hcc hk).below B3) nln_nil)
set_option maxRecDepth 100000 in
theorem sel_tree (s : ByteArray) (a : Nd) (u : Value) (w : World) (hu : NIn w TT a u) : Calls Tryz.prog 17 #[u, .string s] w (TreeEnd (tSel a s) w) := by
  obtain ⟨ia, ic, rfl, hcc, hk⟩ := hu.open
  go_enter Tryz.func17, Tryz.ntmps17
  go_wp2_with fail
  have B0 : Below w.heap.size w w := Below.refl _ _
  obtain ⟨B1, T1, Z1, K1⟩ := one_more B0 B0.size #[.int .i64 a.kind, .int .i64 a.fro, .int .i64 a.till, .int .i64 a.at', .string a.name, .slice ia a.kids.length ic] 24
  generalize hw1 : w.alloc (.cells #[.int .i64 a.kind, .int .i64 a.fro, .int .i64 a.till, .int .i64 a.at', .string a.name, .slice ia a.kids.length ic] 24) = w1 at *
  obtain ⟨B2, T2, Z2, K2⟩ := one_more B1 B1.size #[.int .i64 26, .int .i64 0, .int .i64 0, .int .i64 0, .string s, .slice (some ⟨w.heap.size + 1 + 1, 0, none⟩) 1 1] 24
  generalize hw2 : w1.alloc (.cells #[.int .i64 26, .int .i64 0, .int .i64 0, .int .i64 0, .string s, .slice (some ⟨w.heap.size + 1 + 1, 0, none⟩) 1 1] 24) = w2 at *
  rw [Z1] at T2 Z2
  replace T1 := (K2.block _ (Array.getElem?_eq_some_iff.1 T1).1).trans T1
  obtain ⟨B3, T3, Z3, K3⟩ := one_more B2 B2.size #[.int .i64 a.kind, .int .i64 a.fro, .int .i64 a.till, .int .i64 a.at', .string a.name, .slice ia a.kids.length ic] 24
  generalize hw3 : w2.alloc (.cells #[.int .i64 a.kind, .int .i64 a.fro, .int .i64 a.till, .int .i64 a.at', .string a.name, .slice ia a.kids.length ic] 24) = w3 at *
  rw [Z2] at T3 Z3
  replace T1 := (K3.block _ (Array.getElem?_eq_some_iff.1 T1).1).trans T1
  replace T2 := (K3.block _ (Array.getElem?_eq_some_iff.1 T2).1).trans T2
  refine ret_cell1A (p := 4) rfl _ rfl _ (load_nd T2) ⟨_, rfl, ?_, B3⟩
  exact nin_kids (l := [a]) 26 s (Nat.le_refl _) (nln_cons (cellA T3 (i := 0) rfl) (cellA T3 (i := 1) rfl) (cellA T3 (i := 2) rfl) (cellA T3 (i := 3) rfl) (cellA T3 (i := 4) rfl) (cellA T3 (i := 5) rfl) ((NIn.shut hcc hk).below B3) nln_nil)
set_option maxRecDepth 100000 in
theorem lit_tree (w : World) : Calls Tryz.prog 18 #[] w (TreeEnd tLit w) := by
  go_enter Tryz.func18, Tryz.ntmps18
  go_wp2_with fail
  have B0 : Below w.heap.size w w := Below.refl _ _
  obtain ⟨B1, T1, Z1, K1⟩ := one_more B0 B0.size #[.int .i64 28, .int .i64 0, .int .i64 0, .int .i64 0, .string ⟨#[]⟩, .slice (some ⟨w.heap.size + 1, 0, none⟩) 1 1] 24
  generalize hw1 : w.alloc (.cells #[.int .i64 28, .int .i64 0, .int .i64 0, .int .i64 0, .string ⟨#[]⟩, .slice (some ⟨w.heap.size + 1, 0, none⟩) 1 1] 24) = w1 at *
  obtain ⟨B2, T2, Z2, K2⟩ := one_more B1 B1.size #[.int .i64 8, .int .i64 0, .int .i64 0, .int .i64 0, .string ⟨#[84]⟩, .slice none 0 0] 24
  generalize hw2 : w1.alloc (.cells #[.int .i64 8, .int .i64 0, .int .i64 0, .int .i64 0, .string ⟨#[84]⟩, .slice none 0 0] 24) = w2 at *
  rw [Z1] at T2 Z2
  replace T1 := (K2.block _ (Array.getElem?_eq_some_iff.1 T1).1).trans T1
  refine ret_cell1A (p := 0) rfl _ rfl _ (load_nd T1) ⟨_, rfl, ?_, B2⟩
  exact nin_kids (l := [nt 8 ⟨#[84]⟩ []]) 28 ⟨#[]⟩ (Nat.le_refl _) (nln_cons (cellA T2 (i := 0) rfl) (cellA T2 (i := 1) rfl) (cellA T2 (i := 2) rfl) (cellA T2 (i := 3) rfl) (cellA T2 (i := 4) rfl) (cellA T2 (i := 5) rfl) (nin_leaf _ 8 ⟨#[84]⟩) nln_nil)
theorem nin_row {W : World} (k : Int) (s : ByteArray) {l : List Nd} {A : Option Addr} {c : Nat} (hc : l.length ≤ c) (h : SIn W TT l A) : NIn W TT (nt k s l) (.agg #[.int .i64 k, .int .i64 0, .int .i64 0, .int .i64 0, .string s, .slice A l.length c]) := by
  unfold nt
  rw [NIn]
  exact ⟨A, c, rfl, hc, h⟩
set_option maxRecDepth 100000 in
theorem block_tree (l : List Nd) (A : Option Addr) (c : Nat) (w : World) (hl : SIn w TT l A) (hc : l.length ≤ c) : Calls Tryz.prog 24 #[.slice A l.length c] w (TreeEnd (tBlock l) w) := by
  go_enter Tryz.func24, Tryz.ntmps24
  go_wp2_with fail
  have B0 : Below w.heap.size w w := Below.refl _ _
  obtain ⟨B1, T1, Z1, K1⟩ := one_more B0 B0.size #[.int .i64 10, .int .i64 0, .int .i64 0, .int .i64 0, .string ⟨#[]⟩, .slice A l.length c] 24
  generalize hw1 : w.alloc (.cells #[.int .i64 10, .int .i64 0, .int .i64 0, .int .i64 0, .string ⟨#[]⟩, .slice A l.length c] 24) = w1 at *
  refine ret_cell1A (p := 2) rfl _ rfl _ (load_nd T1) ⟨_, rfl, ?_, B1⟩
  exact nin_row 10 ⟨#[]⟩ hc (hl.below B1)
end Go.Proofs.YtkpddjbdmjbefaaGreatDoor
namespace Go.Proofs.YtkpddjbdmjbefaaGreatDoor
open Go.RowKit
variable {tk : Int → ByteArray → Bool} {O : ByteArray → Prop} {FAC : World → Prop}

theorem cell_setN {W : World} {R B i j : Nat} {x v : Value} (hne : B ≠ R) (h : W.cell? ⟨B, i, none⟩ = some x) : (W.setCell ⟨R, j, none⟩ v).cell? ⟨B, i, none⟩ = some x := by
  have := heap_setCell_other W ⟨R, j, none⟩ B v (show B ≠ R from hne)
  unfold World.cell? at h ⊢
  simp only at h ⊢
  rw [this]
  exact h
theorem six_set {W : World} {R B : Nat} {c0 c1 c2 c3 c4 c5 a b c d e f : Value} (hne : B ≠ R) (h : W.cell? ⟨B, 0, none⟩ = some c0 ∧ W.cell? ⟨B, 1, none⟩ = some c1 ∧ W.cell? ⟨B, 2, none⟩ = some c2 ∧ W.cell? ⟨B, 3, none⟩ = some c3 ∧ W.cell? ⟨B, 4, none⟩ = some c4 ∧ W.cell? ⟨B, 5, none⟩ = some c5) :
    let W' := ((((((W.setCell ⟨R, 0, none⟩ a).setCell ⟨R, 1, none⟩ b).setCell ⟨R, 2, none⟩ c).setCell ⟨R, 3, none⟩ d).setCell ⟨R, 4, none⟩ e).setCell ⟨R, 5, none⟩ f)
    W'.cell? ⟨B, 0, none⟩ = some c0 ∧ W'.cell? ⟨B, 1, none⟩ = some c1 ∧ W'.cell? ⟨B, 2, none⟩ = some c2 ∧ W'.cell? ⟨B, 3, none⟩ = some c3 ∧ W'.cell? ⟨B, 4, none⟩ = some c4 ∧ W'.cell? ⟨B, 5, none⟩ = some c5 := by
  have k : ∀ {i : Nat} {x : Value}, W.cell? ⟨B, i, none⟩ = some x → ((((((W.setCell ⟨R, 0, none⟩ a).setCell ⟨R, 1, none⟩ b).setCell ⟨R, 2, none⟩ c).setCell ⟨R, 3, none⟩ d).setCell ⟨R, 4, none⟩ e).setCell ⟨R, 5, none⟩ f).cell? ⟨B, i, none⟩ = some x :=
    fun hx => cell_setN hne (cell_setN hne (cell_setN hne (cell_setN hne (cell_setN hne (cell_setN hne hx)))))
  exact ⟨k h.1, k h.2.1, k h.2.2.1, k h.2.2.2.1, k h.2.2.2.2.1, k h.2.2.2.2.2⟩
theorem six_heap {W : World} {R : Nat} {c0 c1 c2 c3 c4 c5 a b c d e f : Value} {t : TypeId} (h : W.heap[R]? = some (.cells #[c0, c1, c2, c3, c4, c5] t (0, 0))) :
    ((((((W.setCell ⟨R, 0, none⟩ a).setCell ⟨R, 1, none⟩ b).setCell ⟨R, 2, none⟩ c).setCell ⟨R, 3, none⟩ d).setCell ⟨R, 4, none⟩ e).setCell ⟨R, 5, none⟩ f).heap[R]? = some (.cells #[a, b, c, d, e, f] t (0, 0)) := by
  have h1 := heap_setCell_same W R 0 _ _ a h
  have h2 := heap_setCell_same _ R 1 _ _ b h1
  have h3 := heap_setCell_same _ R 2 _ _ c h2
  have h4 := heap_setCell_same _ R 3 _ _ d h3
  have h5 := heap_setCell_same _ R 4 _ _ e h4
  exact heap_setCell_same _ R 5 _ _ f h5
theorem below_set6 {w0 W : World} {B R : Nat} {a b c d e f : Value} (h : Below B w0 W) (hR : B ≤ R) : Below B w0 ((((((W.setCell ⟨R, 0, none⟩ a).setCell ⟨R, 1, none⟩ b).setCell ⟨R, 2, none⟩ c).setCell ⟨R, 3, none⟩ d).setCell ⟨R, 4, none⟩ e).setCell ⟨R, 5, none⟩ f) :=
  (((((h.setCell (p := ⟨R, 0, none⟩) hR a).setCell (p := ⟨R, 1, none⟩) hR b).setCell (p := ⟨R, 2, none⟩) hR c).setCell (p := ⟨R, 3, none⟩) hR d).setCell (p := ⟨R, 4, none⟩) hR e).setCell (p := ⟨R, 5, none⟩) hR f
theorem block_nil (w : World) : Calls Tryz.prog 24 #[.slice none 0 0] w fun e w' => e = .returned (.agg #[.int .i64 10, .int .i64 0, .int .i64 0, .int .i64 0, .string ⟨#[]⟩, .slice none 0 0]) ∧ Below w.heap.size w w' := by
  go_enter Tryz.func24, Tryz.ntmps24
  go_wp2_with fail
  obtain ⟨B1, T1, Z1, K1⟩ := one_more (Below.refl w.heap.size w) (Nat.le_refl _) #[.int .i64 10, .int .i64 0, .int .i64 0, .int .i64 0, .string ⟨#[]⟩, .slice none 0 0] 24
  exact ret_cell1A (p := 2) rfl _ rfl _ (load_nd T1) ⟨rfl, B1⟩
set_option maxRecDepth 100000 in
set_option maxHeartbeats 1000000 in
theorem branch_tree (a : Nd) (u : Value) (w : World) (hu : NIn w TT a u) : Calls Tryz.prog 16 #[u] w (TreeEnd (tBranch a) w) := by
  obtain ⟨ia, ic, rfl, hcc, hk⟩ := hu.open
  go_enter Tryz.func16, Tryz.ntmps16
  go_wp2_with fail
  have B0 : Below w.heap.size w w := Below.refl _ _
  obtain ⟨B1, T1, Z1, K1⟩ := one_more B0 B0.size #[.int .i64 a.kind, .int .i64 a.fro, .int .i64 a.till, .int .i64 a.at', .string a.name, .slice ia a.kids.length ic] 24
  generalize hw1 : w.alloc (.cells #[.int .i64 a.kind, .int .i64 a.fro, .int .i64 a.till, .int .i64 a.at', .string a.name, .slice ia a.kids.length ic] 24) = w1 at *
  obtain ⟨B2, T2, Z2, K2⟩ := one_more B1 B1.size #[.int .i64 0, .int .i64 0, .int .i64 0, .int .i64 0, .string ⟨#[]⟩, .slice none 0 0] 24
  generalize hw2 : w1.alloc (.cells #[.int .i64 0, .int .i64 0, .int .i64 0, .int .i64 0, .string ⟨#[]⟩, .slice none 0 0] 24) = w2 at *
  rw [Z1] at T2 Z2
  replace T1 := (K2.block _ (Array.getElem?_eq_some_iff.1 T1).1).trans T1
  have HS0 := Lib.hid (six_cells T1)
  have HK3 := Lib.hid (fun (W : World) (hb : Below w.heap.size w W) => hk.below hb)
  have HB2 := Lib.hid B2
  have HT2 := Lib.hid T2
  have HCC := Lib.hid hcc
  clear B0 B1 B2 Z1 K1 K2 T1 T2 Z2 hw1 hw2 hk hu
  generalize hN : w.heap.size = N at *
  have HNN := Lib.hid hN
  clear hN
  have HNE : Hid (N ≠ N + 1) := Lib.hid (by omega)
  refine wp_region_held_drew (S := (fun w' => w'.cell? ⟨N, 0, none⟩ = some (.int .i64 a.kind) ∧ w'.cell? ⟨N, 1, none⟩ = some (.int .i64 a.fro) ∧ w'.cell? ⟨N, 2, none⟩ = some (.int .i64 a.till) ∧ w'.cell? ⟨N, 3, none⟩ = some (.int .i64 a.at') ∧ w'.cell? ⟨N, 4, none⟩ = some (.string a.name) ∧ w'.cell? ⟨N, 5, none⟩ = some (.slice ia a.kids.length ic))) (by kernel_rfl) HS0.out (fun hHeld => ?_)
  refine wpAnyH_take (i := 0) (oi := ⟨some 3, _, _, _, _, _⟩) (v := ?_) rfl (by kernel_rfl) (by kernel_rfl) (by kernel_rfl) (fun _ _ _ h => h) (Or.inl ⟨by rfl, ?_⟩) hHeld ?_
  rotate_left
  · (intro W hSW; (try dsimp only at hSW); go_simp; first | done | with_reducible rfl)
  try simp only [Act.put, List.setIfInBounds_toArray, List.set_cons_zero, List.set_cons_succ]
  refine wpAnyH_take (i := 2) (oi := ⟨some 5, _, _, _, _, _⟩) (v := ?_) rfl (by kernel_rfl) (by kernel_rfl) (by kernel_rfl) (fun _ _ _ h => h) (Or.inl ⟨by rfl, ?_⟩) hHeld ?_
  rotate_left
  · (intro W hSW; (try dsimp only at hSW); go_simp; first | done | with_reducible rfl)
  try simp only [Act.put, List.setIfInBounds_toArray, List.set_cons_zero, List.set_cons_succ]
  refine wpAnyH_ready (rs := [1]) (by kernel_rfl) (by simp) ?_
  refine AllReadyH.cons (o := ⟨some 4, _, _, _, _, _⟩) rfl (fun K hK => ?_) AllReadyH.nil
  go_simp
  refine (block_nil _).mono ?_
  rintro e w' ⟨rfl, kq⟩
  refine hK.out _ _ (six_keep HS0.out (below_drew kq)) (fun hHeld2 => ?_)
  clear hK K hHeld
  try simp only [Act.put, List.setIfInBounds_toArray, List.set_cons_zero, List.set_cons_succ]
  refine wpAnyH_ready (rs := [3]) (by kernel_rfl) (by simp) ?_
  refine AllReadyH.cons (o := ⟨some 6, _, _, _, _, _⟩) rfl (fun K hK => ?_) AllReadyH.nil
  go_simp
  have hBr := alloc_below w' (.cells #[.int .i64 a.kind, .int .i64 a.fro, .int .i64 a.till, .int .i64 a.at', .string a.name, .slice ia a.kids.length ic, .int .i64 10, .int .i64 0, .int .i64 0, .int .i64 0, .string ⟨#[]⟩, .slice none 0 0, .int .i64 0, .int .i64 0, .int .i64 0, .int .i64 0, .string ⟨#[]⟩, .slice none 0 0] 24)
  have hTr := alloc_top w' #[.int .i64 a.kind, .int .i64 a.fro, .int .i64 a.till, .int .i64 a.at', .string a.name, .slice ia a.kids.length ic, .int .i64 10, .int .i64 0, .int .i64 0, .int .i64 0, .string ⟨#[]⟩, .slice none 0 0, .int .i64 0, .int .i64 0, .int .i64 0, .int .i64 0, .string ⟨#[]⟩, .slice none 0 0] 24
  have hB3 := (below_drew kq).trans (hBr.mono (below_drew kq).size)
  have hT4 := heap_keep hBr (((below_drew kq).block _ (Array.getElem?_eq_some_iff.1 HT2.out).1).trans HT2.out)
  refine hK.out _ _ (six_keep HS0.out hB3) (fun hHeld => ?_)
  clear hK K hHeld2
  generalize w'.alloc (.cells #[.int .i64 a.kind, .int .i64 a.fro, .int .i64 a.till, .int .i64 a.at', .string a.name, .slice ia a.kids.length ic, .int .i64 10, .int .i64 0, .int .i64 0, .int .i64 0, .string ⟨#[]⟩, .slice none 0 0, .int .i64 0, .int .i64 0, .int .i64 0, .int .i64 0, .string ⟨#[]⟩, .slice none 0 0] 24) = w4 at *
  generalize hgr : w'.heap.size = gr at *
  try simp only [Act.put, List.setIfInBounds_toArray, List.set_cons_zero, List.set_cons_succ]
  refine wpAnyH_take (i := 4) (oi := ⟨some 7, _, _, _, _, _⟩) (v := ?_) rfl (by kernel_rfl) (by kernel_rfl) (by kernel_rfl) (fun _ _ _ h => h) (Or.inl ⟨by rfl, ?_⟩) hHeld ?_
  rotate_left
  · (intro W hSW; (try dsimp only at hSW); go_simp; first | done | with_reducible rfl)
  try simp only [Act.put, List.setIfInBounds_toArray, List.set_cons_zero, List.set_cons_succ]
  refine wpAnyH_ready (rs := [5]) (by kernel_rfl) (by simp) ?_
  refine AllReadyH.cons (o := ⟨none, _, _, _, _, _⟩) rfl (fun K hK => ?_) AllReadyH.nil
  obtain ⟨c0, c1, c2, c3, c4, c5⟩ := six_cells hT4
  have f0 := frozen_of_row w4 (N + 1) 0 _ _ hT4
  have f1 := frozen_of_row w4 (N + 1) 1 _ _ hT4
  have f2 := frozen_of_row w4 (N + 1) 2 _ _ hT4
  have f3 := frozen_of_row w4 (N + 1) 3 _ _ hT4
  have f4 := frozen_of_row w4 (N + 1) 4 _ _ hT4
  have f5 := frozen_of_row w4 (N + 1) 5 _ _ hT4
  go_simp
  refine hK.out _ _ (six_set HNE.out (six_keep HS0.out hB3)) (fun hHeld5 => ?_)
  clear hK K hHeld hHeld5 c0 c1 c2 c3 c4 c5 f0 f1 f2 f3 f4 f5
  try simp only [Act.put, List.setIfInBounds_toArray, List.set_cons_zero, List.set_cons_succ]
  refine wpAnyH_done (by kernel_rfl) ?_ _
  go_wp2_with fail
  have hgN : gr ≠ N + 1 := by
    have h1 := (Array.getElem?_eq_some_iff.1 HT2.out).1
    have h2 := (below_drew kq).size
    omega
  have hB6 := HB2.out.trans (hB3.mono (by have h1 := HB2.out.size; have h2 := HNN.out; show N ≤ w2.heap.size; omega))
  have hr6 : ∀ {i : Nat} {x : Value}, w4.cell? ⟨gr, i, none⟩ = some x → _ := fun {i x} hx => cell_setN (v := .slice (some ⟨gr, 0, none⟩) 3 3) (j := 5) hgN (cell_setN (v := .string ⟨#[]⟩) (j := 4) hgN (cell_setN (v := .int .i64 0) (j := 3) hgN (cell_setN (v := .int .i64 0) (j := 2) hgN (cell_setN (v := .int .i64 0) (j := 1) hgN (cell_setN (v := .int .i64 14) (j := 0) hgN hx)))))
  have hB7 := below_set6 (a := .int .i64 14) (b := .int .i64 0) (c := .int .i64 0) (d := .int .i64 0) (e := .string ⟨#[]⟩) (f := .slice (some ⟨gr, 0, none⟩) 3 3) (R := N + 1) hB6 (by omega)
  refine ret_cell1A (p := 2) rfl _ rfl _ (load_nd (six_heap hT4)) ⟨_, rfl, ?_, ?_⟩
  · exact nin_kids (l := [a, tBlock [], tNone]) 14 ⟨#[]⟩ (Nat.le_refl _) (nln_cons (hr6 (cellA hTr (i := 0) rfl)) (hr6 (cellA hTr (i := 1) rfl)) (hr6 (cellA hTr (i := 2) rfl)) (hr6 (cellA hTr (i := 3) rfl)) (hr6 (cellA hTr (i := 4) rfl)) (hr6 (cellA hTr (i := 5) rfl)) (NIn.shut HCC.out (HK3.out _ hB7))
      (nln_cons (hr6 (cellA hTr (i := 6) rfl)) (hr6 (cellA hTr (i := 7) rfl)) (hr6 (cellA hTr (i := 8) rfl)) (hr6 (cellA hTr (i := 9) rfl)) (hr6 (cellA hTr (i := 10) rfl)) (hr6 (cellA hTr (i := 11) rfl)) (nin_leaf _ 10 ⟨#[]⟩)
      (nln_cons (hr6 (cellA hTr (i := 12) rfl)) (hr6 (cellA hTr (i := 13) rfl)) (hr6 (cellA hTr (i := 14) rfl)) (hr6 (cellA hTr (i := 15) rfl)) (hr6 (cellA hTr (i := 16) rfl)) (hr6 (cellA hTr (i := 17) rfl)) (nin_leaf _ 0 ⟨#[]⟩) nln_nil)))
  · rw [HNN.out]; exact hB7
theorem block_val (n : Nat) (A : Option Addr) (c : Nat) (w : World) : Calls Tryz.prog 24 #[.slice A n c] w fun e w' => e = .returned (.agg #[.int .i64 10, .int .i64 0, .int .i64 0, .int .i64 0, .string ⟨#[]⟩, .slice A n c]) ∧ Below w.heap.size w w' := by
  go_enter Tryz.func24, Tryz.ntmps24
  go_wp2_with fail
  obtain ⟨B1, T1, Z1, K1⟩ := one_more (Below.refl w.heap.size w) (Nat.le_refl _) #[.int .i64 10, .int .i64 0, .int .i64 0, .int .i64 0, .string ⟨#[]⟩, .slice A n c] 24
  exact ret_cell1A (p := 2) rfl _ rfl _ (load_nd T1) ⟨rfl, B1⟩
set_option maxRecDepth 100000 in
set_option maxHeartbeats 1000000 in
theorem body_tree (l : List Nd) (A : Option Addr) (c : Nat) (w : World) (hl : SIn w TT l A) (hc : l.length ≤ c) : Calls Tryz.prog 20 #[.slice A l.length c] w (TreeEnd (tBody l) w) := by
  have B0 : Below w.heap.size w w := Below.refl _ _
  obtain ⟨B1, T1, Z1, K1⟩ := one_more B0 B0.size #[.int .i64 0, .int .i64 0, .int .i64 0, .int .i64 0, .string ⟨#[]⟩, .slice none 0 0] 24
  have HC := Lib.hid (block_val l.length A c (w.alloc (.cells #[.int .i64 0, .int .i64 0, .int .i64 0, .int .i64 0, .string ⟨#[]⟩, .slice none 0 0] 24)))
  have HL := Lib.hid hl
  have HCC := Lib.hid hc
  have HNL : Hid (∀ W, SIn W TT l A → NIn W TT (tBlock l) (.agg #[.int .i64 10, .int .i64 0, .int .i64 0, .int .i64 0, .string ⟨#[]⟩, .slice A l.length c])) := Lib.hid (fun W h => nin_row 10 ⟨#[]⟩ hc h)
  have HT1 := Lib.hid T1
  have HB1 := Lib.hid B1
  clear B0 B1 T1 Z1 K1 hl hc
  generalize l.length = n at *
  go_enter Tryz.func20, Tryz.ntmps20
  go_wp2_with fail
  refine HC.out.mono ?_
  rintro e w2 ⟨rfl, hb⟩
  have hT2 := (hb.block _ (Array.getElem?_eq_some_iff.1 HT1.out).1).trans HT1.out
  have HB2 := Lib.hid (HB1.out.trans (hb.mono HB1.out.size))
  obtain ⟨B3, T3, Z3, K3⟩ := one_more (Below.refl w2.heap.size w2) (Nat.le_refl _) #[.int .i64 0, .int .i64 0, .int .i64 0, .int .i64 0, .string ⟨#[]⟩, .slice none 0 0, .int .i64 6, .int .i64 0, .int .i64 0, .int .i64 0, .string ⟨#[]⟩, .slice none 0 0, .int .i64 0, .int .i64 0, .int .i64 0, .int .i64 0, .string ⟨#[]⟩, .slice none 0 0, .int .i64 10, .int .i64 0, .int .i64 0, .int .i64 0, .string ⟨#[]⟩, .slice A n c] 24
  generalize hw3 : w2.alloc (.cells #[.int .i64 0, .int .i64 0, .int .i64 0, .int .i64 0, .string ⟨#[]⟩, .slice none 0 0, .int .i64 6, .int .i64 0, .int .i64 0, .int .i64 0, .string ⟨#[]⟩, .slice none 0 0, .int .i64 0, .int .i64 0, .int .i64 0, .int .i64 0, .string ⟨#[]⟩, .slice none 0 0, .int .i64 10, .int .i64 0, .int .i64 0, .int .i64 0, .string ⟨#[]⟩, .slice A n c] 24) = w3 at *
  obtain ⟨B4, T4, Z4, K4⟩ := one_more B3 B3.size #[.int .i64 5, .int .i64 0, .int .i64 0, .int .i64 0, .string ⟨#[102]⟩, .slice (some ⟨w2.heap.size, 0, none⟩) 4 4] 24
  generalize hw4 : w3.alloc (.cells #[.int .i64 5, .int .i64 0, .int .i64 0, .int .i64 0, .string ⟨#[102]⟩, .slice (some ⟨w2.heap.size, 0, none⟩) 4 4] 24) = w4 at *
  rw [Z3] at T4 Z4
  obtain ⟨B5, T5, Z5, K5⟩ := one_more B4 B4.size #[.int .i64 5, .int .i64 0, .int .i64 0, .int .i64 0, .string ⟨#[102]⟩, .slice (some ⟨w2.heap.size, 0, none⟩) 4 4] 24
  generalize hw5 : w4.alloc (.cells #[.int .i64 5, .int .i64 0, .int .i64 0, .int .i64 0, .string ⟨#[102]⟩, .slice (some ⟨w2.heap.size, 0, none⟩) 4 4] 24) = w5 at *
  rw [Z4] at T5 Z5
  have hE : (((w2.alloc (.cells #[.int .i64 0, .int .i64 0, .int .i64 0, .int .i64 0, .string ⟨#[]⟩, .slice none 0 0, .int .i64 6, .int .i64 0, .int .i64 0, .int .i64 0, .string ⟨#[]⟩, .slice none 0 0, .int .i64 0, .int .i64 0, .int .i64 0, .int .i64 0, .string ⟨#[]⟩, .slice none 0 0, .int .i64 10, .int .i64 0, .int .i64 0, .int .i64 0, .string ⟨#[]⟩, .slice A n c] 24)).alloc (.cells #[.int .i64 5, .int .i64 0, .int .i64 0, .int .i64 0, .string ⟨#[102]⟩, .slice (some ⟨w2.heap.size, 0, none⟩) 4 4] 24)).alloc (.cells #[.int .i64 5, .int .i64 0, .int .i64 0, .int .i64 0, .string ⟨#[102]⟩, .slice (some ⟨w2.heap.size, 0, none⟩) 4 4] 24)) = w5 := by rw [hw3, hw4, hw5]
  have hT5 := (B5.block _ (Array.getElem?_eq_some_iff.1 hT2).1).trans hT2
  have T3' := (K5.block _ (Array.getElem?_eq_some_iff.1 ((K4.block _ (Array.getElem?_eq_some_iff.1 T3).1).trans T3)).1).trans ((K4.block _ (Array.getElem?_eq_some_iff.1 T3).1).trans T3)
  have HT3 := Lib.hid T3'
  have HT5r := Lib.hid T5
  have HT5 := Lib.hid hT5
  have HB5 := Lib.hid B5
  have HE := Lib.hid hE
  rw [← hE] at hT5
  obtain ⟨c0, c1, c2, c3, c4, c5⟩ := six_cells hT5
  have f0 := frozen_of_row _ w.heap.size 0 _ _ hT5
  have f1 := frozen_of_row _ w.heap.size 1 _ _ hT5
  have f2 := frozen_of_row _ w.heap.size 2 _ _ hT5
  have f3 := frozen_of_row _ w.heap.size 3 _ _ hT5
  have f4 := frozen_of_row _ w.heap.size 4 _ _ hT5
  have f5 := frozen_of_row _ w.heap.size 5 _ _ hT5
  have HLT : Hid (w.heap.size < w2.heap.size) := Lib.hid (Array.getElem?_eq_some_iff.1 hT2).1
  clear hb HC hT2 hT5 B3 B4 B5 T3 T4 T5 Z3 Z4 Z5 K3 K4 K5 hw3 hw4 hw5 hE T3'
  go_wp2_with fail
  rw [HE.out]
  clear c0 c1 c2 c3 c4 c5 f0 f1 f2 f3 f4 f5
  have hB6 := HB2.out.trans (HB5.out.mono HB2.out.size)
  have hB7 := below_set6 (a := .int .i64 1) (b := .int .i64 0) (c := .int .i64 0) (d := .int .i64 0) (e := .string ⟨#[112]⟩) (f := .slice (some ⟨w2.heap.size + 1 + 1, 0, none⟩) 1 1) (R := w.heap.size) hB6 (Nat.le_refl _)
  have hr6 : ∀ {g i : Nat} {x : Value}, w.heap.size < g → w5.cell? ⟨g, i, none⟩ = some x → _ := fun {g i x} hg hx => cell_setN (B := g) (v := .slice (some ⟨w2.heap.size + 1 + 1, 0, none⟩) 1 1) (j := 5) (R := w.heap.size) (by omega) (cell_setN (v := .string ⟨#[112]⟩) (j := 4) (R := w.heap.size) (by omega) (cell_setN (v := .int .i64 0) (j := 3) (R := w.heap.size) (by omega) (cell_setN (v := .int .i64 0) (j := 2) (R := w.heap.size) (by omega) (cell_setN (v := .int .i64 0) (j := 1) (R := w.heap.size) (by omega) (cell_setN (v := .int .i64 1) (j := 0) (R := w.heap.size) (by omega) hx)))))
  have hl3 : w.heap.size < w2.heap.size := HLT.out
  have hl5 : w.heap.size < w2.heap.size + 1 + 1 := by omega
  have hbl := HNL.out _ (HL.out.below hB7)
  refine ret_cell1A (p := 2) rfl _ rfl _ (load_nd (six_heap HT5.out)) ⟨_, rfl, ?_, hB7⟩
  exact nin_kids (l := [nt 5 ⟨#[102]⟩ [tNone, nt 6 ⟨#[]⟩ [], tNone, tBlock l]]) 1 ⟨#[112]⟩ (Nat.le_refl _) (nln_cons (hr6 hl5 (cellA HT5r.out (i := 0) rfl)) (hr6 hl5 (cellA HT5r.out (i := 1) rfl)) (hr6 hl5 (cellA HT5r.out (i := 2) rfl)) (hr6 hl5 (cellA HT5r.out (i := 3) rfl)) (hr6 hl5 (cellA HT5r.out (i := 4) rfl)) (hr6 hl5 (cellA HT5r.out (i := 5) rfl))
      (nin_kids (l := [tNone, nt 6 ⟨#[]⟩ [], tNone, tBlock l]) 5 ⟨#[102]⟩ (Nat.le_refl _) (nln_cons (hr6 hl3 (cellA HT3.out (i := 0) rfl)) (hr6 hl3 (cellA HT3.out (i := 1) rfl)) (hr6 hl3 (cellA HT3.out (i := 2) rfl)) (hr6 hl3 (cellA HT3.out (i := 3) rfl)) (hr6 hl3 (cellA HT3.out (i := 4) rfl)) (hr6 hl3 (cellA HT3.out (i := 5) rfl)) (nin_leaf _ 0 ⟨#[]⟩) (nln_cons (hr6 hl3 (cellA HT3.out (i := 6) rfl)) (hr6 hl3 (cellA HT3.out (i := 7) rfl)) (hr6 hl3 (cellA HT3.out (i := 8) rfl)) (hr6 hl3 (cellA HT3.out (i := 9) rfl)) (hr6 hl3 (cellA HT3.out (i := 10) rfl)) (hr6 hl3 (cellA HT3.out (i := 11) rfl)) (nin_leaf _ 6 ⟨#[]⟩) (nln_cons (hr6 hl3 (cellA HT3.out (i := 12) rfl)) (hr6 hl3 (cellA HT3.out (i := 13) rfl)) (hr6 hl3 (cellA HT3.out (i := 14) rfl)) (hr6 hl3 (cellA HT3.out (i := 15) rfl)) (hr6 hl3 (cellA HT3.out (i := 16) rfl)) (hr6 hl3 (cellA HT3.out (i := 17) rfl)) (nin_leaf _ 0 ⟨#[]⟩) (nln_cons (hr6 hl3 (cellA HT3.out (i := 18) rfl)) (hr6 hl3 (cellA HT3.out (i := 19) rfl)) (hr6 hl3 (cellA HT3.out (i := 20) rfl)) (hr6 hl3 (cellA HT3.out (i := 21) rfl)) (hr6 hl3 (cellA HT3.out (i := 22) rfl)) (hr6 hl3 (cellA HT3.out (i := 23) rfl)) hbl nln_nil))))) nln_nil)
end Go.Proofs.YtkpddjbdmjbefaaGreatDoor
namespace Go.Proofs.YtkpddjbdmjbefaaGreatDoor
open Go.RowKit
variable {tk : Int → ByteArray → Bool} {O : ByteArray → Prop} {FAC : World → Prop}

/-- What Check needs to be told. -/
structure Ready (tk : Int → ByteArray → Bool) (O : ByteArray → Prop) (FAC : World → Prop) : Prop where
  keepF : ∀ w w', FAC w → Below w.heap.size w w' → FAC w'
  tok : ∀ W, FAC W → ∀ k : Int, 3 ≤ k ∧ k ≤ 5 → Calls Tryz.prog 81 #[.int .i64 k] W fun e w' => ∃ v, e = .returned v ∧ NmV O w' v (tk k) ∧ Below W.heap.size W w'
theorem name_val (s : ByteArray) (w : World) : Calls Tryz.prog 11 #[.string s] w fun e w' => e = .returned (.agg #[.int .i64 25, .int .i64 0, .int .i64 0, .int .i64 0, .string s, .slice none 0 0]) ∧ Below w.heap.size w w' := by
  go_enter Tryz.func11, Tryz.ntmps11
  go_wp2_with fail
  obtain ⟨B1, T1, Z1, K1⟩ := one_more (Below.refl w.heap.size w) (Nat.le_refl _) #[.int .i64 25, .int .i64 0, .int .i64 0, .int .i64 0, .string s, .slice none 0 0] 24
  exact ret_cell1A (p := 2) rfl _ rfl _ (load_nd T1) ⟨rfl, B1⟩
set_option maxRecDepth 100000 in
set_option maxHeartbeats 1000000 in
theorem may_any (R : Ready tk O FAC) (F : Nat) (x : Nd) (u : Value) (w : World) (hW : FAC w) (hF : Fit O (F + 1) 0 (tBody [x])) (hu : NIn w TT x u) (b : Bool) (hb : (chk tk F (tBody [x]) == 0) = b) :
    Calls Tryz.prog 12 #[u] w fun e w' => e = .returned (.bool b) ∧ Below w.heap.size w w' := by
  obtain ⟨ia, ic, rfl, hcc, hk⟩ := hu.open
  obtain ⟨B1, T1, Z1, K1⟩ := one_more (Below.refl w.heap.size w) (Nat.le_refl _) #[.int .i64 x.kind, .int .i64 x.fro, .int .i64 x.till, .int .i64 x.at', .string x.name, .slice ia x.kids.length ic] 24
  obtain ⟨B2, T2, Z2, K2⟩ := one_more B1 B1.size #[.int .i64 x.kind, .int .i64 x.fro, .int .i64 x.till, .int .i64 x.at', .string x.name, .slice ia x.kids.length ic] 24
  rw [Z1] at T2
  have HC := Lib.hid (body_tree [x] (some ⟨w.heap.size + 1, 0, none⟩) 1 ((w.alloc (.cells #[.int .i64 x.kind, .int .i64 x.fro, .int .i64 x.till, .int .i64 x.at', .string x.name, .slice ia x.kids.length ic] 24)).alloc (.cells #[.int .i64 x.kind, .int .i64 x.fro, .int .i64 x.till, .int .i64 x.at', .string x.name, .slice ia x.kids.length ic] 24))
    (fun _ => ⟨w.heap.size + 1, 0, rfl, trivial, nln_cons (cellA T2 (i := 0) rfl) (cellA T2 (i := 1) rfl) (cellA T2 (i := 2) rfl) (cellA T2 (i := 3) rfl) (cellA T2 (i := 4) rfl) (cellA T2 (i := 5) rfl) (NIn.shut hcc (hk.below B2)) nln_nil⟩) (Nat.le_refl _))
  have HB2 := Lib.hid B2
  have HR := Lib.hid R
  have HW := Lib.hid hW
  have HF := Lib.hid hF
  have HE := Lib.hid hb
  clear B1 T1 Z1 K1 B2 T2 Z2 K2 hk hu R hW hF hb
  rw [show ([x] : List Nd).length = 1 from rfl] at HC
  go_enter Tryz.func12, Tryz.ntmps12
  go_wp2_with fail
  refine HC.out.mono ?_
  rintro e w2 ⟨r, rfl, hn, hb⟩
  have HB3 := Lib.hid (HB2.out.trans (hb.mono HB2.out.size))
  have HCK := Lib.hid (check_any HR.out.keepF HR.out.tok F (tBody [x]) r w2 (HR.out.keepF _ _ HW.out HB3.out) HF.out hn)
  clear hb hn HC
  go_wp2_with fail
  refine HCK.out.mono ?_
  rintro e w3 ⟨rfl, hb⟩
  have HB4 := Lib.hid (HB3.out.trans (hb.mono HB3.out.size))
  clear hb HCK
  have hx := HE.out
  go_wp2_with fail
  go_ret
  exact ⟨rfl, HB4.out⟩
set_option maxRecDepth 100000 in
set_option maxHeartbeats 1000000 in
theorem no_any (R : Ready tk O FAC) (F : Nat) (x : Nd) (u : Value) (w : World) (hW : FAC w) (hF : Fit O (F + 1) 0 (tBody [x])) (hu : NIn w TT x u) (b : Bool) (hb : (chk tk F (tBody [x]) == 4) = b) :
    Calls Tryz.prog 15 #[u] w fun e w' => e = .returned (.bool b) ∧ Below w.heap.size w w' := by
  obtain ⟨ia, ic, rfl, hcc, hk⟩ := hu.open
  obtain ⟨B1, T1, Z1, K1⟩ := one_more (Below.refl w.heap.size w) (Nat.le_refl _) #[.int .i64 x.kind, .int .i64 x.fro, .int .i64 x.till, .int .i64 x.at', .string x.name, .slice ia x.kids.length ic] 24
  obtain ⟨B2, T2, Z2, K2⟩ := one_more B1 B1.size #[.int .i64 x.kind, .int .i64 x.fro, .int .i64 x.till, .int .i64 x.at', .string x.name, .slice ia x.kids.length ic] 24
  rw [Z1] at T2
  have HC := Lib.hid (body_tree [x] (some ⟨w.heap.size + 1, 0, none⟩) 1 ((w.alloc (.cells #[.int .i64 x.kind, .int .i64 x.fro, .int .i64 x.till, .int .i64 x.at', .string x.name, .slice ia x.kids.length ic] 24)).alloc (.cells #[.int .i64 x.kind, .int .i64 x.fro, .int .i64 x.till, .int .i64 x.at', .string x.name, .slice ia x.kids.length ic] 24))
    (fun _ => ⟨w.heap.size + 1, 0, rfl, trivial, nln_cons (cellA T2 (i := 0) rfl) (cellA T2 (i := 1) rfl) (cellA T2 (i := 2) rfl) (cellA T2 (i := 3) rfl) (cellA T2 (i := 4) rfl) (cellA T2 (i := 5) rfl) (NIn.shut hcc (hk.below B2)) nln_nil⟩) (Nat.le_refl _))
  have HB2 := Lib.hid B2
  have HR := Lib.hid R
  have HW := Lib.hid hW
  have HF := Lib.hid hF
  have HE := Lib.hid hb
  clear B1 T1 Z1 K1 B2 T2 Z2 K2 hk hu R hW hF hb
  rw [show ([x] : List Nd).length = 1 from rfl] at HC
  go_enter Tryz.func15, Tryz.ntmps15
  go_wp2_with fail
  refine HC.out.mono ?_
  rintro e w2 ⟨r, rfl, hn, hb⟩
  have HB3 := Lib.hid (HB2.out.trans (hb.mono HB2.out.size))
  have HCK := Lib.hid (check_any HR.out.keepF HR.out.tok F (tBody [x]) r w2 (HR.out.keepF _ _ HW.out HB3.out) HF.out hn)
  clear hb hn HC
  go_wp2_with fail
  refine HCK.out.mono ?_
  rintro e w3 ⟨rfl, hb⟩
  have HB4 := Lib.hid (HB3.out.trans (hb.mono HB3.out.size))
  clear hb HCK
  have hx := HE.out
  go_wp2_with fail
  go_ret
  exact ⟨rfl, HB4.out⟩
end Go.Proofs.YtkpddjbdmjbefaaGreatDoor
