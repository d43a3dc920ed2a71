/- Part of a proof. -/
import Derived.Test.YtmlclgkhnekmnaaGreatDoorLAwake
import Derived.Shelf.Abstract
namespace Go.Proofs.YtmlclgkhnekmnaaGreatDoor
open Go.RowKit
inductive Nd where
 | mk (k f t a : Int) (s : ByteArray) (l : List Nd)
namespace Nd
def kind : Nd → Int | .mk k _ _ _ _ _ => k
def fro : Nd → Int | .mk _ f _ _ _ _ => f
def till : Nd → Int | .mk _ _ t _ _ _ => t
def at' : Nd → Int | .mk _ _ _ a _ _ => a
def name : Nd → ByteArray | .mk _ _ _ _ s _ => s
def kids : Nd → List Nd | .mk _ _ _ _ _ l => l
theorem eta (n : Nd) : n = .mk n.kind n.fro n.till n.at' n.name n.kids := by cases n; rfl
end Nd
mutual
def sz : Nd → Nat
 | .mk _ _ _ _ s l => 1 + s.size + szL l
def szL : List Nd → Nat
 | [] => 0
 | n :: l => sz n + szL l
end
theorem sz_eq (n : Nd) : sz n = 1 + n.name.size + szL n.kids := by cases n; rw [sz]; rfl
theorem sz_pos (n : Nd) : 0 < sz n := by rw [sz_eq]; omega
theorem szL_append : ∀ l m : List Nd, szL (l ++ m) = szL l + szL m
 | [], m => by rw [szL]; simp
 | n :: l, m => by rw [List.cons_append, szL, szL, szL_append l m]; omega
theorem szL_at : ∀ {l : List Nd} {i : Nat} {n : Nd}, l[i]? = some n → sz n ≤ szL l
 | [], _, _, h => by simp at h
 | n :: l, 0, m, h => by
  obtain rfl : n = m := by simpa using h
  rw [szL]; omega
 | n :: l, i + 1, m, h => by
  have := szL_at (l := l) (i := i) (n := m) (by simpa using h)
  rw [szL]; omega
theorem szL_len : ∀ l : List Nd, l.length ≤ szL l
 | [] => by simp
 | n :: l => by have := szL_len l; have := sz_pos n; rw [szL, List.length_cons]; omega
theorem sz_kid {n m : Nd} {i : Nat} (h : n.kids[i]? = some m) : sz m < sz n := by
 have := szL_at h
 rw [sz_eq n]; omega
mutual
def NIn (W : World) (P : Nat → Prop) : Nd → Value → Prop
 | .mk k f t a s l, v => ∃ (ia : Option Addr) (ic : Nat), v = .agg #[.int .i64 k, .int .i64 f, .int .i64 t, .int .i64 a, .string s, .slice ia l.length ic] ∧ l.length ≤ ic ∧
  (0 < l.length → ∃ b o, ia = some ⟨b, o, none⟩ ∧ P b ∧ NLn W P b o l)
def NLn (W : World) (P : Nat → Prop) (b : Nat) : Nat → List Nd → Prop
 | _, [] => True
 | o, n :: l => (∃ v0 v1 v2 v3 v4 v5, W.cell? ⟨b, o, none⟩ = some v0 ∧ W.cell? ⟨b, o + 1, none⟩ = some v1 ∧ W.cell? ⟨b, o + 2, none⟩ = some v2 ∧ W.cell? ⟨b, o + 3, none⟩ = some v3 ∧ W.cell? ⟨b, o + 4, none⟩ = some v4 ∧ W.cell? ⟨b, o + 5, none⟩ = some v5 ∧
  NIn W P n (.agg #[v0, v1, v2, v3, v4, v5])) ∧ NLn W P b (o + 6) l
end
def SIn (W : World) (P : Nat → Prop) (l : List Nd) (ia : Option Addr) : Prop := 0 < l.length → ∃ b o, ia = some ⟨b, o, none⟩ ∧ P b ∧ NLn W P b o l
theorem NIn.open {W : World} {P : Nat → Prop} {n : Nd} {v : Value} (h : NIn W P n v) : ∃ (ia : Option Addr) (ic : Nat), v = .agg #[.int .i64 n.kind, .int .i64 n.fro, .int .i64 n.till, .int .i64 n.at', .string n.name, .slice ia n.kids.length ic] ∧ n.kids.length ≤ ic ∧ SIn W P n.kids ia := by
 cases n
 rw [NIn] at h
 exact h
theorem NIn.shut {W : World} {P : Nat → Prop} {n : Nd} {ia : Option Addr} {ic : Nat} (hc : n.kids.length ≤ ic) (h : SIn W P n.kids ia) : NIn W P n (.agg #[.int .i64 n.kind, .int .i64 n.fro, .int .i64 n.till, .int .i64 n.at', .string n.name, .slice ia n.kids.length ic]) := by
 cases n
 rw [NIn]
 exact ⟨ia, ic, rfl, hc, h⟩
theorem ncell_lt {W : World} {b i : Nat} {v : Value} (hc : W.cell? ⟨b, i, none⟩ = some v) : b < W.heap.size := by
 rcases Nat.lt_or_ge b W.heap.size with h' | h'
 · exact h'
 · simp [World.cell?, Array.getElem?_eq_none h'] at hc
theorem ncell_blk {W W' : World} {b i : Nat} {v : Value} (h : b < W.heap.size → W'.heap[b]? = W.heap[b]?) (hc : W.cell? ⟨b, i, none⟩ = some v) : W'.cell? ⟨b, i, none⟩ = some v := by
 rw [cell_block (h (ncell_lt hc))]; exact hc
theorem NLn.lt {W : World} {P : Nat → Prop} {b o : Nat} {l : List Nd} (h : NLn W P b o l) (hl : 0 < l.length) : b < W.heap.size := by
 cases l with
 | nil => simp at hl
 | cons n l =>
  rw [NLn] at h
  obtain ⟨⟨v0, _, _, _, _, _, h0, _⟩, _⟩ := h
  exact ncell_lt h0
mutual
theorem NIn.keep {W W' : World} {P Q : Nat → Prop} (hs : ∀ k, P k → k < W.heap.size → W'.heap[k]? = W.heap[k]?) (hq : ∀ k, P k → k < W.heap.size → Q k) : ∀ (n : Nd) (v : Value), NIn W P n v → NIn W' Q n v
 | .mk k f t a s l, v, h => by
  rw [NIn] at h ⊢
  obtain ⟨ia, ic, hv, hc, hl⟩ := h
  refine ⟨ia, ic, hv, hc, fun hp => ?_⟩
  obtain ⟨b, o, hA, hP, hc⟩ := hl hp
  have hlt : b < W.heap.size := hc.lt hp
  exact ⟨b, o, hA, hq b hP hlt, NLn.keep hs hq b hP l o hc⟩
theorem NLn.keep {W W' : World} {P Q : Nat → Prop} (hs : ∀ k, P k → k < W.heap.size → W'.heap[k]? = W.heap[k]?) (hq : ∀ k, P k → k < W.heap.size → Q k) (b : Nat) (hb : P b) : ∀ (l : List Nd) (o : Nat), NLn W P b o l → NLn W' Q b o l
 | [], o, _ => by rw [NLn]; trivial
 | n :: l, o, h => by
  rw [NLn] at h ⊢
  obtain ⟨⟨v0, v1, v2, v3, v4, v5, h0, h1, h2, h3, h4, h5, hj⟩, hl⟩ := h
  exact ⟨⟨v0, v1, v2, v3, v4, v5, ncell_blk (fun hx => hs b hb hx) h0, ncell_blk (fun hx => hs b hb hx) h1, ncell_blk (fun hx => hs b hb hx) h2, ncell_blk (fun hx => hs b hb hx) h3, ncell_blk (fun hx => hs b hb hx) h4, ncell_blk (fun hx => hs b hb hx) h5, NIn.keep hs hq n _ hj⟩, NLn.keep hs hq b hb l (o + 6) hl⟩
end
theorem SIn.keep {W W' : World} {P Q : Nat → Prop} {l : List Nd} {ia : Option Addr} (hs : ∀ k, P k → k < W.heap.size → W'.heap[k]? = W.heap[k]?) (hq : ∀ k, P k → k < W.heap.size → Q k) (h : SIn W P l ia) : SIn W' Q l ia := by
 intro hp
 obtain ⟨b, o, hA, hP, hc⟩ := h hp
 exact ⟨b, o, hA, hq b hP (hc.lt hp), NLn.keep hs hq b hP l o hc⟩
theorem NIn.below {W W' : World} {P : Nat → Prop} {n : Nd} {v : Value} (h : NIn W P n v) (hb : Below W.heap.size W W') : NIn W' P n v := NIn.keep (fun k _ hk => hb.block k hk) (fun _ hP _ => hP) n v h
theorem SIn.below {W W' : World} {P : Nat → Prop} {l : List Nd} {ia : Option Addr} (h : SIn W P l ia) (hb : Below W.heap.size W W') : SIn W' P l ia := h.keep (fun k _ hk => hb.block k hk) (fun _ hP _ => hP)
theorem SIn.any {W : World} {P : Nat → Prop} {l : List Nd} {ia : Option Addr} (h : SIn W P l ia) : SIn W (fun _ => True) l ia := h.keep (fun _ _ _ => rfl) (fun _ _ _ => trivial)
theorem NIn.any {W : World} {P : Nat → Prop} {n : Nd} {v : Value} (h : NIn W P n v) : NIn W (fun _ => True) n v := NIn.keep (fun _ _ _ => rfl) (fun _ _ _ => trivial) n v h
theorem NLn.at {W : World} {P : Nat → Prop} {b : Nat} : ∀ {l : List Nd} {o : Nat}, NLn W P b o l → ∀ {i : Nat} {n : Nd}, l[i]? = some n → ∃ v0 v1 v2 v3 v4 v5, W.cell? ⟨b, o + i * 6, none⟩ = some v0 ∧ W.cell? ⟨b, o + i * 6 + 1, none⟩ = some v1 ∧ W.cell? ⟨b, o + i * 6 + 2, none⟩ = some v2 ∧ W.cell? ⟨b, o + i * 6 + 3, none⟩ = some v3 ∧ W.cell? ⟨b, o + i * 6 + 4, none⟩ = some v4 ∧ W.cell? ⟨b, o + i * 6 + 5, none⟩ = some v5 ∧ NIn W P n (.agg #[v0, v1, v2, v3, v4, v5])
 | [], _, _, _, _, hj => by simp at hj
 | n0 :: l, o, h, 0, n, hj => by
  rw [NLn] at h
  obtain rfl : n0 = n := by simpa using hj
  obtain ⟨⟨v0, v1, v2, v3, v4, v5, h0, h1, h2, h3, h4, h5, hj⟩, _⟩ := h
  exact ⟨v0, v1, v2, v3, v4, v5, by simpa using h0, by simpa using h1, by simpa using h2, by simpa using h3, by simpa using h4, by simpa using h5, hj⟩
 | n0 :: l, o, h, i + 1, n, hj => by
  rw [NLn] at h
  obtain ⟨v0, v1, v2, v3, v4, v5, h0, h1, h2, h3, h4, h5, hj⟩ := NLn.at h.2 (i := i) (n := n) (by simpa using hj)
  have e : o + 6 + i * 6 = o + (i + 1) * 6 := by omega
  rw [e] at h0 h1 h2 h3 h4 h5
  exact ⟨v0, v1, v2, v3, v4, v5, h0, h1, h2, h3, h4, h5, hj⟩
theorem NLn.row {W : World} {P : Nat → Prop} {b : Nat} {l : List Nd} {o : Nat} (h : NLn W P b o l) {i : Nat} {n : Nd} (hi : l[i]? = some n) : ∃ ia ic, W.cell? ⟨b, o + i * 6, none⟩ = some (.int .i64 n.kind) ∧ W.cell? ⟨b, o + i * 6 + 1, none⟩ = some (.int .i64 n.fro) ∧ W.cell? ⟨b, o + i * 6 + 2, none⟩ = some (.int .i64 n.till) ∧ W.cell? ⟨b, o + i * 6 + 3, none⟩ = some (.int .i64 n.at') ∧ W.cell? ⟨b, o + i * 6 + 4, none⟩ = some (.string n.name) ∧ W.cell? ⟨b, o + i * 6 + 5, none⟩ = some (.slice ia n.kids.length ic) ∧ n.kids.length ≤ ic ∧ SIn W P n.kids ia := by
 obtain ⟨v0, v1, v2, v3, v4, v5, h0, h1, h2, h3, h4, h5, hj⟩ := h.at hi
 obtain ⟨ia, ic, hv, hcc, hs⟩ := hj.open
 simp only [Value.agg.injEq, Array.mk.injEq, List.cons.injEq, and_true] at hv
 obtain ⟨rfl, rfl, rfl, rfl, rfl, rfl⟩ := hv
 exact ⟨ia, ic, h0, h1, h2, h3, h4, h5, hcc, hs⟩
theorem NLn.drop {W : World} {P : Nat → Prop} {b : Nat} : ∀ {l : List Nd} {o : Nat}, NLn W P b o l → ∀ i, i ≤ l.length → NLn W P b (o + i * 6) (l.drop i)
 | l, o, h, 0, _ => by simpa using h
 | [], o, h, i + 1, hi => by simp at hi
 | n :: l, o, h, i + 1, hi => by
  rw [NLn] at h
  have := h.2.drop i (by simpa using hi)
  have e : o + 6 + i * 6 = o + (i + 1) * 6 := by omega
  rw [e] at this
  exact this
end Go.Proofs.YtmlclgkhnekmnaaGreatDoor
namespace Go.Proofs.YtmlclgkhnekmnaaGreatDoor
open Go.RowKit
inductive Sc where
 | nothing | imp | decl | typed (k : Int) (own : Bool) | params | ty | basic | own | far | ident | block | stmt | var | iff | forr | define | assign | path | callS | call | expr | level (k : Int) | operand | sel | keyed
deriving DecidableEq
def outs (n : Nd) : List Nd := if n.kind = 33 ∨ n.kind = 32 then [] else if n.kind = 27 then n.kids.take 1 else n.kids
def bare : Nat → Nd → Bool
 | 0, _ => true
 | f + 1, n => !(n.kind == 28) && (outs n).all (bare f)
section
variable (tk : Int → ByteArray → Bool)
end
mutual
def depth : Nd → Nat
 | .mk k _ _ _ _ l => if k = 0 then 0 else depthL l + 1
def depthL : List Nd → Nat
 | [] => 0
 | n :: l => max (depth n) (depthL l)
end
end Go.Proofs.YtmlclgkhnekmnaaGreatDoor
namespace Go.Proofs.YtmlclgkhnekmnaaGreatDoor
open Go.RowKit
abbrev TT : Nat → Prop := fun _ => True
def FnV (D : Nd → Prop) (W : World) (v : Value) (σ : Nd → Bool) : Prop := ∃ (g : FuncId) (cap : Array Value), v = .func (.func g) #[] cap ∧ Enters Tryz.prog g ∧
 ∀ w, Below W.heap.size W w → ∀ T u, D T → NIn w TT T u → Calls Tryz.prog g (#[u] ++ cap) w fun e w' => e = .returned (.bool (σ T)) ∧ Below w.heap.size w w'
def PtEnd (o : Option (List Nd)) (e : Ending) (w' : World) : Prop := match o with
 | none => ∃ A n c, e = .returned (.tuple #[.slice A n c, .bool false])
 | some r => ∃ A c, e = .returned (.tuple #[.slice A r.length c, .bool true]) ∧ r.length ≤ c ∧ SIn w' TT r A
def PtV (D : Nd → Prop) (W : World) (v : Value) (π : List Nd → Option (List Nd)) : Prop := (∀ l r, π l = some r → r <:+ l) ∧ ∃ (g : FuncId) (cap : Array Value), v = .func (.func g) #[] cap ∧ Enters Tryz.prog g ∧
 ∀ w, Below W.heap.size W w → ∀ (l : List Nd) A c, (∀ t ∈ l, D t) → l.length ≤ 1000000 → l.length ≤ c → SIn w TT l A → Calls Tryz.prog g (#[.slice A l.length c] ++ cap) w fun e w' => PtEnd (π l) e w' ∧ Below w.heap.size w w'
def NmV (O : ByteArray → Prop) (W : World) (v : Value) (μ : ByteArray → Bool) : Prop := ∃ (g : FuncId) (cap : Array Value), v = .func (.func g) #[] cap ∧ Enters Tryz.prog g ∧
 ∀ w, Below W.heap.size W w → ∀ s : ByteArray, s.size ≤ 1000000 → O s → Calls Tryz.prog g (#[.string s] ++ cap) w fun e w' => e = .returned (.bool (μ s)) ∧ Below w.heap.size w w'
theorem FnV.below {D : Nd → Prop} {W W' : World} {v : Value} {σ : Nd → Bool} (h : FnV D W v σ) (hb : Below W.heap.size W W') : FnV D W' v σ := by
 obtain ⟨g, cap, rfl, he, h⟩ := h
 exact ⟨g, cap, rfl, he, fun w hw => h w (hb.trans (hw.mono hb.size))⟩
theorem PtV.below {D : Nd → Prop} {W W' : World} {v : Value} {π : List Nd → Option (List Nd)} (h : PtV D W v π) (hb : Below W.heap.size W W') : PtV D W' v π := by
 obtain ⟨hs, g, cap, rfl, he, h⟩ := h
 exact ⟨hs, g, cap, rfl, he, fun w hw => h w (hb.trans (hw.mono hb.size))⟩
theorem NmV.below {O : ByteArray → Prop} {W W' : World} {v : Value} {μ : ByteArray → Bool} (h : NmV O W v μ) (hb : Below W.heap.size W W') : NmV O W' v μ := by
 obtain ⟨g, cap, rfl, he, h⟩ := h
 exact ⟨g, cap, rfl, he, fun w hw => h w (hb.trans (hw.mono hb.size))⟩
def FRow (D : Nd → Prop) (W : World) (ss : List (Nd → Bool)) (A : Option Addr) : Prop := 0 < ss.length → ∃ b o, A = some ⟨b, o, none⟩ ∧ ∀ i s, ss[i]? = some s → ∃ v, W.cell? ⟨b, o + i, none⟩ = some v ∧ FnV D W v s
def PRow (D : Nd → Prop) (W : World) (ps : List (List Nd → Option (List Nd))) (A : Option Addr) : Prop := 0 < ps.length → ∃ b o, A = some ⟨b, o, none⟩ ∧ ∀ i p, ps[i]? = some p → ∃ v, W.cell? ⟨b, o + i, none⟩ = some v ∧ PtV D W v p
theorem FRow.below {D : Nd → Prop} {W W' : World} {ss : List (Nd → Bool)} {A : Option Addr} (h : FRow D W ss A) (hb : Below W.heap.size W W') : FRow D W' ss A := by
 intro hl
 obtain ⟨b, o, hA, h⟩ := h hl
 refine ⟨b, o, hA, fun i s hi => ?_⟩
 obtain ⟨v, hc, hv⟩ := h i s hi
 exact ⟨v, ncell_blk (fun hx => hb.block b hx) hc, hv.below hb⟩
theorem PRow.below {D : Nd → Prop} {W W' : World} {ps : List (List Nd → Option (List Nd))} {A : Option Addr} (h : PRow D W ps A) (hb : Below W.heap.size W W') : PRow D W' ps A := by
 intro hl
 obtain ⟨b, o, hA, h⟩ := h hl
 refine ⟨b, o, hA, fun i s hi => ?_⟩
 obtain ⟨v, hc, hv⟩ := h i s hi
 exact ⟨v, ncell_blk (fun hx => hb.block b hx) hc, hv.below hb⟩
end Go.Proofs.YtmlclgkhnekmnaaGreatDoor
