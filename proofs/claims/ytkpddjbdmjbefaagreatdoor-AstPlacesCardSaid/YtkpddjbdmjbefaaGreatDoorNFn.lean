/-
  TREES OF PROGRAMS, plainly (Nd), how a tree lies in memory (NIn, NLn, SIn), what is kept of it. No program; no condition but those that each theorem says.
  WHICH TREES THE GRAMMAR MAKES, plainly: shapes of trees (shp), by the chapter's table; tk says which texts are tokens of which kind. Depth, sameness. No program; no condition but those that each theorem says.
  FUNCTION VALUES that tell of trees (FnV), of rows of trees (PtV), of names (NmV): what a call of one gives in every world behind; rows of such in memory.
-/
import Derived.Test.YtkpddjbdmjbefaaGreatDoorLAwake
import Derived.Shelf.Abstract
namespace Go.Proofs.YtkpddjbdmjbefaaGreatDoor
open Go.RowKit

/-- A tree: Kind, From, To, At, Name, Kids. -/
inductive Nd where
  | mk (k f t a : Int) (s : ByteArray) (l : List Nd)
namespace Nd
def kind : Nd → Int | .mk k _ _ _ _ _ => k
def fro : Nd → Int | .mk _ f _ _ _ _ => f
def till : Nd → Int | .mk _ _ t _ _ _ => t
def at' : Nd → Int | .mk _ _ _ a _ _ => a
def name : Nd → ByteArray | .mk _ _ _ _ s _ => s
def kids : Nd → List Nd | .mk _ _ _ _ _ l => l
theorem eta (n : Nd) : n = .mk n.kind n.fro n.till n.at' n.name n.kids := by cases n; rfl
end Nd
mutual
/-- Nodes and bytes of names. -/
def sz : Nd → Nat
  | .mk _ _ _ _ s l => 1 + s.size + szL l
def szL : List Nd → Nat
  | [] => 0
  | n :: l => sz n + szL l
end
theorem sz_eq (n : Nd) : sz n = 1 + n.name.size + szL n.kids := by cases n; rw [sz]; rfl
theorem sz_pos (n : Nd) : 0 < sz n := by rw [sz_eq]; omega
theorem szL_append : ∀ l m : List Nd, szL (l ++ m) = szL l + szL m
  | [], m => by rw [szL]; simp
  | n :: l, m => by rw [List.cons_append, szL, szL, szL_append l m]; omega
theorem szL_at : ∀ {l : List Nd} {i : Nat} {n : Nd}, l[i]? = some n → sz n ≤ szL l
  | [], _, _, h => by simp at h
  | n :: l, 0, m, h => by
    obtain rfl : n = m := by simpa using h
    rw [szL]; omega
  | n :: l, i + 1, m, h => by
    have := szL_at (l := l) (i := i) (n := m) (by simpa using h)
    rw [szL]; omega
theorem szL_len : ∀ l : List Nd, l.length ≤ szL l
  | [] => by simp
  | n :: l => by have := szL_len l; have := sz_pos n; rw [szL, List.length_cons]; omega
theorem szL_drop (l : List Nd) (i : Nat) : szL (l.drop i) ≤ szL l := by
  have := szL_append (l.take i) (l.drop i)
  rw [List.take_append_drop] at this
  omega
theorem sz_kid {n m : Nd} {i : Nat} (h : n.kids[i]? = some m) : sz m < sz n := by
  have := szL_at h
  rw [sz_eq n]; omega
mutual
/-- A tree in memory: what a slot holds of it, all blocks that it leads to of a kind. -/
def NIn (W : World) (P : Nat → Prop) : Nd → Value → Prop
  | .mk k f t a s l, v => ∃ (ia : Option Addr) (ic : Nat), v = .agg #[.int .i64 k, .int .i64 f, .int .i64 t, .int .i64 a, .string s, .slice ia l.length ic] ∧ l.length ≤ ic ∧
      (0 < l.length → ∃ b o, ia = some ⟨b, o, none⟩ ∧ P b ∧ NLn W P b o l)
/-- Trees in memory, six cells each, from a place of a block on. -/
def NLn (W : World) (P : Nat → Prop) (b : Nat) : Nat → List Nd → Prop
  | _, [] => True
  | o, n :: l => (∃ v0 v1 v2 v3 v4 v5, W.cell? ⟨b, o, none⟩ = some v0 ∧ W.cell? ⟨b, o + 1, none⟩ = some v1 ∧ W.cell? ⟨b, o + 2, none⟩ = some v2 ∧ W.cell? ⟨b, o + 3, none⟩ = some v3 ∧ W.cell? ⟨b, o + 4, none⟩ = some v4 ∧ W.cell? ⟨b, o + 5, none⟩ = some v5 ∧
      NIn W P n (.agg #[v0, v1, v2, v3, v4, v5])) ∧ NLn W P b (o + 6) l
end
/-- A slice of trees in memory. -/
def SIn (W : World) (P : Nat → Prop) (l : List Nd) (ia : Option Addr) : Prop := 0 < l.length → ∃ b o, ia = some ⟨b, o, none⟩ ∧ P b ∧ NLn W P b o l
theorem NIn.open {W : World} {P : Nat → Prop} {n : Nd} {v : Value} (h : NIn W P n v) : ∃ (ia : Option Addr) (ic : Nat), v = .agg #[.int .i64 n.kind, .int .i64 n.fro, .int .i64 n.till, .int .i64 n.at', .string n.name, .slice ia n.kids.length ic] ∧ n.kids.length ≤ ic ∧ SIn W P n.kids ia := by
  cases n
  rw [NIn] at h
  exact h
theorem NIn.shut {W : World} {P : Nat → Prop} {n : Nd} {ia : Option Addr} {ic : Nat} (hc : n.kids.length ≤ ic) (h : SIn W P n.kids ia) : NIn W P n (.agg #[.int .i64 n.kind, .int .i64 n.fro, .int .i64 n.till, .int .i64 n.at', .string n.name, .slice ia n.kids.length ic]) := by
  cases n
  rw [NIn]
  exact ⟨ia, ic, rfl, hc, h⟩
theorem ncell_lt {W : World} {b i : Nat} {v : Value} (hc : W.cell? ⟨b, i, none⟩ = some v) : b < W.heap.size := by
  rcases Nat.lt_or_ge b W.heap.size with h' | h'
  · exact h'
  · simp [World.cell?, Array.getElem?_eq_none h'] at hc
theorem ncell_blk {W W' : World} {b i : Nat} {v : Value} (h : b < W.heap.size → W'.heap[b]? = W.heap[b]?) (hc : W.cell? ⟨b, i, none⟩ = some v) : W'.cell? ⟨b, i, none⟩ = some v := by
  rw [cell_block (h (ncell_lt hc))]; exact hc
theorem NLn.lt {W : World} {P : Nat → Prop} {b o : Nat} {l : List Nd} (h : NLn W P b o l) (hl : 0 < l.length) : b < W.heap.size := by
  cases l with
  | nil => simp at hl
  | cons n l =>
    rw [NLn] at h
    obtain ⟨⟨v0, _, _, _, _, _, h0, _⟩, _⟩ := h
    exact ncell_lt h0
mutual
theorem NIn.keep {W W' : World} {P Q : Nat → Prop} (hs : ∀ k, P k → k < W.heap.size → W'.heap[k]? = W.heap[k]?) (hq : ∀ k, P k → k < W.heap.size → Q k) : ∀ (n : Nd) (v : Value), NIn W P n v → NIn W' Q n v
  | .mk k f t a s l, v, h => by
    rw [NIn] at h ⊢
    obtain ⟨ia, ic, hv, hc, hl⟩ := h
    refine ⟨ia, ic, hv, hc, fun hp => ?_⟩
    obtain ⟨b, o, hA, hP, hc⟩ := hl hp
    have hlt : b < W.heap.size := hc.lt hp
    exact ⟨b, o, hA, hq b hP hlt, NLn.keep hs hq b hP l o hc⟩
theorem NLn.keep {W W' : World} {P Q : Nat → Prop} (hs : ∀ k, P k → k < W.heap.size → W'.heap[k]? = W.heap[k]?) (hq : ∀ k, P k → k < W.heap.size → Q k) (b : Nat) (hb : P b) : ∀ (l : List Nd) (o : Nat), NLn W P b o l → NLn W' Q b o l
  | [], o, _ => by rw [NLn]; trivial
  | n :: l, o, h => by
    rw [NLn] at h ⊢
    obtain ⟨⟨v0, v1, v2, v3, v4, v5, h0, h1, h2, h3, h4, h5, hj⟩, hl⟩ := h
    exact ⟨⟨v0, v1, v2, v3, v4, v5, ncell_blk (fun hx => hs b hb hx) h0, ncell_blk (fun hx => hs b hb hx) h1, ncell_blk (fun hx => hs b hb hx) h2, ncell_blk (fun hx => hs b hb hx) h3, ncell_blk (fun hx => hs b hb hx) h4, ncell_blk (fun hx => hs b hb hx) h5, NIn.keep hs hq n _ hj⟩, NLn.keep hs hq b hb l (o + 6) hl⟩
end
theorem SIn.keep {W W' : World} {P Q : Nat → Prop} {l : List Nd} {ia : Option Addr} (hs : ∀ k, P k → k < W.heap.size → W'.heap[k]? = W.heap[k]?) (hq : ∀ k, P k → k < W.heap.size → Q k) (h : SIn W P l ia) : SIn W' Q l ia := by
  intro hp
  obtain ⟨b, o, hA, hP, hc⟩ := h hp
  exact ⟨b, o, hA, hq b hP (hc.lt hp), NLn.keep hs hq b hP l o hc⟩
theorem NIn.below {W W' : World} {P : Nat → Prop} {n : Nd} {v : Value} (h : NIn W P n v) (hb : Below W.heap.size W W') : NIn W' P n v := NIn.keep (fun k _ hk => hb.block k hk) (fun _ hP _ => hP) n v h
theorem SIn.below {W W' : World} {P : Nat → Prop} {l : List Nd} {ia : Option Addr} (h : SIn W P l ia) (hb : Below W.heap.size W W') : SIn W' P l ia := h.keep (fun k _ hk => hb.block k hk) (fun _ hP _ => hP)
theorem SIn.any {W : World} {P : Nat → Prop} {l : List Nd} {ia : Option Addr} (h : SIn W P l ia) : SIn W (fun _ => True) l ia := h.keep (fun _ _ _ => rfl) (fun _ _ _ => trivial)
theorem NIn.any {W : World} {P : Nat → Prop} {n : Nd} {v : Value} (h : NIn W P n v) : NIn W (fun _ => True) n v := NIn.keep (fun _ _ _ => rfl) (fun _ _ _ => trivial) n v h
/-- One tree of many. -/
theorem NLn.at {W : World} {P : Nat → Prop} {b : Nat} : ∀ {l : List Nd} {o : Nat}, NLn W P b o l → ∀ {i : Nat} {n : Nd}, l[i]? = some n → ∃ v0 v1 v2 v3 v4 v5, W.cell? ⟨b, o + i * 6, none⟩ = some v0 ∧ W.cell? ⟨b, o + i * 6 + 1, none⟩ = some v1 ∧ W.cell? ⟨b, o + i * 6 + 2, none⟩ = some v2 ∧ W.cell? ⟨b, o + i * 6 + 3, none⟩ = some v3 ∧ W.cell? ⟨b, o + i * 6 + 4, none⟩ = some v4 ∧ W.cell? ⟨b, o + i * 6 + 5, none⟩ = some v5 ∧ NIn W P n (.agg #[v0, v1, v2, v3, v4, v5])
  | [], _, _, _, _, hj => by simp at hj
  | n0 :: l, o, h, 0, n, hj => by
    rw [NLn] at h
    obtain rfl : n0 = n := by simpa using hj
    obtain ⟨⟨v0, v1, v2, v3, v4, v5, h0, h1, h2, h3, h4, h5, hj⟩, _⟩ := h
    exact ⟨v0, v1, v2, v3, v4, v5, by simpa using h0, by simpa using h1, by simpa using h2, by simpa using h3, by simpa using h4, by simpa using h5, hj⟩
  | n0 :: l, o, h, i + 1, n, hj => by
    rw [NLn] at h
    obtain ⟨v0, v1, v2, v3, v4, v5, h0, h1, h2, h3, h4, h5, hj⟩ := NLn.at h.2 (i := i) (n := n) (by simpa using hj)
    have e : o + 6 + i * 6 = o + (i + 1) * 6 := by omega
    rw [e] at h0 h1 h2 h3 h4 h5
    exact ⟨v0, v1, v2, v3, v4, v5, h0, h1, h2, h3, h4, h5, hj⟩
/-- The same, its cells written out. -/
theorem NLn.row {W : World} {P : Nat → Prop} {b : Nat} {l : List Nd} {o : Nat} (h : NLn W P b o l) {i : Nat} {n : Nd} (hi : l[i]? = some n) : ∃ ia ic, W.cell? ⟨b, o + i * 6, none⟩ = some (.int .i64 n.kind) ∧ W.cell? ⟨b, o + i * 6 + 1, none⟩ = some (.int .i64 n.fro) ∧ W.cell? ⟨b, o + i * 6 + 2, none⟩ = some (.int .i64 n.till) ∧ W.cell? ⟨b, o + i * 6 + 3, none⟩ = some (.int .i64 n.at') ∧ W.cell? ⟨b, o + i * 6 + 4, none⟩ = some (.string n.name) ∧ W.cell? ⟨b, o + i * 6 + 5, none⟩ = some (.slice ia n.kids.length ic) ∧ n.kids.length ≤ ic ∧ SIn W P n.kids ia := by
  obtain ⟨v0, v1, v2, v3, v4, v5, h0, h1, h2, h3, h4, h5, hj⟩ := h.at hi
  obtain ⟨ia, ic, hv, hcc, hs⟩ := hj.open
  simp only [Value.agg.injEq, Array.mk.injEq, List.cons.injEq, and_true] at hv
  obtain ⟨rfl, rfl, rfl, rfl, rfl, rfl⟩ := hv
  exact ⟨ia, ic, h0, h1, h2, h3, h4, h5, hcc, hs⟩
theorem NLn.drop {W : World} {P : Nat → Prop} {b : Nat} : ∀ {l : List Nd} {o : Nat}, NLn W P b o l → ∀ i, i ≤ l.length → NLn W P b (o + i * 6) (l.drop i)
  | l, o, h, 0, _ => by simpa using h
  | [], o, h, i + 1, hi => by simp at hi
  | n :: l, o, h, i + 1, hi => by
    rw [NLn] at h
    have := h.2.drop i (by simpa using hi)
    have e : o + 6 + i * 6 = o + (i + 1) * 6 := by omega
    rw [e] at this
    exact this
end Go.Proofs.YtkpddjbdmjbefaaGreatDoor
namespace Go.Proofs.YtkpddjbdmjbefaaGreatDoor
open Go.RowKit

/-- A row of children begins as it must: what is left of it. -/
def oneP (l : List (Nd → Bool)) : List Nd → Option (List Nd)
  | [] => none
  | n :: r => if l.any (fun s => s n) then some r else none
def manyP (s : Nd → Bool) (l : List Nd) : Option (List Nd) := some (l.dropWhile s)
def goP : List (List Nd → Option (List Nd)) → List Nd → Option (List Nd)
  | [], l => some l
  | p :: ps, l => match p l with
    | none => none
    | some r => goP ps r
def doneP : Option (List Nd) → Bool
  | some [] => true
  | _ => false
def madeP (n : Nd) (m : ByteArray → Bool) (ps : List (List Nd → Option (List Nd))) : Bool := m n.name && doneP (goP ps n.kids)
def nmB (s : ByteArray) : Bool := nameB s.data.toList
def emB (s : ByteArray) : Bool := s.data.toList == []
def wdB (ws : List (List UInt8)) (s : ByteArray) : Bool := ws.any fun w => s.data.toList == w
/-- An operator's level (0: it is none). -/
def lvl (s : ByteArray) : Int :=
  if s.data.toList = [124, 124] then 1 else if s.data.toList = [38, 38] then 2
  else if wdB [[61, 61], [33, 61], [60], [60, 61], [62], [62, 61]] s then 3
  else if wdB [[43], [45]] s then 4 else if wdB [[42], [47], [37]] s then 5 else 0
def opB (s : ByteArray) : Bool := decide (0 < lvl s)
def basicW : List (List UInt8) := [[105, 110, 116], [98, 111, 111, 108], [115, 116, 114, 105, 110, 103], [102, 108, 111, 97, 116, 54, 52]]
def builtW : List (List UInt8) := [[105, 110, 116], [102, 108, 111, 97, 116, 54, 52], [108, 101, 110], [112, 114, 105, 110, 116], [112, 97, 110, 105, 99]]
/-- The words for shapes. -/
inductive Sc where
  | nothing | imp | decl | typed (k : Int) (own : Bool) | params | ty | basic | own | far | ident | block | stmt | var | iff | forr | define | assign | path | callS | call | expr | level (k : Int) | operand | sel | keyed
deriving DecidableEq
/-- How far a word is from what its children are. -/
def Sc.rank : Sc → Nat
  | .stmt => 6 | .call => 5 | .expr => 4 | .level _ => 3 | .operand => 2 | .block => 1 | .iff => 1 | .forr => 1 | .define => 1 | .assign => 1 | .callS => 1 | .var => 1 | .path => 1 | .decl => 1 | .ty => 1 | .sel => 1 | _ => 0
/-- What stands right below a node of an expression, but not within brackets of its own. -/
def outs (n : Nd) : List Nd := if n.kind = 33 ∨ n.kind = 32 then [] else if n.kind = 27 then n.kids.take 1 else n.kids
/-- Is there no literal outside of brackets? (With fuel.) -/
def bare : Nat → Nd → Bool
  | 0, _ => true
  | f + 1, n => !(n.kind == 28) && (outs n).all (bare f)
section
variable (tk : Int → ByteArray → Bool)
def shp : Nat → Sc → Nd → Bool
  | 0, _, _ => false
  | _ + 1, .nothing, n => n.kind == 0 && madeP n emB []
  | _ + 1, .imp, n => n.kind == 2 && madeP n nmB []
  | f + 1, .decl, n =>
    if n.kind = 3 then madeP n nmB [manyP (shp f (.typed 4 false))]
    else if n.kind = 5 then madeP n nmB [oneP [shp f (.typed 7 true), shp f .nothing], oneP [shp f .params], oneP [shp f .ty, shp f .nothing], oneP [shp f .block]]
    else false
  | f + 1, .typed k own, n => n.kind == k && madeP n nmB [oneP [shp f (if own then .own else .ty)]]
  | f + 1, .params, n => n.kind == 6 && madeP n emB [manyP (shp f (.typed 7 false))]
  | f + 1, .ty, n => shp f .basic n || shp f .own n || shp f .far n
  | _ + 1, .basic, n => n.kind == 8 && madeP n (wdB basicW) []
  | _ + 1, .own, n => n.kind == 8 && madeP n nmB []
  | f + 1, .far, n => n.kind == 9 && madeP n nmB [oneP [shp f .ident]]
  | _ + 1, .ident, n => n.kind == 25 && madeP n nmB []
  | f + 1, .block, n => n.kind == 10 && madeP n emB [manyP (shp f .stmt)]
  | f + 1, .stmt, n =>
    if n.kind = 11 then shp f .var n
    else if n.kind = 10 then shp f .block n
    else if n.kind = 14 then shp f .iff n
    else if n.kind = 15 then shp f .forr n
    else if n.kind = 16 then madeP n nmB [oneP [shp f .forr]]
    else if n.kind = 17 ∨ n.kind = 18 then madeP n emB [] || madeP n nmB []
    else if n.kind = 19 then madeP n emB [] || madeP n emB [oneP [shp f .expr]]
    else shp f .define n || shp f .assign n || shp f .callS n
  | f + 1, .var, n => madeP n nmB [oneP [shp f .ty], oneP [shp f .nothing]] || madeP n nmB [oneP [shp f .ty, shp f .nothing], oneP [shp f .expr]]
  | f + 1, .iff, n => n.kind == 14 && madeP n emB [oneP [fun t => shp f .expr t && bare (f + 1) t], oneP [shp f .block], oneP [shp f .nothing, shp f .iff, shp f .block]]
  | f + 1, .forr, n => n.kind == 15 && madeP n emB [oneP [fun t => shp f .define t && bare (f + 1) t, fun t => shp f .assign t && bare (f + 1) t, fun t => shp f .callS t && bare (f + 1) t, shp f .nothing], oneP [fun t => shp f .expr t && bare (f + 1) t, shp f .nothing], oneP [fun t => shp f .assign t && bare (f + 1) t, fun t => shp f .callS t && bare (f + 1) t, shp f .nothing], oneP [shp f .block]]
  | f + 1, .define, n => n.kind == 12 && madeP n nmB [oneP [shp f .expr]]
  | f + 1, .assign, n => n.kind == 13 && madeP n emB [oneP [shp f .path], oneP [shp f .expr]]
  | f + 1, .path, n => shp f .ident n || (n.kind == 26 && madeP n nmB [oneP [shp f .path]])
  | f + 1, .callS, n => n.kind == 20 && madeP n emB [oneP [shp f .call]]
  | f + 1, .call, n => (n.kind == 27 || (n.kind == 32 && wdB [[112, 114, 105, 110, 116], [112, 97, 110, 105, 99]] n.name)) && shp f .expr n
  | f + 1, .expr, n => shp f (.level 1) n
  | f + 1, .level k, n =>
    if n.kind = 31 then decide (k ≤ lvl n.name) && madeP n opB [oneP [shp f (.level (lvl n.name))], oneP [shp f (.level (lvl n.name + 1))]]
    else if n.kind = 30 then decide (k ≤ 6) && madeP n (wdB [[45], [33]]) [oneP [shp f (.level 6)]]
    else shp f .operand n
  | f + 1, .operand, n =>
    if n.kind = 21 then madeP n (tk 3) []
    else if n.kind = 22 then madeP n (tk 4) []
    else if n.kind = 23 then madeP n (tk 5) []
    else if n.kind = 24 then madeP n (wdB [[116, 114, 117, 101], [102, 97, 108, 115, 101]]) []
    else if n.kind = 25 then shp f .ident n
    else if n.kind = 33 then madeP n emB [oneP [shp f .expr]]
    else if n.kind = 26 then shp f .sel n
    else if n.kind = 27 then madeP n emB [oneP [shp f .ident, shp f .sel], manyP (shp f .expr)]
    else if n.kind = 32 then madeP n (wdB builtW) [manyP (shp f .expr)]
    else if n.kind = 28 then madeP n emB [oneP [shp f .own, shp f .far], manyP (shp f .keyed)]
    else false
  | f + 1, .sel, n => n.kind == 26 && madeP n nmB [oneP [shp f (.level 7)]]
  | f + 1, .keyed, n => n.kind == 29 && madeP n nmB [oneP [shp f .expr]]
/-- A file, of so much fuel. -/
def fileB (f : Nat) (n : Nd) : Bool := n.kind == 1 && madeP n nmB [manyP (shp tk f .imp), manyP (shp tk f .decl)]
end
mutual
def depth : Nd → Nat
  | .mk k _ _ _ _ l => if k = 0 then 0 else depthL l + 1
def depthL : List Nd → Nat
  | [] => 0
  | n :: l => max (depth n) (depthL l)
end
/-- Check's answer. -/
def chk (tk : Int → ByteArray → Bool) (f : Nat) (n : Nd) : Int := if 64 < depth n then 3 else if fileB tk f n then 0 else 4
theorem goP_suffix : ∀ {ps : List (List Nd → Option (List Nd))}, (∀ p ∈ ps, ∀ l r, p l = some r → r <:+ l) → ∀ {l r : List Nd}, goP ps l = some r → r <:+ l
  | [], _, l, r, h => by
    rw [goP] at h
    obtain rfl : l = r := by simpa using h
    exact List.suffix_rfl
  | p :: ps, hp, l, r, h => by
    rw [goP] at h
    cases hx : p l with
    | none => rw [hx] at h; cases h
    | some m =>
      rw [hx] at h
      exact (goP_suffix (fun q hq => hp q (List.mem_cons_of_mem _ hq)) h).trans (hp p (List.mem_cons_self ..) _ _ hx)
theorem oneP_suffix (ss : List (Nd → Bool)) (l r : List Nd) (h : oneP ss l = some r) : r <:+ l := by
  cases l with
  | nil => cases h
  | cons n l =>
    unfold oneP at h
    dsimp only at h
    by_cases hc : (ss.any fun s => s n) = true
    · rw [if_pos hc] at h
      obtain rfl : l = r := by simpa using h
      exact List.suffix_cons ..
    · rw [if_neg hc] at h
      cases h
theorem manyP_suffix (s : Nd → Bool) (l r : List Nd) (h : manyP s l = some r) : r <:+ l := by
  unfold manyP at h
  obtain rfl : l.dropWhile s = r := by simpa using h
  exact List.dropWhile_suffix _
end Go.Proofs.YtkpddjbdmjbefaaGreatDoor
namespace Go.Proofs.YtkpddjbdmjbefaaGreatDoor
open Go.RowKit

abbrev TT : Nat → Prop := fun _ => True
/-- A function value that tells of each tree of a kind D what σ says. -/
def FnV (D : Nd → Prop) (W : World) (v : Value) (σ : Nd → Bool) : Prop := ∃ (g : FuncId) (cap : Array Value), v = .func (.func g) #[] cap ∧ Enters Tryz.prog g ∧
  ∀ w, Below W.heap.size W w → ∀ T u, D T → NIn w TT T u → Calls Tryz.prog g (#[u] ++ cap) w fun e w' => e = .returned (.bool (σ T)) ∧ Below w.heap.size w w'
def PtEnd (o : Option (List Nd)) (e : Ending) (w' : World) : Prop := match o with
  | none => ∃ A n c, e = .returned (.tuple #[.slice A n c, .bool false])
  | some r => ∃ A c, e = .returned (.tuple #[.slice A r.length c, .bool true]) ∧ r.length ≤ c ∧ SIn w' TT r A
/-- A function value that takes off the beginning of rows of such trees. -/
def PtV (D : Nd → Prop) (W : World) (v : Value) (π : List Nd → Option (List Nd)) : Prop := (∀ l r, π l = some r → r <:+ l) ∧ ∃ (g : FuncId) (cap : Array Value), v = .func (.func g) #[] cap ∧ Enters Tryz.prog g ∧
  ∀ w, Below W.heap.size W w → ∀ (l : List Nd) A c, (∀ t ∈ l, D t) → l.length ≤ 1000000 → l.length ≤ c → SIn w TT l A → Calls Tryz.prog g (#[.slice A l.length c] ++ cap) w fun e w' => PtEnd (π l) e w' ∧ Below w.heap.size w w'
/-- A function value that tells of each text of a kind what μ says. -/
def NmV (O : ByteArray → Prop) (W : World) (v : Value) (μ : ByteArray → Bool) : Prop := ∃ (g : FuncId) (cap : Array Value), v = .func (.func g) #[] cap ∧ Enters Tryz.prog g ∧
  ∀ w, Below W.heap.size W w → ∀ s : ByteArray, s.size ≤ 1000000 → O s → Calls Tryz.prog g (#[.string s] ++ cap) w fun e w' => e = .returned (.bool (μ s)) ∧ Below w.heap.size w w'
theorem FnV.below {D : Nd → Prop} {W W' : World} {v : Value} {σ : Nd → Bool} (h : FnV D W v σ) (hb : Below W.heap.size W W') : FnV D W' v σ := by
  obtain ⟨g, cap, rfl, he, h⟩ := h
  exact ⟨g, cap, rfl, he, fun w hw => h w (hb.trans (hw.mono hb.size))⟩
theorem PtV.below {D : Nd → Prop} {W W' : World} {v : Value} {π : List Nd → Option (List Nd)} (h : PtV D W v π) (hb : Below W.heap.size W W') : PtV D W' v π := by
  obtain ⟨hs, g, cap, rfl, he, h⟩ := h
  exact ⟨hs, g, cap, rfl, he, fun w hw => h w (hb.trans (hw.mono hb.size))⟩
theorem NmV.below {O : ByteArray → Prop} {W W' : World} {v : Value} {μ : ByteArray → Bool} (h : NmV O W v μ) (hb : Below W.heap.size W W') : NmV O W' v μ := by
  obtain ⟨g, cap, rfl, he, h⟩ := h
  exact ⟨g, cap, rfl, he, fun w hw => h w (hb.trans (hw.mono hb.size))⟩
/-- Shapes in memory, one cell each. -/
def FRow (D : Nd → Prop) (W : World) (ss : List (Nd → Bool)) (A : Option Addr) : Prop := 0 < ss.length → ∃ b o, A = some ⟨b, o, none⟩ ∧ ∀ i s, ss[i]? = some s → ∃ v, W.cell? ⟨b, o + i, none⟩ = some v ∧ FnV D W v s
/-- Parts in memory. -/
def PRow (D : Nd → Prop) (W : World) (ps : List (List Nd → Option (List Nd))) (A : Option Addr) : Prop := 0 < ps.length → ∃ b o, A = some ⟨b, o, none⟩ ∧ ∀ i p, ps[i]? = some p → ∃ v, W.cell? ⟨b, o + i, none⟩ = some v ∧ PtV D W v p
theorem FRow.below {D : Nd → Prop} {W W' : World} {ss : List (Nd → Bool)} {A : Option Addr} (h : FRow D W ss A) (hb : Below W.heap.size W W') : FRow D W' ss A := by
  intro hl
  obtain ⟨b, o, hA, h⟩ := h hl
  refine ⟨b, o, hA, fun i s hi => ?_⟩
  obtain ⟨v, hc, hv⟩ := h i s hi
  exact ⟨v, ncell_blk (fun hx => hb.block b hx) hc, hv.below hb⟩
theorem PRow.below {D : Nd → Prop} {W W' : World} {ps : List (List Nd → Option (List Nd))} {A : Option Addr} (h : PRow D W ps A) (hb : Below W.heap.size W W') : PRow D W' ps A := by
  intro hl
  obtain ⟨b, o, hA, h⟩ := h hl
  refine ⟨b, o, hA, fun i s hi => ?_⟩
  obtain ⟨v, hc, hv⟩ := h i s hi
  exact ⟨v, ncell_blk (fun hx => hb.block b hx) hc, hv.below hb⟩
/-- Where the first of a kind is. -/
def IdxOf (p : Nat → Bool) (n : Nat) (r : Int) : Prop := (r = -1 ∧ ∀ i, i < n → p i = false) ∨ ∃ k, k < n ∧ r = (k : Int) ∧ p k = true ∧ ∀ i, i < k → p i = false
set_option maxRecDepth 100000 in
set_option maxHeartbeats 1000000 in
theorem idxF_any (b o n c : Nat) (hn : n ≤ 1000000) (vs : Nat → Value) (p : Nat → Bool) (g : FuncId) (cap : Array Value) (eg : Enters Tryz.prog g) (w : World) (hc : ∀ i, i < n → w.cell? ⟨b, o + i, none⟩ = some (vs i))
    (hp : ∀ i, i < n → ∀ W, Below w.heap.size w W → Calls Tryz.prog g (#[vs i] ++ cap) W fun e w' => e = .returned (.bool (p i)) ∧ Below W.heap.size W w') :
    Calls Tryz.prog 66 #[.slice (some ⟨b, o, none⟩) n c, .func (.func g) #[] cap] w fun e w' => ∃ r, e = .returned (.int .i64 r) ∧ IdxOf p n r ∧ Below w.heap.size w w' := by
  have eg' : ∀ (args : Array Value) (w : World), (callFunc g args).run Tryz.prog w = .ok (.enter g args) w := eg
  have HC := Lib.hid hc
  have HP := Lib.hid hp
  clear hc hp
  go_enter Tryz.func66, Tryz.ntmps66
  go_wp2_with fail
  go_loopg [5, 8] n (fun gg _ s8 wr => ∃ kk : Nat, kk ≤ n ∧ n - kk ≤ gg ∧ s8 = .int .i64 kk ∧ Aside (Below w.heap.size w wr) ∧ Aside (∀ j, j < kk → p j = false))
  case atStart => exact ⟨0, Nat.zero_le _, by omega, rfl, Below.refl _ w, fun j hj => absurd hj (Nat.not_lt_zero _)⟩
  case round =>
    obtain ⟨kk, hkk, hg, rfl, BW, A⟩ := hrel
    by_cases hlt : kk < n
    · have hltz : (kk : Int) < (n : Int) := by omega
      have l2 := ncell_blk (fun hx => BW.out.block b hx) (HC.out kk hlt)
      have hcall := HP.out kk hlt wr BW.out
      generalize vs kk = y at l2 hcall
      cases hq : p kk with
      | true =>
        rw [hq] at hcall
        go_wp2_with (go_at_fn g; refine hcall.mono ?_; rintro e w' ⟨rfl, hb'⟩)
        go_ret
        exact ⟨_, rfl, .inr ⟨kk, hlt, rfl, hq, A.out⟩, BW.out.trans (hb'.mono BW.out.size)⟩
      | false =>
        rw [hq] at hcall
        go_wp2_with (go_at_fn g; refine hcall.mono ?_; rintro e w' ⟨rfl, hb'⟩)
        go_roundg (n - (kk + 1))
        case measure => omega
        case rel =>
          refine ⟨kk + 1, by omega, by omega, by go_num, BW.out.trans (hb'.mono BW.out.size), (show Aside _ from fun j hj => ?_)⟩
          by_cases e : j = kk
          · subst e
            exact hq
          · exact A.out j (by omega)
    · have hltz : ¬ (kk : Int) < (n : Int) := by omega
      have : kk = n := by omega
      subst this
      go_wp2
      go_ret
      exact ⟨_, rfl, .inl ⟨rfl, A.out⟩, BW.out⟩
end Go.Proofs.YtkpddjbdmjbefaaGreatDoor
