/-
  WHICH TREES THE GRAMMAR MAKES, plainly: shapes of trees (shp), by the chapter's table; tk says which texts are tokens of which kind. Depth, sameness. No program; no condition but those that each theorem says.
-/
import Derived.Test.YtcbfohokigamfaaGreatDoorNPlain
namespace Go.Proofs.YtcbfohokigamfaaGreatDoor
open Go.RowKit

/-- A row of children begins as it must: what is left of it. -/
def oneP (l : List (Nd → Bool)) : List Nd → Option (List Nd)
  | [] => none
  | n :: r => if l.any (fun s => s n) then some r else none
def manyP (s : Nd → Bool) (l : List Nd) : Option (List Nd) := some (l.dropWhile s)
def goP : List (List Nd → Option (List Nd)) → List Nd → Option (List Nd)
  | [], l => some l
  | p :: ps, l => match p l with
    | none => none
    | some r => goP ps r
def doneP : Option (List Nd) → Bool
  | some [] => true
  | _ => false
def madeP (n : Nd) (m : ByteArray → Bool) (ps : List (List Nd → Option (List Nd))) : Bool := m n.name && doneP (goP ps n.kids)
def nmB (s : ByteArray) : Bool := nameB s.data.toList
def emB (s : ByteArray) : Bool := s.data.toList == []
def wdB (ws : List (List UInt8)) (s : ByteArray) : Bool := ws.any fun w => s.data.toList == w
/-- An operator's level (0: it is none). -/
def lvl (s : ByteArray) : Int :=
  if s.data.toList = [124, 124] then 1 else if s.data.toList = [38, 38] then 2
  else if wdB [[61, 61], [33, 61], [60], [60, 61], [62], [62, 61]] s then 3
  else if wdB [[43], [45]] s then 4 else if wdB [[42], [47], [37]] s then 5 else 0
def opB (s : ByteArray) : Bool := decide (0 < lvl s)
def basicW : List (List UInt8) := [[105, 110, 116], [98, 111, 111, 108], [115, 116, 114, 105, 110, 103], [102, 108, 111, 97, 116, 54, 52]]
def builtW : List (List UInt8) := [[105, 110, 116], [102, 108, 111, 97, 116, 54, 52], [108, 101, 110], [112, 114, 105, 110, 116], [112, 97, 110, 105, 99]]
/-- The words for shapes. -/
inductive Sc where
  | nothing | imp | decl | typed (k : Int) (own : Bool) | params | ty | basic | own | far | ident | block | stmt | var | iff | forr | define | assign | path | callS | call | expr | level (k : Int) | operand | sel | keyed
deriving DecidableEq
/-- How far a word is from what its children are. -/
def Sc.rank : Sc → Nat
  | .stmt => 6 | .call => 5 | .expr => 4 | .level _ => 3 | .operand => 2 | .block => 1 | .iff => 1 | .forr => 1 | .define => 1 | .assign => 1 | .callS => 1 | .var => 1 | .path => 1 | .decl => 1 | .ty => 1 | .sel => 1 | _ => 0
/-- What stands right below a node of an expression, but not within brackets of its own. -/
def outs (n : Nd) : List Nd := if n.kind = 33 ∨ n.kind = 32 then [] else if n.kind = 27 then n.kids.take 1 else n.kids
/-- Is there no literal outside of brackets? (With fuel.) -/
def bare : Nat → Nd → Bool
  | 0, _ => true
  | f + 1, n => !(n.kind == 28) && (outs n).all (bare f)
section
variable (tk : Int → ByteArray → Bool)
def shp : Nat → Sc → Nd → Bool
  | 0, _, _ => false
  | _ + 1, .nothing, n => n.kind == 0 && madeP n emB []
  | _ + 1, .imp, n => n.kind == 2 && madeP n nmB []
  | f + 1, .decl, n =>
    if n.kind = 3 then madeP n nmB [manyP (shp f (.typed 4 false))]
    else if n.kind = 5 then madeP n nmB [oneP [shp f (.typed 7 true), shp f .nothing], oneP [shp f .params], oneP [shp f .ty, shp f .nothing], oneP [shp f .block]]
    else false
  | f + 1, .typed k own, n => n.kind == k && madeP n nmB [oneP [shp f (if own then .own else .ty)]]
  | f + 1, .params, n => n.kind == 6 && madeP n emB [manyP (shp f (.typed 7 false))]
  | f + 1, .ty, n => shp f .basic n || shp f .own n || shp f .far n
  | _ + 1, .basic, n => n.kind == 8 && madeP n (wdB basicW) []
  | _ + 1, .own, n => n.kind == 8 && madeP n nmB []
  | f + 1, .far, n => n.kind == 9 && madeP n nmB [oneP [shp f .ident]]
  | _ + 1, .ident, n => n.kind == 25 && madeP n nmB []
  | f + 1, .block, n => n.kind == 10 && madeP n emB [manyP (shp f .stmt)]
  | f + 1, .stmt, n =>
    if n.kind = 11 then shp f .var n
    else if n.kind = 10 then shp f .block n
    else if n.kind = 14 then shp f .iff n
    else if n.kind = 15 then shp f .forr n
    else if n.kind = 16 then madeP n nmB [oneP [shp f .forr]]
    else if n.kind = 17 ∨ n.kind = 18 then madeP n emB [] || madeP n nmB []
    else if n.kind = 19 then madeP n emB [] || madeP n emB [oneP [shp f .expr]]
    else shp f .define n || shp f .assign n || shp f .callS n
  | f + 1, .var, n => madeP n nmB [oneP [shp f .ty], oneP [shp f .nothing]] || madeP n nmB [oneP [shp f .ty, shp f .nothing], oneP [shp f .expr]]
  | f + 1, .iff, n => n.kind == 14 && madeP n emB [oneP [fun t => shp f .expr t && bare (f + 1) t], oneP [shp f .block], oneP [shp f .nothing, shp f .iff, shp f .block]]
  | f + 1, .forr, n => n.kind == 15 && madeP n emB [oneP [fun t => shp f .define t && bare (f + 1) t, fun t => shp f .assign t && bare (f + 1) t, fun t => shp f .callS t && bare (f + 1) t, shp f .nothing], oneP [fun t => shp f .expr t && bare (f + 1) t, shp f .nothing], oneP [fun t => shp f .assign t && bare (f + 1) t, fun t => shp f .callS t && bare (f + 1) t, shp f .nothing], oneP [shp f .block]]
  | f + 1, .define, n => n.kind == 12 && madeP n nmB [oneP [shp f .expr]]
  | f + 1, .assign, n => n.kind == 13 && madeP n emB [oneP [shp f .path], oneP [shp f .expr]]
  | f + 1, .path, n => shp f .ident n || (n.kind == 26 && madeP n nmB [oneP [shp f .path]])
  | f + 1, .callS, n => n.kind == 20 && madeP n emB [oneP [shp f .call]]
  | f + 1, .call, n => (n.kind == 27 || (n.kind == 32 && wdB [[112, 114, 105, 110, 116], [112, 97, 110, 105, 99]] n.name)) && shp f .expr n
  | f + 1, .expr, n => shp f (.level 1) n
  | f + 1, .level k, n =>
    if n.kind = 31 then decide (k ≤ lvl n.name) && madeP n opB [oneP [shp f (.level (lvl n.name))], oneP [shp f (.level (lvl n.name + 1))]]
    else if n.kind = 30 then decide (k ≤ 6) && madeP n (wdB [[45], [33]]) [oneP [shp f (.level 6)]]
    else shp f .operand n
  | f + 1, .operand, n =>
    if n.kind = 21 then madeP n (tk 3) []
    else if n.kind = 22 then madeP n (tk 4) []
    else if n.kind = 23 then madeP n (tk 5) []
    else if n.kind = 24 then madeP n (wdB [[116, 114, 117, 101], [102, 97, 108, 115, 101]]) []
    else if n.kind = 25 then shp f .ident n
    else if n.kind = 33 then madeP n emB [oneP [shp f .expr]]
    else if n.kind = 26 then shp f .sel n
    else if n.kind = 27 then madeP n emB [oneP [shp f .ident, shp f .sel], manyP (shp f .expr)]
    else if n.kind = 32 then madeP n (wdB builtW) [manyP (shp f .expr)]
    else if n.kind = 28 then madeP n emB [oneP [shp f .own, shp f .far], manyP (shp f .keyed)]
    else false
  | f + 1, .sel, n => n.kind == 26 && madeP n nmB [oneP [shp f (.level 7)]]
  | f + 1, .keyed, n => n.kind == 29 && madeP n nmB [oneP [shp f .expr]]
/-- A file, of so much fuel. -/
def fileB (f : Nat) (n : Nd) : Bool := n.kind == 1 && madeP n nmB [manyP (shp tk f .imp), manyP (shp tk f .decl)]
end
mutual
def depth : Nd → Nat
  | .mk k _ _ _ _ l => if k = 0 then 0 else depthL l + 1
def depthL : List Nd → Nat
  | [] => 0
  | n :: l => max (depth n) (depthL l)
end
/-- Check's answer. -/
def chk (tk : Int → ByteArray → Bool) (f : Nat) (n : Nd) : Int := if 64 < depth n then 3 else if fileB tk f n then 0 else 4
theorem goP_suffix : ∀ {ps : List (List Nd → Option (List Nd))}, (∀ p ∈ ps, ∀ l r, p l = some r → r <:+ l) → ∀ {l r : List Nd}, goP ps l = some r → r <:+ l
  | [], _, l, r, h => by
    rw [goP] at h
    obtain rfl : l = r := by simpa using h
    exact List.suffix_rfl
  | p :: ps, hp, l, r, h => by
    rw [goP] at h
    cases hx : p l with
    | none => rw [hx] at h; cases h
    | some m =>
      rw [hx] at h
      exact (goP_suffix (fun q hq => hp q (List.mem_cons_of_mem _ hq)) h).trans (hp p (List.mem_cons_self ..) _ _ hx)
theorem oneP_suffix (ss : List (Nd → Bool)) (l r : List Nd) (h : oneP ss l = some r) : r <:+ l := by
  cases l with
  | nil => cases h
  | cons n l =>
    unfold oneP at h
    dsimp only at h
    by_cases hc : (ss.any fun s => s n) = true
    · rw [if_pos hc] at h
      obtain rfl : l = r := by simpa using h
      exact List.suffix_cons ..
    · rw [if_neg hc] at h
      cases h
theorem manyP_suffix (s : Nd → Bool) (l r : List Nd) (h : manyP s l = some r) : r <:+ l := by
  unfold manyP at h
  obtain rfl : l.dropWhile s = r := by simpa using h
  exact List.dropWhile_suffix _
end Go.Proofs.YtcbfohokigamfaaGreatDoor
