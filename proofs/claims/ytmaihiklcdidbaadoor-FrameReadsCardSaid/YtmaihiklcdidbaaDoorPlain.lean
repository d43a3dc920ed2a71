/-
  PLAIN FACTS ABOUT FRAMES OF A STREAM: lines of a head, what they say, what a reader that holds a text answers. No program; no condition but those that each theorem says.
-/
import Derived.Lib.IndexMore
import Derived.Lib.IndexLaws
import Derived.Lib.Fold
import Derived.Lib.ParseIntB
namespace Go.Proofs.YtmaihiklcdidbaaDoor
open Go.Lib

def crlf : List UInt8 := [13, 10]
def hend : List UInt8 := [13, 10, 13, 10]
/-- content-length -/
def lenN : List UInt8 := [99, 111, 110, 116, 101, 110, 116, 45, 108, 101, 110, 103, 116, 104]
/-- content-type -/
def typN : List UInt8 := [99, 111, 110, 116, 101, 110, 116, 45, 116, 121, 112, 101]
def isDig (c : UInt8) : Bool := decide (48 ≤ c.toNat) && decide (c.toNat ≤ 57)
def isPr (c : UInt8) : Bool := decide (32 ≤ c.toNat) && decide (c.toNat ≤ 126)
/-- What digits behind others say. -/
def decA (acc : Nat) (l : List UInt8) : Nat := l.foldl (fun a c => a * 10 + (c.toNat - 48)) acc
theorem decA_nil (a : Nat) : decA a [] = a := rfl
theorem decA_cons (a : Nat) (c : UInt8) (r : List UInt8) : decA a (c :: r) = decA (a * 10 + (c.toNat - 48)) r := by unfold decA; rw [List.foldl_cons]
theorem decA_app (x y : List UInt8) (a : Nat) : decA a (x ++ y) = decA (decA a x) y := List.foldl_append
/-- The number that a value says. -/
def numP (v : List UInt8) : Option Nat :=
  let d := v.dropWhile (· == 32)
  if d.length ≤ 18 ∧ d ≠ [] ∧ d.all isDig = true then some (decA 0 d) else none
/-- A line: of a length, of a type, or none that may be. -/
inductive LineR | len (v : List UInt8) | typ (v : List UInt8) | bad
def lineP (s : List UInt8) : LineR :=
  let c := cut s [58]
  if c.2.2 = true then (if equalFold c.1 lenN = true then .len c.2.1 else if equalFold c.1 typN = true then .typ c.2.1 else .bad) else .bad
/-- What the lines say: kl, kt: may there be a length still, a type; n: the length so far. -/
def tellP : List (List UInt8) → Bool → Bool → Option Nat → Option (Option Nat)
  | [], _, _, n => some n
  | s :: r, kl, kt, n =>
    match lineP s with
    | .len v => if kl = true then (match numP v with | some m => tellP r false kt (some m) | none => none) else none
    | .typ v => if kt = true ∧ v.all isPr = true then tellP r kl false n else none
    | .bad => none
def splitF : Nat → List UInt8 → List (List UInt8)
  | 0, l => [l]
  | f + 1, l => if 0 ≤ index l crlf then l.take (index l crlf).toNat :: splitF f (l.drop ((index l crlf).toNat + 2)) else [l]
def splitP (l : List UInt8) : List (List UInt8) := splitF l.length l
/-- The length that a head (without its end) tells. -/
def headP (l : List UInt8) : Option Nat := (tellP (splitP l) true true none).join
inductive NextR | wait | bad (k : Nat) | body (f n : Nat)
/-- What a reader that holds l answers. -/
def nextP (l : List UInt8) : NextR :=
  let f := l.take 1024
  if 0 ≤ index f hend then
    match headP (f.take (index f hend).toNat) with
    | none => .bad 4
    | some n => if 262144 < n then .bad 3 else if (index f hend).toNat + 4 + n ≤ l.length then .body ((index f hend).toNat + 4) n else .wait
  else if f.length < 1024 then .wait else .bad 4

theorem index_len {s sub : List UInt8} (h : 0 ≤ index s sub) : (index s sub).toNat + sub.length ≤ s.length := by
  have := index_room s sub h
  omega
theorem index_app {a b sub : List UInt8} (hs : sub ≠ []) (h : 0 ≤ index a sub) : index (a ++ b) sub = index a sub := by
  rcases index_spec a sub with ⟨h1, _⟩ | ⟨i, h1, h2, h3, h4⟩
  · omega
  · rw [h1]
    have hr : i + sub.length ≤ a.length := by
      rcases occAt_room h3 with h | h
      · exact h
      · exact absurd h hs
    have hocc : ∀ j, j + sub.length ≤ a.length → occAt (a ++ b) sub j = occAt a sub j := by
      intro j hj
      rw [occAt_iff_take _ _ _ hj, occAt_iff_take _ _ _ (by rw [List.length_append]; omega)]
      rw [List.drop_append_of_le_length (by omega), List.take_append_of_le_length (by rw [List.length_drop]; omega)]
    refine index_first (by rw [List.length_append]; omega) (by rw [hocc i hr]; exact h3) (fun j hj => ?_)
    rw [hocc j (by omega)]
    exact h4 j hj
theorem splitF_fuel : ∀ (f g : Nat) (l : List UInt8), l.length ≤ f → l.length ≤ g → splitF f l = splitF g l
  | 0, 0, _, _, _ => rfl
  | 0, g + 1, l, h, _ => by
    have : l = [] := List.eq_nil_of_length_eq_zero (by omega)
    subst this
    rfl
  | f + 1, 0, l, _, h => by
    have : l = [] := List.eq_nil_of_length_eq_zero (by omega)
    subst this
    rfl
  | f + 1, g + 1, l, h1, h2 => by
    unfold splitF
    split
    · rename_i hi
      have := index_len hi
      have h2' : crlf.length = 2 := rfl
      rw [splitF_fuel f g _ (by rw [List.length_drop]; omega) (by rw [List.length_drop]; omega)]
    · rfl
theorem splitP_hit {l : List UInt8} (h : 0 ≤ index l crlf) : splitP l = l.take (index l crlf).toNat :: splitP (l.drop ((index l crlf).toNat + 2)) := by
  have hl := index_len h
  have h2' : crlf.length = 2 := rfl
  unfold splitP
  obtain ⟨k, hk⟩ : ∃ k, l.length = k + 1 := ⟨l.length - 1, by omega⟩
  rw [hk]
  conv => lhs; unfold splitF
  rw [if_pos h, splitF_fuel k _ _ (by rw [List.length_drop]; omega) (Nat.le_refl _)]
theorem splitP_miss {l : List UInt8} (h : ¬ 0 ≤ index l crlf) : splitP l = [l] := by
  unfold splitP
  cases hk : l.length with
  | zero => rfl
  | succ k => unfold splitF; rw [if_neg h]
theorem splitF_len : ∀ (f : Nat) (l : List UInt8) (s : List UInt8), s ∈ splitF f l → s.length ≤ l.length
  | 0, l, s, h => by
    rcases List.mem_singleton.1 h with rfl
    exact Nat.le_refl _
  | f + 1, l, s, h => by
    unfold splitF at h
    split at h
    · rename_i hi
      rcases List.mem_cons.1 h with rfl | h
      · rw [List.length_take]; omega
      · have := splitF_len f _ s h
        rw [List.length_drop] at this
        omega
    · rcases List.mem_singleton.1 h with rfl
      exact Nat.le_refl _
theorem fold_len : ∀ (s t : List UInt8), equalFold s t = true → s.length = t.length
  | [], [], _ => rfl
  | [], _ :: _, h => by simp [equalFold] at h
  | _ :: _, [], h => by simp [equalFold] at h
  | x :: s, y :: t, h => by
    rw [equalFold, Bool.and_eq_true] at h
    rw [List.length_cons, List.length_cons, fold_len s t h.2]
theorem numP_long {v : List UInt8} {n : Nat} (h : numP v = some n) : 1 ≤ v.length := by
  cases v with
  | nil => simp [numP] at h
  | cons c v => simp
theorem lineP_len {s v : List UInt8} (h : lineP s = .len v) : s.length = 15 + v.length := by
  unfold lineP at h
  simp only at h
  split at h
  · rename_i hc
    unfold cut at hc h
    split at hc
    · rename_i hi
      have hr := index_len hi
      rw [if_pos hi] at h
      simp only at h
      split at h
      · rename_i hf
        have hf := fold_len _ _ hf
        injection h with h
        subst h
        rw [List.length_take] at hf
        rw [List.length_drop]
        simp [lenN] at hf hr ⊢
        omega
      · split at h <;> cases h
    · cases hc
  · cases h
theorem tellP_some : ∀ (r : List (List UInt8)) (kl kt : Bool) (n : Option Nat) (m : Nat), tellP r kl kt n = some (some m) → n = some m ∨ ∃ s ∈ r, 16 ≤ s.length
  | [], _, _, n, m, h => by
    injection h with h
    exact .inl h
  | s :: r, kl, kt, n, m, h => by
    rw [tellP] at h
    split at h
    · rename_i v hv
      have := lineP_len hv
      split at h
      · split at h
        · rename_i k hk
          exact .inr ⟨s, by simp, by have := numP_long hk; omega⟩
        · cases h
      · cases h
    · split at h
      · rcases tellP_some r kl false n m h with h | ⟨s', h1, h2⟩
        · exact .inl h
        · exact .inr ⟨s', by simp [h1], h2⟩
      · cases h
    · cases h
theorem headP_long {l : List UInt8} {n : Nat} (h : headP l = some n) : 16 ≤ l.length := by
  unfold headP at h
  cases ht : tellP (splitP l) true true none with
  | none => rw [ht] at h; cases h
  | some o =>
    rw [ht] at h
    simp at h
    subst h
    rcases tellP_some _ _ _ _ _ ht with h | ⟨s, h1, h2⟩
    · cases h
    · have := splitF_len _ _ s h1
      omega
theorem nextP_body {l : List UInt8} {f n : Nat} (h : nextP l = .body f n) : 20 ≤ f ∧ f + n ≤ l.length ∧ n ≤ 262144 ∧ f ≤ 1024 := by
  unfold nextP at h
  simp only at h
  split at h
  · rename_i hi
    have hr := index_len hi
    split at h
    · cases h
    · rename_i k hk
      have hk' := headP_long hk
      rw [List.length_take] at hk'
      split at h
      · cases h
      · split at h
        · injection h with h1 h2
          subst h2
          have hr4 : hend.length = 4 := rfl
          have hm : (l.take 1024).length ≤ 1024 := by rw [List.length_take]; omega
          omega
        · cases h
  · split at h <;> cases h
theorem take_more (l m : List UInt8) : ∃ x, (l ++ m).take 1024 = l.take 1024 ++ x ∧ (1024 ≤ l.length → x = []) := by
  refine ⟨m.take (1024 - l.length), by rw [List.take_append], fun h => ?_⟩
  rw [Nat.sub_eq_zero_of_le h]
  rfl
theorem nextP_more {l m : List UInt8} (h : nextP l ≠ .wait) : nextP (l ++ m) = nextP l := by
  obtain ⟨x, hx, hx2⟩ := take_more l m
  unfold nextP at h ⊢
  simp only at h ⊢
  rw [hx]
  by_cases hi : 0 ≤ index (l.take 1024) hend
  · have hr := index_len hi
    rw [if_pos hi] at h
    rw [index_app (by simp [hend]) hi, if_pos hi, if_pos hi, List.take_append_of_le_length (by omega)]
    split
    · rfl
    · rename_i n hn
      rw [hn] at h
      simp only at h
      split
      · rfl
      · rename_i h3
        rw [if_neg h3] at h
        by_cases hl : (index (l.take 1024) hend).toNat + 4 + n ≤ l.length
        · rw [if_pos hl, if_pos (by rw [List.length_append]; omega)]
        · rw [if_neg hl] at h
          exact absurd rfl h
  · rw [if_neg hi] at h
    have hlen : ¬ (l.take 1024).length < 1024 := by
      intro hc
      rw [if_pos hc] at h
      exact h rfl
    rw [hx2 (by rw [List.length_take] at hlen; omega), List.append_nil, if_neg hi, if_neg hi, if_neg hlen]
end Go.Proofs.YtmaihiklcdidbaaDoor
