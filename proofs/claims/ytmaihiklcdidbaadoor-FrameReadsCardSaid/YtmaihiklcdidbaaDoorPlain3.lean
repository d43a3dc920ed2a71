/-
  PLAIN FACTS ABOUT A READER OF FRAMES, ASKED MANY TIMES: what comes out, what is held then; a stream that comes in parts; frames that were put. No program; no condition but those that each theorem says.
-/
import Derived.Test.YtmaihiklcdidbaaDoorPlain2
namespace Go.Proofs.YtmaihiklcdidbaaDoor
open Go.Lib

/-- A reader: it holds a text; or it is broken, and held so many bytes. -/
inductive RS | live (l : List UInt8) | dead (n : Nat)
def RS.held : RS → Nat | .live l => l.length | .dead n => n
def RS.isDead : RS → Bool | .live _ => false | .dead _ => true
def pushR (s : List UInt8) : RS → RS | .live l => .live (l ++ s) | .dead n => .dead n
def pushE : RS → Nat | .live _ => 0 | .dead _ => 4
structure NextE where
  body : List UInt8
  is : Bool
  e : Nat
def nextE : RS → NextE
  | .dead _ => ⟨[], false, 4⟩
  | .live l => match nextP l with
    | .wait => ⟨[], false, 0⟩
    | .bad k => ⟨[], false, k⟩
    | .body f n => ⟨(l.drop f).take n, true, 0⟩
def nextR : RS → RS
  | .dead n => .dead n
  | .live l => match nextP l with
    | .wait => .live l
    | .bad _ => .dead l.length
    | .body f n => .live (l.drop (f + n))
structure AllR where
  bodies : List (List UInt8)
  e : Nat
  r : RS
def allR : Nat → RS → AllR
  | 0, r => ⟨[], 0, r⟩
  | k + 1, r => if (nextE r).is = true then ⟨(nextE r).body :: (allR k (nextR r)).bodies, (allR k (nextR r)).e, (allR k (nextR r)).r⟩ else ⟨[], (nextE r).e, nextR r⟩
theorem nextE_err (r : RS) (h : (nextE r).is = true) : (nextE r).e = 0 := by
  cases r with
  | dead n => cases h
  | live l =>
    unfold nextE at h ⊢
    simp only at h ⊢
    split at h <;> first | rfl | cases h
theorem nextP_bad {l : List UInt8} {k : Nat} (h : nextP l = .bad k) : k = 3 ∨ k = 4 := by
  unfold nextP at h
  simp only at h
  split at h
  · split at h
    · injection h with h; omega
    · split at h
      · injection h with h; omega
      · split at h <;> cases h
  · split at h
    · cases h
    · injection h with h; omega
theorem allR_dead : ∀ (k n : Nat), allR (k + 1) (.dead n) = ⟨[], 4, .dead n⟩ := fun _ _ => rfl
theorem allR_wait {l : List UInt8} (k : Nat) (h : nextP l = .wait) : allR (k + 1) (.live l) = ⟨[], 0, .live l⟩ := by
  unfold allR nextE nextR
  simp [h]
theorem allR_bad {l : List UInt8} {j : Nat} (k : Nat) (h : nextP l = .bad j) : allR (k + 1) (.live l) = ⟨[], j, .dead l.length⟩ := by
  unfold allR nextE nextR
  simp [h]
theorem allR_body {l : List UInt8} {f n : Nat} (k : Nat) (h : nextP l = .body f n) : allR (k + 1) (.live l) = ⟨(l.drop f).take n :: (allR k (.live (l.drop (f + n)))).bodies, (allR k (.live (l.drop (f + n)))).e, (allR k (.live (l.drop (f + n)))).r⟩ := by
  conv => lhs; unfold allR nextE nextR
  simp [h]
def sizes (l : List (List UInt8)) : Nat := (l.map (fun b => b.length + 19)).sum
theorem sizes_cons (b : List UInt8) (l : List (List UInt8)) : sizes (b :: l) = b.length + 19 + sizes l := by simp [sizes]
theorem allR_takes : ∀ (k : Nat) (l : List UInt8), sizes (allR k (.live l)).bodies + (allR k (.live l)).r.held ≤ l.length ∧ ((allR k (.live l)).r.isDead = true ↔ (allR k (.live l)).e ≠ 0)
  | 0, l => by simp [allR, sizes, RS.held, RS.isDead]
  | k + 1, l => by
    cases h : nextP l with
    | wait => rw [allR_wait k h]; simp [sizes, RS.held, RS.isDead]
    | bad j =>
      rw [allR_bad k h]
      have := nextP_bad h
      refine ⟨by simp [sizes, RS.held], ?_⟩
      simp [RS.isDead]
      omega
    | body f n =>
      obtain ⟨h1, h2⟩ := allR_takes k (l.drop (f + n))
      obtain ⟨hf, hl, _⟩ := nextP_body h
      rw [allR_body k h]
      refine ⟨?_, h2⟩
      simp only
      rw [sizes_cons, List.length_take, List.length_drop]
      rw [List.length_drop] at h1
      omega
theorem allR_fuel : ∀ (k m : Nat) (l : List UInt8), l.length < 20 * k → l.length < 20 * m → allR k (.live l) = allR m (.live l)
  | 0, m, l, h, _ => by omega
  | k + 1, 0, l, _, h => by omega
  | k + 1, m + 1, l, h1, h2 => by
    cases h : nextP l with
    | wait => rw [allR_wait k h, allR_wait m h]
    | bad j => rw [allR_bad k h, allR_bad m h]
    | body f n =>
      obtain ⟨hf, hl, _⟩ := nextP_body h
      rw [allR_body k h, allR_body m h, allR_fuel k m _ (by rw [List.length_drop]; omega) (by rw [List.length_drop]; omega)]
/-- A stream that comes in two parts. -/
theorem allR_parts : ∀ (k m : Nat) (a b : List UInt8), (a ++ b).length < 20 * k → (a ++ b).length < 20 * m →
    (allR m (.live (a ++ b))).bodies = (allR k (.live a)).bodies ++ (allR m (pushR b (allR k (.live a)).r)).bodies ∧ (allR m (.live (a ++ b))).r.isDead = (allR m (pushR b (allR k (.live a)).r)).r.isDead
  | 0, m, a, b, h, _ => by omega
  | k + 1, 0, a, b, _, h => by omega
  | k + 1, m + 1, a, b, h1, h2 => by
    cases h : nextP a with
    | wait => rw [allR_wait k h]; simp [pushR]
    | bad j =>
      have h' : nextP (a ++ b) = .bad j := by rw [nextP_more (by rw [h]; simp), h]
      rw [allR_bad k h, allR_bad m h']
      simp [pushR, allR_dead, RS.isDead]
    | body f n =>
      obtain ⟨hf, hl, _⟩ := nextP_body h
      have h' : nextP (a ++ b) = .body f n := by rw [nextP_more (by rw [h]; simp), h]
      have hd : (a ++ b).drop (f + n) = a.drop (f + n) ++ b := List.drop_append_of_le_length hl
      have ht : ((a ++ b).drop f).take n = (a.drop f).take n := by
        rw [List.drop_append_of_le_length (by omega), List.take_append_of_le_length (by rw [List.length_drop]; omega)]
      have hlen : (a.drop (f + n) ++ b).length + 20 ≤ (a ++ b).length := by
        rw [List.length_append, List.length_append, List.length_drop]; omega
      rw [allR_body k h, allR_body m h', hd, ht]
      obtain ⟨i1, i2⟩ := allR_parts k (m + 1) (a.drop (f + n)) b (by omega) (by omega)
      have hfu := allR_fuel (m + 1) m (a.drop (f + n) ++ b) (by omega) (by omega)
      rw [hfu] at i1 i2
      simp only
      rw [List.cons_append, i1]
      exact ⟨rfl, i2⟩
/-- Frames that were put, one behind the other. -/
def putsP (bs : List (List UInt8)) : List UInt8 := (bs.map putP).flatten
theorem putsP_cons (b : List UInt8) (bs : List (List UInt8)) : putsP (b :: bs) = putP b ++ putsP bs := by simp [putsP]
theorem nextP_nil : nextP [] = .wait := by
  have h : index ([] : List UInt8) hend = -1 := index_none (by simp)
  unfold nextP
  simp only [List.take_nil]
  rw [h, if_neg (by decide), if_pos (by decide)]
theorem putP_pos (b : List UInt8) : 1 ≤ (putP b).length := by rw [putP_len]; omega
/-- Of frames the first part has come in: what comes out is their beginning, and what is held is the rest's beginning. -/
theorem allR_back : ∀ (k : Nat) (bs : List (List UInt8)) (l m : List UInt8), bs.length < k → (∀ b ∈ bs, b.length ≤ 262144) → l ++ m = putsP bs →
    ∃ j r, j ≤ bs.length ∧ (allR k (.live l)).bodies = bs.take j ∧ (allR k (.live l)).e = 0 ∧ (allR k (.live l)).r = .live r ∧ r ++ m = putsP (bs.drop j) ∧ (m = [] → j = bs.length ∧ r = [])
  | 0, bs, l, m, h, _, _ => by omega
  | k + 1, [], l, m, h, hb, he => by
    have he : l ++ m = [] := he
    obtain ⟨rfl, rfl⟩ := List.append_eq_nil_iff.1 he
    rw [allR_wait k nextP_nil]
    exact ⟨0, [], by simp, rfl, rfl, rfl, rfl, fun _ => ⟨rfl, rfl⟩⟩
  | k + 1, b :: bs, l, m, h, hb, he => by
    rw [putsP_cons] at he
    have hn := next_putP b (putsP bs) (hb b (by simp))
    by_cases hw : nextP l = .wait
    · rw [allR_wait k hw]
      refine ⟨0, l, by simp, rfl, rfl, rfl, by rw [List.drop_zero, putsP_cons]; exact he, fun hm => ?_⟩
      subst hm
      rw [List.append_nil] at he
      rw [he, hn] at hw
      cases hw
    · have hx := nextP_more (m := m) hw
      rw [he, hn] at hx
      have hx := hx.symm
      obtain ⟨p1, p2⟩ := putP_body b (putsP bs)
      rw [← he] at p1 p2
      obtain ⟨_, hl, _⟩ := nextP_body hx
      rw [List.drop_append_of_le_length (by omega), List.take_append_of_le_length (by rw [List.length_drop]; omega)] at p1
      rw [List.drop_append_of_le_length hl] at p2
      rw [allR_body k hx, p1]
      obtain ⟨j, r, i1, i2, i3, i4, i5, i6⟩ := allR_back k bs _ m (by rw [List.length_cons] at h; omega) (fun c hc => hb c (by simp [hc])) p2
      exact ⟨j + 1, r, by rw [List.length_cons]; omega, by simp only; rw [i2]; rfl, i3, i4, i5, fun hm => ⟨by rw [List.length_cons, (i6 hm).1], (i6 hm).2⟩⟩
end Go.Proofs.YtmaihiklcdidbaaDoor
