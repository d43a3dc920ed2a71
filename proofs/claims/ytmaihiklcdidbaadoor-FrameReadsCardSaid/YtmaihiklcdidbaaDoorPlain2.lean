/-
  PLAIN FACTS ABOUT THE FRAME OF A BODY: it is read as that body, whatever stands behind it. No program; no condition but those that each theorem says.
-/
import Derived.Lib.ItoaNum
import Derived.Test.YtmaihiklcdidbaaDoorPlain
namespace Go.Proofs.YtmaihiklcdidbaaDoor
open Go.Lib

/-- Content-Length: and a blank -/
def putN : List UInt8 := [67, 111, 110, 116, 101, 110, 116, 45, 76, 101, 110, 103, 116, 104, 58, 32]
def putP (b : List UInt8) : List UInt8 := putN ++ decDigits b.length ++ hend ++ b
theorem dig_val {k : Nat} (h : k < 10) : (UInt8.ofNat (48 + k)).toNat = 48 + k := by
  rw [UInt8.toNat_ofNat']
  omega
theorem decA_dec : ∀ (u : Nat), decA 0 (decDigits u) = u := by
  intro u
  induction u using Nat.strongRecOn with
  | ind u ih =>
    rw [decDigits]
    split
    · rename_i h
      rw [decA_cons, decA_nil, dig_val h]
      omega
    · rename_i h
      rw [decA_app, ih (u / 10) (by omega), decA_cons, decA_nil, dig_val (Nat.mod_lt _ (by omega))]
      omega
theorem dec_dig : ∀ (u : Nat), ∀ c ∈ decDigits u, isDig c = true := by
  intro u
  induction u using Nat.strongRecOn with
  | ind u ih =>
    intro c hc
    rw [decDigits] at hc
    split at hc
    · rename_i h
      rcases List.mem_singleton.1 hc with rfl
      unfold isDig
      rw [dig_val h]
      simp
      omega
    · rename_i h
      rcases List.mem_append.1 hc with hc | hc
      · exact ih (u / 10) (by omega) c hc
      · rcases List.mem_singleton.1 hc with rfl
        unfold isDig
        rw [dig_val (Nat.mod_lt _ (by omega))]
        simp
        omega
theorem dec_len (u : Nat) (h : u < 10 ^ 18) : (decDigits u).length ≤ 18 := by
  rw [decDigits_length]
  rcases Nat.lt_or_ge 18 (nDigits u) with hc | hc
  · have hb : ∀ (u : Nat), 10 ^ (nDigits u - 1) ≤ u ∨ u = 0 := by
      intro u
      induction u using Nat.strongRecOn with
      | ind u ih =>
        by_cases hu : u < 10
        · rw [nDigits_small hu]; omega
        · rw [nDigits_big hu]
          rcases ih (u / 10) (by omega) with h | h
          · left
            have hp := nDigits_pos (u / 10)
            obtain ⟨k, hk⟩ : ∃ k, nDigits (u / 10) = k + 1 := ⟨nDigits (u / 10) - 1, by omega⟩
            rw [hk] at h ⊢
            simp only [Nat.add_sub_cancel] at h ⊢
            rw [Nat.pow_succ]
            omega
          · omega
    rcases hb u with h1 | h1
    · have : (10 : Nat) ^ 18 ≤ 10 ^ (nDigits u - 1) := Nat.pow_le_pow_right (by omega) (by omega)
      omega
    · subst h1
      rw [nDigits_small (by omega)] at hc
      omega
  · exact hc
theorem dec_pos (u : Nat) : 1 ≤ (decDigits u).length := by rw [decDigits_length]; exact nDigits_pos u
theorem occ_head {s : List UInt8} {c : UInt8} {t : List UInt8} {j : Nat} (hj : s[j]? ≠ some c) : occAt s (c :: t) j = false := by
  cases h : occAt s (c :: t) j with
  | false => rfl
  | true => exact absurd (occAt_head rfl h) hj
theorem index_none {s : List UInt8} {c : UInt8} {t : List UInt8} (h : ∀ x ∈ s, x ≠ c) : index s (c :: t) = -1 := by
  rcases index_spec s (c :: t) with ⟨h1, _⟩ | ⟨i, h1, h2, h3, h4⟩
  · exact h1
  · have := occAt_head rfl h3
    exact absurd rfl (h c (List.mem_of_getElem? this))
theorem index_clean {a r : List UInt8} {c : UInt8} {t : List UInt8} (h : ∀ x ∈ a, x ≠ c) : index (a ++ (c :: t) ++ r) (c :: t) = a.length := by
  refine index_first (by simp) ?_ (fun j hj => occ_head ?_)
  · unfold occAt
    rw [List.append_assoc, List.drop_left]
    exact List.isPrefixOf_iff_prefix.2 ⟨r, rfl⟩
  · rw [List.append_assoc, List.getElem?_append_left hj]
    intro hc
    exact h c (List.mem_of_getElem? hc) rfl
theorem line_put {ds : List UInt8} : lineP (putN ++ ds) = .len (32 :: ds) := by
  have hc : index (putN ++ ds) [58] = 14 := by
    have := @index_clean [67, 111, 110, 116, 101, 110, 116, 45, 76, 101, 110, 103, 116, 104] (32 :: ds) 58 [] (by decide)
    exact this
  unfold lineP cut
  rw [hc]
  simp only [show (0 : Int) ≤ 14 from by decide, if_true]
  have e1 : List.take (14 : Int).toNat (putN ++ ds) = [67, 111, 110, 116, 101, 110, 116, 45, 76, 101, 110, 103, 116, 104] := rfl
  rw [e1, if_pos (by decide)]
  rfl
theorem num_put {ds : List UInt8} (h : ∀ c ∈ ds, isDig c = true) (h1 : 1 ≤ ds.length) (h2 : ds.length ≤ 18) : numP (32 :: ds) = some (decA 0 ds) := by
  have e : (32 :: ds).dropWhile (· == (32 : UInt8)) = ds := by
    have e0 : (32 :: ds).dropWhile (· == (32 : UInt8)) = ds.dropWhile (· == (32 : UInt8)) := by simp
    rw [e0]
    cases ds with
    | nil => simp at h1
    | cons c r =>
      rw [List.dropWhile_cons, if_neg]
      have := h c (by simp)
      intro hc
      have hc : c = 32 := by simpa using hc
      subst hc
      revert this
      decide
  unfold numP
  simp only
  rw [e, if_pos ⟨h2, by intro hc; subst hc; simp at h1, List.all_eq_true.2 h⟩]
theorem clean_put {ds : List UInt8} (h : ∀ c ∈ ds, isDig c = true) : ∀ x ∈ putN ++ ds, x ≠ 13 := by
  intro x hx hc
  subst hc
  rcases List.mem_append.1 hx with hx | hx
  · revert hx; decide
  · have := h 13 hx
    revert this; decide
theorem head_put {ds : List UInt8} (h : ∀ c ∈ ds, isDig c = true) (h1 : 1 ≤ ds.length) (h2 : ds.length ≤ 18) : headP (putN ++ ds) = some (decA 0 ds) := by
  have hs : splitP (putN ++ ds) = [putN ++ ds] := splitP_miss (by
    have := @index_none _ _ [10] (clean_put h)
    rw [show crlf = 13 :: [10] from rfl, this]; decide)
  unfold headP
  rw [hs]
  simp only [tellP, line_put, num_put h h1 h2]
  rfl
theorem next_put {ds : List UInt8} (h : ∀ c ∈ ds, isDig c = true) (h1 : 1 ≤ ds.length) (h2 : ds.length ≤ 18) (r : List UInt8) (hn : decA 0 ds ≤ r.length) (hm : decA 0 ds ≤ 262144) : nextP (putN ++ ds ++ hend ++ r) = .body (ds.length + 20) (decA 0 ds) := by
  have hl : (putN ++ ds ++ hend).length = ds.length + 20 := by have h4 : hend.length = 4 := rfl; have h16 : putN.length = 16 := rfl; rw [List.length_append, List.length_append]; omega
  have ht : (putN ++ ds ++ hend ++ r).take 1024 = putN ++ ds ++ hend ++ r.take (1024 - (ds.length + 20)) := by
    rw [List.take_append, hl, List.take_of_length_le (by omega)]
  have hi : index (putN ++ ds ++ hend ++ r.take (1024 - (ds.length + 20))) hend = (putN ++ ds).length := index_clean (clean_put h)
  unfold nextP
  simp only
  rw [ht, hi, if_pos (by omega)]
  have e : ((putN ++ ds).length : Int).toNat = (putN ++ ds).length := rfl
  have e2 : (putN ++ ds ++ hend ++ r.take (1024 - (ds.length + 20))).take (putN ++ ds).length = putN ++ ds := by
    rw [List.append_assoc, List.take_left]
  rw [e, e2, head_put h h1 h2]
  simp only
  have e3 : (putN ++ ds).length + 4 = ds.length + 20 := by have h16 : putN.length = 16 := rfl; rw [List.length_append]; omega
  rw [e3, if_neg (by omega), if_pos (by rw [List.length_append, hl]; omega)]
theorem next_putP (b r : List UInt8) (hb : b.length ≤ 262144) : nextP (putP b ++ r) = .body ((decDigits b.length).length + 20) b.length := by
  have h := next_put (dec_dig b.length) (dec_pos _) (dec_len _ (by omega)) (b ++ r) (by rw [decA_dec, List.length_append]; omega) (by rw [decA_dec]; exact hb)
  rw [decA_dec] at h
  unfold putP
  rw [List.append_assoc (putN ++ decDigits b.length ++ hend) b r]
  exact h
theorem putP_len (b : List UInt8) : (putP b).length = (decDigits b.length).length + 20 + b.length := by
  have h4 : hend.length = 4 := rfl
  have h16 : putN.length = 16 := rfl
  unfold putP
  rw [List.length_append, List.length_append, List.length_append]
  omega
theorem putP_body (b r : List UInt8) : ((putP b ++ r).drop ((decDigits b.length).length + 20)).take b.length = b ∧ (putP b ++ r).drop ((decDigits b.length).length + 20 + b.length) = r := by
  have hl : (putN ++ decDigits b.length ++ hend).length = (decDigits b.length).length + 20 := by have h4 : hend.length = 4 := rfl; have h16 : putN.length = 16 := rfl; rw [List.length_append, List.length_append]; omega
  refine ⟨?_, ?_⟩
  · unfold putP
    rw [List.append_assoc _ b r, ← hl, List.drop_left, List.take_left]
  · rw [← putP_len, List.drop_left]
end Go.Proofs.YtmaihiklcdidbaaDoor
