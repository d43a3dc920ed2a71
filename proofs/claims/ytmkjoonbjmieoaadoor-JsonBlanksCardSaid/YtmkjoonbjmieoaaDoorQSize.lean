/-
  HOW LARGE A VALUE IS, plainly (szJ), and how long its text is at most; what its parts' sizes are. No program; no condition.
-/
import Derived.Test.YtmkjoonbjmieoaaDoorQTell
namespace Go.Proofs.YtmkjoonbjmieoaaDoor
open Go.RowKit

def szK : List (List UInt8) → Nat
  | [] => 0
  | x :: ks => 3 + x.length + szK ks
mutual
def szJ : J → Nat
  | .mk _ s ks l => 2 + s.length + szK ks + szL l
def szL : List J → Nat
  | [] => 0
  | j :: l => szJ j + szL l
end
theorem szJ_pos (j : J) : 2 ≤ szJ j := by cases j; rw [szJ]; omega
theorem szK_len : ∀ ks : List (List UInt8), 3 * ks.length ≤ szK ks
  | [] => by simp [szK]
  | x :: ks => by have := szK_len ks; rw [szK, List.length_cons]; omega
theorem szL_len : ∀ l : List J, 2 * l.length ≤ szL l
  | [] => by simp [szL]
  | j :: l => by have := szL_len l; have := szJ_pos j; rw [szL, List.length_cons]; omega
theorem szK_mem : ∀ {ks : List (List UInt8)} {x : List UInt8}, x ∈ ks → 3 + x.length ≤ szK ks
  | y :: ks, x, h => by
    rw [szK]
    rcases List.mem_cons.1 h with rfl | h
    · omega
    · have := szK_mem h; omega
theorem szL_mem : ∀ {l : List J} {j : J}, j ∈ l → szJ j ≤ szL l
  | y :: l, j, h => by
    rw [szL]
    rcases List.mem_cons.1 h with rfl | h
    · omega
    · have := szL_mem h; omega
theorem szJ_eq (k : Int) (s : List UInt8) (ks : List (List UInt8)) (l : List J) : szJ (.mk k s ks l) = 2 + s.length + szK ks + szL l := by rw [szJ]
theorem qB_len (c : UInt8) : (qB c).length ≤ 6 := by
  unfold qB
  split
  · exact qP_len _
  · simp
theorem bodyQ_len : ∀ l : List UInt8, (bodyQ l).length ≤ 6 * l.length
  | [] => Nat.le_refl _
  | c :: l => by
    have h1 := bodyQ_len l
    have h2 := qB_len c
    have e : bodyQ (c :: l) = qB c ++ bodyQ l := rfl
    rw [e, List.length_append, List.length_cons]; omega
theorem quoteL_len (l : List UInt8) : (quoteL l).length ≤ 6 * l.length + 2 := by
  have := bodyQ_len l
  unfold quoteL
  rw [List.length_cons, List.length_append]
  simp only [List.length_cons, List.length_nil]
  omega
theorem cm_len (first : Bool) : (if first then ([] : List UInt8) else [44]).length ≤ 1 := by cases first <;> simp
mutual
theorem textJ_len : ∀ j : J, (textJ j).length + 1 ≤ 6 * szJ j
  | .mk k s ks l => by
    rw [textJ, szJ]
    have h1 := quoteL_len s
    have h2 := textL_len true l
    have h3 := textK_len true ks l
    repeat' split
    all_goals try simp only [List.length_cons, List.length_nil, List.length_append]
    all_goals omega
theorem textL_len : ∀ (first : Bool) (l : List J), (textL first l).length ≤ 6 * szL l
  | first, [] => by simp [textL]
  | first, j :: l => by
    have h1 := textJ_len j
    have h2 := textL_len false l
    have h3 := cm_len first
    rw [textL, szL]
    simp only [List.length_append]
    omega
theorem textK_len : ∀ (first : Bool) (ks : List (List UInt8)) (l : List J), (textK first ks l).length ≤ 6 * (szK ks + szL l)
  | first, ks, [] => by rw [textK]; simp
  | first, [], _ :: _ => by rw [textK]; simp
  | first, key :: ks, j :: l => by
    have h1 := textJ_len j
    have h2 := textK_len false ks l
    have h3 := cm_len first
    have h4 := quoteL_len key
    rw [textK, szL, szK]
    simp only [List.length_append, List.length_cons]
    omega
end
/-- What a row of tokens weighs. -/
def Wt : List Tok → Nat
  | [] => 0
  | t :: ts => t.2.1.length + 5 + Wt ts
theorem Wt_tail : ∀ ts : List Tok, Wt ts.tail ≤ Wt ts
  | [] => Nat.le_refl _
  | t :: ts => by rw [List.tail_cons, Wt]; omega
theorem Wt_mk {c : UInt8} {ts : List Tok} (h : isMk c ts = true) : Wt ts.tail + 5 ≤ Wt ts := by
  obtain ⟨t, R, rfl, _, _⟩ := isMk_of h
  rw [List.tail_cons, Wt]; omega
theorem toks_Wt : ∀ (j k : Nat) (l : List UInt8) (ts : List Tok), l.length ≤ j → toks k l = .ok ts → Wt ts ≤ 9 * l.length
  | _, _, _, [], _, _ => by rw [Wt]; omega
  | j, k, l, t :: ts, hj, h => by
    obtain ⟨q, x, n, he, ht, rfl, hts⟩ := toks_ok_cons h
    have hn := tokP_len ht
    have hdl : (l.drop (run isB l)).length = l.length - run isB l := List.length_drop
    have hpos := List.length_pos_iff.2 he
    cases j with
    | zero => omega
    | succ j =>
      have ih := toks_Wt j _ _ ts (by rw [List.length_drop]; omega) hts
      rw [List.length_drop] at ih
      rw [Wt]
      show x.length + 5 + Wt ts ≤ _
      omega
theorem szL_app : ∀ a b : List J, szL (a ++ b) = szL a + szL b
  | [], b => by rw [List.nil_append, szL]; omega
  | j :: a, b => by rw [List.cons_append, szL, szL, szL_app a b]; omega
theorem szK_app : ∀ a b : List (List UInt8), szK (a ++ b) = szK a + szK b
  | [], b => by rw [List.nil_append, szK]; omega
  | j :: a, b => by rw [List.cons_append, szK, szK, szK_app a b]; omega
mutual
theorem pv_sz : ∀ (f : Nat) (ts : List Tok) (tw : Bool) (j : J) (R : List Tok) (tw' : Bool), pv f ts tw = some (j, R, tw') → szJ j + Wt R ≤ Wt ts
  | 0, _, _, _, _, _, h => by rw [pv] at h; cases h
  | f + 1, [], _, _, _, _, h => by rw [pv] at h; cases h
  | f + 1, t :: ts, tw, j, R, tw', h => by
    rw [pv] at h
    rw [Wt]
    repeat' split at h
    all_goals first
      | (simp only [Option.some.injEq, Prod.mk.injEq] at h
         obtain ⟨rfl, rfl, _⟩ := h
         have := Wt_tail ts
         simp only [szJ, szK, szL, List.length_nil]
         omega)
      | (cases hp : pn f false [] [] ts tw with
         | none => rw [hp] at h; cases h
         | some r =>
           obtain ⟨a, b, c, d⟩ := r
           rw [hp] at h
           simp only [Option.map_some, Option.some.injEq, Prod.mk.injEq] at h
           obtain ⟨rfl, rfl, _⟩ := h
           have := pn_sz f false [] [] ts tw a b c d hp
           simp only [szJ, szK, szL, List.length_nil] at this ⊢
           omega)
      | (cases hp : pn f true [] [] ts tw with
         | none => rw [hp] at h; cases h
         | some r =>
           obtain ⟨a, b, c, d⟩ := r
           rw [hp] at h
           simp only [Option.map_some, Option.some.injEq, Prod.mk.injEq] at h
           obtain ⟨rfl, rfl, _⟩ := h
           have := pn_sz f true [] [] ts tw a b c d hp
           simp only [szJ, szK, szL, List.length_nil] at this ⊢
           omega)
      | cases h
theorem pn_sz : ∀ (f : Nat) (o : Bool) (acc : List J) (ks : List (List UInt8)) (ts : List Tok) (tw : Bool) (a : List J) (b : List (List UInt8)) (R : List Tok) (tw' : Bool), pn f o acc ks ts tw = some (a, b, R, tw') → szL a + szK b + Wt R ≤ szL acc + szK ks + Wt ts
  | 0, _, _, _, _, _, _, _, _, _, h => by rw [pn] at h; cases h
  | f + 1, false, acc, ks, ts, tw, a, b, R, tw', h => by
    rw [pn] at h
    cases hp : pv f ts tw with
    | none => rw [hp] at h; cases h
    | some r =>
      obtain ⟨j, ts1, tw1⟩ := r
      rw [hp] at h
      simp only at h
      have h1 := pv_sz f ts tw j ts1 tw1 hp
      have h0 := Wt_tail ts1
      split at h
      · simp only [Option.some.injEq, Prod.mk.injEq] at h
        obtain ⟨rfl, rfl, rfl, _⟩ := h
        rw [szL_app, szL, szL]; omega
      · split at h
        · have h2 := pn_sz f false _ _ _ _ _ _ _ _ h
          rw [szL_app, szL, szL] at h2; omega
        · cases h
  | f + 1, true, acc, ks, [], tw, a, b, R, tw', h => by rw [pn] at h; cases h
  | f + 1, true, acc, ks, t :: ts, tw, a, b, R, tw', h => by
    rw [pn] at h
    rw [Wt]
    split at h
    · cases hp : pv f ts.tail (tw || ks.contains t.2.1) with
      | none => rw [hp] at h; cases h
      | some r =>
        obtain ⟨j, ts1, tw1⟩ := r
        rw [hp] at h
        simp only at h
        have h1 := pv_sz f ts.tail _ j ts1 tw1 hp
        have h0 := Wt_tail ts1
        have h00 := Wt_tail ts
        split at h
        · simp only [Option.some.injEq, Prod.mk.injEq] at h
          obtain ⟨rfl, rfl, rfl, _⟩ := h
          rw [szL_app, szL, szL, szK_app, szK, szK]; omega
        · split at h
          · have h2 := pn_sz f true _ _ _ _ _ _ _ _ h
            rw [szL_app, szL, szL, szK_app, szK, szK] at h2; omega
          · cases h
    · cases h
end
/-- ████ What a text says is no larger than nine times the text. -/
theorem parse_sz {l : List UInt8} {j : J} (h : parseR l = .ok j) : szJ j ≤ 9 * l.length := by
  unfold parseR at h
  cases hT : tokensR l with
  | error e => rw [hT] at h; cases h
  | ok ts =>
    rw [hT] at h
    simp only at h
    split at h
    · cases h
    · cases hp : pv (2 * ts.length + 1) ts false with
      | none => rw [hp] at h; cases h
      | some r =>
        obtain ⟨j', R, tw⟩ := r
        rw [hp] at h
        simp only at h
        split at h
        · cases tw with
          | true => simp at h
          | false =>
            simp only [Bool.false_eq_true, if_false, Except.ok.injEq] at h
            subst h
            have h1 := pv_sz _ _ _ _ _ _ hp
            have h2 := toks_Wt l.length 0 l ts (Nat.le_refl _) (tokensR_ok hT).1
            omega
        · cases h
end Go.Proofs.YtmkjoonbjmieoaaDoor
