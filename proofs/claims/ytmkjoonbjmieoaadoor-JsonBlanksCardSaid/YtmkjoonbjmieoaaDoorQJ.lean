/-
  VALUES OF JSON, plainly (J), how a row of tokens is read as one (pv, pn), and how a value lies in memory (JIn). No program; no condition but those that each theorem says.
-/
import Derived.Test.YtmkjoonbjmieoaaDoorQAwake
namespace Go.Proofs.YtmkjoonbjmieoaaDoor
open Go.RowKit

/-- A value of JSON, as the program has it: its Kind, Str, Keys and Items. -/
inductive J where
  | mk (k : Int) (s : List UInt8) (ks : List (List UInt8)) (l : List J)
def wordKind (x : List UInt8) : Int := if x = [102, 97, 108, 115, 101] then 1 else if x = [116, 114, 117, 101] then 2 else 0
/-- Do tokens begin with this mark? -/
def isMk (c : UInt8) : List Tok → Bool
  | [] => false
  | t :: _ => t.1 == 1 && t.2.1 == [c]
def cls (o : Bool) : UInt8 := if o then 125 else 93
mutual
/-- The value whose tokens these begin with, what is left, and whether a key stood twice (in it, or ahead). -/
def pv : Nat → List Tok → Bool → Option (J × List Tok × Bool)
  | 0, _, _ => none
  | _ + 1, [], _ => none
  | f + 1, t :: ts, tw =>
    if t.1 = 2 then some (.mk (wordKind t.2.1) [] [] [], ts, tw)
    else if t.1 = 3 then some (.mk 3 t.2.1 [] [], ts, tw)
    else if t.1 = 4 then some (.mk 4 t.2.1 [] [], ts, tw)
    else if t.1 = 1 then
      if t.2.1 = [91] then
        if isMk 93 ts then some (.mk 5 [] [] [], ts.tail, tw)
        else (pn f false [] [] ts tw).map fun r => (.mk 5 [] [] r.1, r.2.2.1, r.2.2.2)
      else if t.2.1 = [123] then
        if isMk 125 ts then some (.mk 6 [] [] [], ts.tail, tw)
        else (pn f true [] [] ts tw).map fun r => (.mk 6 [] r.2.1 r.1, r.2.2.1, r.2.2.2)
      else none
    else none
/-- The items (with keys: of an object) up to the mark that closes them, behind those that were read. -/
def pn : Nat → Bool → List J → List (List UInt8) → List Tok → Bool → Option (List J × List (List UInt8) × List Tok × Bool)
  | 0, _, _, _, _, _ => none
  | f + 1, false, acc, ks, ts, tw =>
    match pv f ts tw with
    | none => none
    | some (j, ts', tw') =>
      if isMk 93 ts' then some (acc ++ [j], ks, ts'.tail, tw')
      else if isMk 44 ts' then pn f false (acc ++ [j]) ks ts'.tail tw'
      else none
  | _ + 1, true, _, _, [], _ => none
  | f + 1, true, acc, ks, t :: ts, tw =>
    if t.1 = 4 ∧ isMk 58 ts = true then
      match pv f ts.tail (tw || ks.contains t.2.1) with
      | none => none
      | some (j, ts', tw') =>
        if isMk 125 ts' then some (acc ++ [j], ks ++ [t.2.1], ts'.tail, tw')
        else if isMk 44 ts' then pn f true (acc ++ [j]) (ks ++ [t.2.1]) ts'.tail tw'
        else none
    else none
end
/-- One item ahead of the rest: of an object with its key. -/
def po (f : Nat) (o : Bool) (ks : List (List UInt8)) (ts : List Tok) (tw : Bool) : Option (J × List (List UInt8) × List Tok × Bool) :=
  match o, ts with
  | false, ts => (pv f ts tw).map fun r => (r.1, ks, r.2.1, r.2.2)
  | true, [] => none
  | true, t :: ts => if t.1 = 4 ∧ isMk 58 ts = true then (pv f ts.tail (tw || ks.contains t.2.1)).map fun r => (r.1, ks ++ [t.2.1], r.2.1, r.2.2) else none
theorem pn_succ (f : Nat) (o : Bool) (acc : List J) (ks : List (List UInt8)) (ts : List Tok) (tw : Bool) : pn (f + 1) o acc ks ts tw =
    match po f o ks ts tw with
    | none => none
    | some (j, ks', ts', tw') =>
      if isMk (cls o) ts' then some (acc ++ [j], ks', ts'.tail, tw')
      else if isMk 44 ts' then pn f o (acc ++ [j]) ks' ts'.tail tw'
      else none := by
  cases o with
  | false =>
    rw [pn]
    unfold po
    dsimp only
    cases pv f ts tw with
    | none => rfl
    | some r => rfl
  | true =>
    cases ts with
    | nil => rfl
    | cons t ts =>
      rw [pn]
      unfold po
      dsimp only
      by_cases hc : t.1 = 4 ∧ isMk 58 ts = true
      · rw [if_pos hc, if_pos hc]
        cases pv f ts.tail (tw || ks.contains t.2.1) with
        | none => rfl
        | some r => rfl
      · rw [if_neg hc, if_neg hc]
mutual
theorem pv_len : ∀ (f : Nat) (ts : List Tok) (tw : Bool) (j : J) (ts' : List Tok) (tw' : Bool), pv f ts tw = some (j, ts', tw') → ts'.length < ts.length
  | 0, _, _, _, _, _, h => by rw [pv] at h; cases h
  | f + 1, [], _, _, _, _, h => by rw [pv] at h; cases h
  | f + 1, t :: ts, tw, j, ts', tw', h => by
    rw [pv] at h
    rw [List.length_cons]
    repeat' split at h
    all_goals first
      | (simp only [Option.some.injEq, Prod.mk.injEq] at h
         obtain ⟨_, rfl, _⟩ := h
         first | omega | (rw [List.length_tail]; omega))
      | (cases hp : pn f false [] [] ts tw with
         | none => rw [hp] at h; cases h
         | some r =>
           obtain ⟨a, b, c, d⟩ := r
           rw [hp] at h
           simp only [Option.map_some, Option.some.injEq, Prod.mk.injEq] at h
           obtain ⟨_, rfl, _⟩ := h
           have := pn_len f false [] [] ts tw a b c d hp
           omega)
      | (cases hp : pn f true [] [] ts tw with
         | none => rw [hp] at h; cases h
         | some r =>
           obtain ⟨a, b, c, d⟩ := r
           rw [hp] at h
           simp only [Option.map_some, Option.some.injEq, Prod.mk.injEq] at h
           obtain ⟨_, rfl, _⟩ := h
           have := pn_len f true [] [] ts tw a b c d hp
           omega)
      | cases h
theorem pn_len : ∀ (f : Nat) (o : Bool) (acc : List J) (ks : List (List UInt8)) (ts : List Tok) (tw : Bool) (a : List J) (b : List (List UInt8)) (ts' : List Tok) (tw' : Bool), pn f o acc ks ts tw = some (a, b, ts', tw') → ts'.length < ts.length
  | 0, _, _, _, _, _, _, _, _, _, h => by rw [pn] at h; cases h
  | f + 1, false, acc, ks, ts, tw, a, b, ts', tw', h => by
    rw [pn] at h
    cases hp : pv f ts tw with
    | none => rw [hp] at h; cases h
    | some r =>
      obtain ⟨j, ts1, tw1⟩ := r
      rw [hp] at h
      have h1 := pv_len f ts tw j ts1 tw1 hp
      simp only at h
      split at h
      · simp only [Option.some.injEq, Prod.mk.injEq] at h
        obtain ⟨_, _, rfl, _⟩ := h
        rw [List.length_tail]; omega
      · split at h
        · have := pn_len f false _ _ _ _ _ _ _ _ h
          rw [List.length_tail] at this; omega
        · cases h
  | f + 1, true, acc, ks, [], tw, a, b, ts', tw', h => by rw [pn] at h; cases h
  | f + 1, true, acc, ks, t :: ts, tw, a, b, ts', tw', h => by
    rw [pn] at h
    rw [List.length_cons]
    split at h
    · cases hp : pv f ts.tail (tw || ks.contains t.2.1) with
      | none => rw [hp] at h; cases h
      | some r =>
        obtain ⟨j, ts1, tw1⟩ := r
        rw [hp] at h
        have h1 := pv_len f ts.tail _ j ts1 tw1 hp
        rw [List.length_tail] at h1
        simp only at h
        split at h
        · simp only [Option.some.injEq, Prod.mk.injEq] at h
          obtain ⟨_, _, rfl, _⟩ := h
          rw [List.length_tail]; omega
        · split at h
          · have := pn_len f true _ _ _ _ _ _ _ _ h
            rw [List.length_tail] at this; omega
          · cases h
    · cases h
end
theorem po_len {f : Nat} {o : Bool} {ks : List (List UInt8)} {ts : List Tok} {tw : Bool} {j : J} {ks' : List (List UInt8)} {ts' : List Tok} {tw' : Bool} (h : po f o ks ts tw = some (j, ks', ts', tw')) : ts'.length < ts.length := by
  unfold po at h
  cases o with
  | false =>
    cases hp : pv f ts tw with
    | none => simp only [hp] at h; cases h
    | some r =>
      obtain ⟨a, b, c⟩ := r
      simp only [hp, Option.map_some, Option.some.injEq, Prod.mk.injEq] at h
      obtain ⟨_, _, rfl, _⟩ := h
      exact pv_len _ _ _ _ _ _ hp
  | true =>
    cases ts with
    | nil => cases h
    | cons t ts =>
      simp only at h
      split at h
      · cases hp : pv f ts.tail (tw || ks.contains t.2.1) with
        | none => rw [hp] at h; cases h
        | some r =>
          obtain ⟨a, b, c⟩ := r
          simp only [hp, Option.map_some, Option.some.injEq, Prod.mk.injEq] at h
          obtain ⟨_, _, rfl, _⟩ := h
          have := pv_len _ _ _ _ _ _ hp
          rw [List.length_tail] at this
          rw [List.length_cons]; omega
      · cases h
/-- Keys in memory: a slice that reads as texts, its block of a kind. -/
def KIn (W : World) (P : Nat → Prop) (A : Option Addr) (ks : List (List UInt8)) : Prop :=
  0 < ks.length → ∃ b o, A = some ⟨b, o, none⟩ ∧ P b ∧ ∀ i x, ks[i]? = some x → W.cell? ⟨b, o + i, none⟩ = some (.string (txt x))
mutual
/-- A value in memory: what a slot holds of it, all blocks that it leads to of a kind. -/
def JIn (W : World) (P : Nat → Prop) : J → Value → Prop
  | .mk k s ks l, v => ∃ (ka : Option Addr) (kc : Nat) (ia : Option Addr) (ic : Nat), v = .agg #[.int .i64 k, .string (txt s), .slice ka ks.length kc, .slice ia l.length ic] ∧ KIn W P ka ks ∧
      (0 < l.length → ∃ b o, ia = some ⟨b, o, none⟩ ∧ P b ∧ LIn W P b o l)
/-- Items in memory, four cells each, from a place of a block on. -/
def LIn (W : World) (P : Nat → Prop) (b : Nat) : Nat → List J → Prop
  | _, [] => True
  | o, j :: l => (∃ v0 v1 v2 v3, W.cell? ⟨b, o, none⟩ = some v0 ∧ W.cell? ⟨b, o + 1, none⟩ = some v1 ∧ W.cell? ⟨b, o + 2, none⟩ = some v2 ∧ W.cell? ⟨b, o + 3, none⟩ = some v3 ∧ JIn W P j (.agg #[v0, v1, v2, v3])) ∧ LIn W P b (o + 4) l
end
theorem cell_blk {W W' : World} {b i : Nat} {v : Value} (h : b < W.heap.size → W'.heap[b]? = W.heap[b]?) (hc : W.cell? ⟨b, i, none⟩ = some v) : W'.cell? ⟨b, i, none⟩ = some v := by
  have hlt : b < W.heap.size := by
    rcases Nat.lt_or_ge b W.heap.size with h' | h'
    · exact h'
    · simp [World.cell?, Array.getElem?_eq_none h'] at hc
  rw [cell_block (h hlt)]; exact hc
theorem KIn.keep {W W' : World} {P Q : Nat → Prop} {A : Option Addr} {ks : List (List UInt8)} (h : KIn W P A ks) (hs : ∀ k, P k → k < W.heap.size → W'.heap[k]? = W.heap[k]?) (hq : ∀ k, P k → k < W.heap.size → Q k) : KIn W' Q A ks := by
  intro hp
  obtain ⟨b, o, hA, hP, hc⟩ := h hp
  have hlt : b < W.heap.size := by
    have h0 := hc 0 _ (List.getElem?_eq_getElem hp)
    rcases Nat.lt_or_ge b W.heap.size with h' | h'
    · exact h'
    · simp [World.cell?, Array.getElem?_eq_none h'] at h0
  exact ⟨b, o, hA, hq b hP hlt, fun i x hx => cell_blk (fun hl => hs b hP hl) (hc i x hx)⟩
mutual
theorem JIn.keep {W W' : World} {P Q : Nat → Prop} (hs : ∀ k, P k → k < W.heap.size → W'.heap[k]? = W.heap[k]?) (hq : ∀ k, P k → k < W.heap.size → Q k) : ∀ (j : J) (v : Value), JIn W P j v → JIn W' Q j v
  | .mk k s ks l, v, h => by
    rw [JIn] at h ⊢
    obtain ⟨ka, kc, ia, ic, hv, hk, hl⟩ := h
    refine ⟨ka, kc, ia, ic, hv, hk.keep hs hq, fun hp => ?_⟩
    obtain ⟨b, o, hA, hP, hc⟩ := hl hp
    have hlt : b < W.heap.size := by
      cases l with
      | nil => simp at hp
      | cons j l =>
        rw [LIn] at hc
        obtain ⟨⟨v0, _, _, _, h0, _⟩, _⟩ := hc
        rcases Nat.lt_or_ge b W.heap.size with h' | h'
        · exact h'
        · simp [World.cell?, Array.getElem?_eq_none h'] at h0
    exact ⟨b, o, hA, hq b hP hlt, LIn.keep hs hq b hP l o hc⟩
theorem LIn.keep {W W' : World} {P Q : Nat → Prop} (hs : ∀ k, P k → k < W.heap.size → W'.heap[k]? = W.heap[k]?) (hq : ∀ k, P k → k < W.heap.size → Q k) (b : Nat) (hb : P b) : ∀ (l : List J) (o : Nat), LIn W P b o l → LIn W' Q b o l
  | [], o, _ => by rw [LIn]; trivial
  | j :: l, o, h => by
    rw [LIn] at h ⊢
    obtain ⟨⟨v0, v1, v2, v3, h0, h1, h2, h3, hj⟩, hl⟩ := h
    exact ⟨⟨v0, v1, v2, v3, cell_blk (fun hx => hs b hb hx) h0, cell_blk (fun hx => hs b hb hx) h1, cell_blk (fun hx => hs b hb hx) h2, cell_blk (fun hx => hs b hb hx) h3, JIn.keep hs hq j _ hj⟩, LIn.keep hs hq b hb l (o + 4) hl⟩
end
theorem JIn.below {W W' : World} {P : Nat → Prop} {j : J} {v : Value} (h : JIn W P j v) (hb : Below W.heap.size W W') : JIn W' P j v := JIn.keep (fun k _ hk => hb.block k hk) (fun _ hP _ => hP) j v h
/-- One item of many. -/
theorem LIn.at {W : World} {P : Nat → Prop} {b : Nat} : ∀ {l : List J} {o : Nat}, LIn W P b o l → ∀ {i : Nat} {j : J}, l[i]? = some j → ∃ v0 v1 v2 v3, W.cell? ⟨b, o + i * 4, none⟩ = some v0 ∧ W.cell? ⟨b, o + i * 4 + 1, none⟩ = some v1 ∧ W.cell? ⟨b, o + i * 4 + 2, none⟩ = some v2 ∧ W.cell? ⟨b, o + i * 4 + 3, none⟩ = some v3 ∧ JIn W P j (.agg #[v0, v1, v2, v3])
  | [], _, _, _, _, hj => by simp at hj
  | j0 :: l, o, h, 0, j, hj => by
    rw [LIn] at h
    obtain rfl : j0 = j := by simpa using hj
    obtain ⟨⟨v0, v1, v2, v3, h0, h1, h2, h3, hj⟩, _⟩ := h
    exact ⟨v0, v1, v2, v3, by simpa using h0, by simpa using h1, by simpa using h2, by simpa using h3, hj⟩
  | j0 :: l, o, h, i + 1, j, hj => by
    rw [LIn] at h
    obtain ⟨v0, v1, v2, v3, h0, h1, h2, h3, hj⟩ := LIn.at h.2 (i := i) (by simpa using hj)
    have e : o + 4 + i * 4 = o + (i + 1) * 4 := by omega
    rw [e] at h0 h1 h2 h3
    exact ⟨v0, v1, v2, v3, h0, h1, h2, h3, hj⟩
end Go.Proofs.YtmkjoonbjmieoaaDoor
