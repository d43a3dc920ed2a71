/- Part of a proof. -/
import Derived.Test.YtmlclgkhnekmnaaGreatDoorPlain
namespace Go.Proofs.YtmlclgkhnekmnaaGreatDoor
def isLt (c : UInt8) : Bool := (decide (97 ≤ c.toNat) && decide (c.toNat ≤ 122)) || (decide (65 ≤ c.toNat) && decide (c.toNat ≤ 90)) || decide (c.toNat = 95)
def isW (c : UInt8) : Bool := isLt c || isD c
def isBk (c : UInt8) : Bool := [32, 9, 13].contains c
def resW : List (List UInt8) := [[98, 114, 101, 97, 107], [99, 111, 110, 116, 105, 110, 117, 101], [101, 108, 115, 101], [102, 97, 108, 115, 101], [102, 108, 111, 97, 116, 54, 52], [102, 111, 114], [102, 117, 110, 99], [105, 102], [105, 109, 112, 111, 114, 116], [105, 110, 116], [98, 111, 111, 108], [115, 116, 114, 105, 110, 103], [108, 101, 110], [112, 97, 99, 107, 97, 103, 101], [112, 97, 110, 105, 99], [112, 114, 105, 110, 116], [114, 101, 116, 117, 114, 110], [115, 116, 114, 117, 99, 116], [116, 114, 117, 101], [116, 121, 112, 101], [118, 97, 114]]
def isRes (x : List UInt8) : Bool := resW.contains x
def endW : List (List UInt8) := [[116, 114, 117, 101], [102, 97, 108, 115, 101], [114, 101, 116, 117, 114, 110], [98, 114, 101, 97, 107], [99, 111, 110, 116, 105, 110, 117, 101], [105, 110, 116], [98, 111, 111, 108], [115, 116, 114, 105, 110, 103], [102, 108, 111, 97, 116, 54, 52]]
def gapB : Bool → List UInt8 → Nat × Bool
 | _, [] => (0, true)
 | com, c :: l =>
  if c.toNat = 10 then ((gapB false l).1 + 1, true)
  else if com then ((gapB true l).1 + 1, (gapB true l).2)
  else if fst (is1 47) (c :: l) && fst (is1 47) l then ((gapB true l).1 + 1, (gapB true l).2)
  else if isBk c then ((gapB false l).1 + 1, (gapB false l).2)
  else (0, false)
def gap (l : List UInt8) : Nat × Bool := gapB false l
theorem gapB_le : ∀ (com : Bool) (l : List UInt8), (gapB com l).1 ≤ l.length
 | _, [] => Nat.le_refl _
 | com, c :: l => by
  have h1 := gapB_le false l
  have h2 := gapB_le true l
  rw [gapB, List.length_cons]
  repeat' split
  all_goals (simp only; omega)
def expL (l : List UInt8) : Nat := if fst (is1 101) l then (if run isD (l.drop (1 + signLen (l.drop 1))) = 0 then 0 else 1 + signLen (l.drop 1) + run isD (l.drop (1 + signLen (l.drop 1)))) else 0
def numK (l : List UInt8) : Nat × Nat :=
 if fst (is1 46) (l.drop (run isD l)) then
  if run isD (l.drop (run isD l + 1)) = 0 then (3, run isD l)
  else (4, run isD l + 1 + run isD (l.drop (run isD l + 1)) + expL (l.drop (run isD l + 1 + run isD (l.drop (run isD l + 1)))))
 else (3, run isD l)
theorem expL_le (l : List UInt8) : expL l ≤ l.length := by
 unfold expL
 have h1 := run_le isD (l.drop (1 + signLen (l.drop 1)))
 have h2 := signLen_le (l.drop 1)
 rw [List.length_drop] at h1 h2
 split
 · have := fst_len _ l ‹_›
   split <;> omega
 · omega
theorem numK_le (l : List UInt8) : (numK l).2 ≤ l.length := by
 unfold numK
 have h1 := run_le isD l
 have h2 := run_le isD (l.drop (run isD l + 1))
 have h3 := expL_le (l.drop (run isD l + 1 + run isD (l.drop (run isD l + 1))))
 rw [List.length_drop] at h2 h3
 split
 · have := fst_len _ _ ‹_›
   rw [List.length_drop] at this
   split <;> (simp only; omega)
 · exact h1
def mk2 (l : List UInt8) : Bool := [[61, 61], [33, 61], [60, 61], [62, 61], [38, 38], [124, 124], [58, 61]].contains (l.take 2)
def mk1 (l : List UInt8) : Bool := fst (fun c => [43, 45, 42, 47, 37, 60, 62, 33, 61, 40, 41, 123, 125, 44, 46, 58].contains c) l
def markL (l : List UInt8) : Nat := if mk2 l then 2 else if mk1 l then 1 else 0
theorem mk2_len (l : List UInt8) (h : mk2 l = true) : 2 ≤ l.length := by
 rcases Nat.lt_or_ge l.length 2 with hl | hl
 · unfold mk2 at h
   rw [List.take_of_length_le (by omega)] at h
   match l, hl with
   | [], _ => simp at h
   | [c], _ => simp at h
 · exact hl
theorem markL_le (l : List UInt8) : markL l ≤ l.length := by
 unfold markL
 split
 · exact mk2_len l ‹_›
 · split
   · exact fst_len _ l ‹_›
   · omega
def hexT : List UInt8 := [48, 49, 50, 51, 52, 53, 54, 55, 56, 57, 97, 98, 99, 100, 101, 102]
def hexI (c : UInt8) : Option Nat := hexT.idxOf? c
theorem hexI_lt {c : UInt8} {n : Nat} (h : hexI c = some n) : n < 16 := by
 have : ∀ k : Fin 256, ∀ m, hexI (UInt8.ofNat k.val) = some m → m < 16 := by decide +kernel
 have h1 := this ⟨c.toNat, c.toNat_lt⟩ n
 simp only [UInt8.ofNat_toNat] at h1
 exact h1 h
def hexP : List UInt8 → Option (UInt8 × Nat)
 | a :: b :: _ => match hexI a, hexI b with
  | some x, some y => some (UInt8.ofNat (16 * x + y), 4)
  | _, _ => none
 | _ => none
def escQ : List UInt8 → Option (UInt8 × Nat)
 | [] => none
 | d :: u => if d.toNat = 110 then some (10, 2) else if d.toNat = 116 then some (9, 2) else if d.toNat = 92 ∨ d.toNat = 34 then some (d, 2) else if d.toNat = 120 then hexP u else none
def pieceQ : List UInt8 → Option (UInt8 × Nat)
 | [] => none
 | c :: t => if c.toNat = 92 then escQ t else if c.toNat < 32 ∨ c.toNat = 127 then none else some (c, 1)
theorem hexP_len {l : List UInt8} {c : UInt8} {n : Nat} (h : hexP l = some (c, n)) : n = 4 ∧ 2 ≤ l.length := by
 unfold hexP at h
 split at h
 · split at h
   · simp at h; simp; omega
   · simp at h
 · simp at h
theorem escQ_len {l : List UInt8} {c : UInt8} {n : Nat} (h : escQ l = some (c, n)) : 2 ≤ n ∧ n ≤ l.length + 1 := by
 cases l with
 | nil => simp [escQ] at h
 | cons d u =>
  simp only [escQ] at h
  rw [List.length_cons]
  split at h
  · simp at h; omega
  · split at h
    · simp at h; omega
    · split at h
      · simp at h; omega
      · split at h
        · have := hexP_len h; omega
        · simp at h
theorem pieceQ_len {l : List UInt8} {c : UInt8} {n : Nat} (h : pieceQ l = some (c, n)) : 1 ≤ n ∧ n ≤ l.length := by
 cases l with
 | nil => simp [pieceQ] at h
 | cons d u =>
  simp only [pieceQ] at h
  rw [List.length_cons]
  split at h
  · have := escQ_len h; omega
  · split at h
    · simp at h
    · simp at h; omega
def uqF : Nat → List UInt8 → Option (List UInt8 × Nat)
 | 0, _ => none
 | f + 1, l =>
  if l = [] then none
  else if fst (is1 34) l then some ([], 1)
  else match pieceQ l with
   | none => none
   | some (c, n) => match uqF f (l.drop n) with
    | none => none
    | some (x, m) => some (c :: x, n + m)
def uqB (l : List UInt8) : Option (List UInt8 × Nat) := uqF (l.length + 1) l
theorem uqF_eq : ∀ (f g : Nat) (l : List UInt8), l.length < f → l.length < g → uqF f l = uqF g l
 | 0, _, _, h, _ => by omega
 | _, 0, _, _, h => by omega
 | f + 1, g + 1, l, h, k => by
  rw [uqF, uqF]
  by_cases hl : l = []
  · rw [if_pos hl, if_pos hl]
  · rw [if_neg hl, if_neg hl]
    cases hp : pieceQ l with
    | none => rfl
    | some p =>
     obtain ⟨c, n⟩ := p
     have := pieceQ_len hp
     have hpos := List.length_pos_iff.2 hl
     simp only
     rw [uqF_eq f g _ (by rw [List.length_drop]; omega) (by rw [List.length_drop]; omega)]
theorem uqB_end (l : List UInt8) (h : fst (is1 34) l = true) : uqB l = some ([], 1) := by
 have hl : l ≠ [] := by intro e; subst e; simp [fst] at h
 unfold uqB; rw [uqF, if_neg hl, if_pos h]
theorem uqB_bad (l : List UInt8) (h : fst (is1 34) l = false) (hp : pieceQ l = none) : uqB l = none := by
 unfold uqB; rw [uqF]
 split
 · rfl
 · rw [if_neg (by rw [h]; simp), hp]
theorem uqB_step (l : List UInt8) (h : fst (is1 34) l = false) (c : UInt8) (n : Nat) (hp : pieceQ l = some (c, n)) : uqB l = match uqB (l.drop n) with
 | none => none
 | some (x, m) => some (c :: x, n + m) := by
 have hl : l ≠ [] := by intro e; subst e; simp [pieceQ] at hp
 have := pieceQ_len hp
 unfold uqB; rw [uqF, if_neg hl, if_neg (by rw [h]; simp), hp]
 simp only
 rw [uqF_eq l.length ((l.drop n).length + 1) _ (by rw [List.length_drop]; omega) (by omega)]
theorem uqF_len : ∀ (f : Nat) (l x : List UInt8) (n : Nat), uqF f l = some (x, n) → 1 ≤ n ∧ n ≤ l.length ∧ x.length + 1 ≤ n
 | 0, _, _, _, h => by cases h
 | f + 1, l, x, n, h => by
  rw [uqF] at h
  split at h
  · cases h
  · rename_i hl
    have hpos := List.length_pos_iff.2 hl
    split at h
    · simp only [Option.some.injEq, Prod.mk.injEq] at h
      obtain ⟨rfl, rfl⟩ := h
      simp; omega
    · split at h
      · cases h
      · rename_i c k hp
        have h1 := pieceQ_len hp
        split at h
        · cases h
        · rename_i y m hy
          have ih := uqF_len f _ y m hy
          rw [List.length_drop] at ih
          simp only [Option.some.injEq, Prod.mk.injEq] at h
          obtain ⟨rfl, rfl⟩ := h
          rw [List.length_cons]
          omega
def uqS (l : List UInt8) : Option (List UInt8 × Nat) := if fst (is1 34) l then (uqB (l.drop 1)).map (fun x => (x.1, x.2 + 1)) else none
theorem uqS_len {l x : List UInt8} {n : Nat} (h : uqS l = some (x, n)) : 2 ≤ n ∧ n ≤ l.length ∧ x.length + 2 ≤ n := by
 unfold uqS at h
 split at h
 · rename_i h1
   have := fst_len _ l h1
   cases he : uqB (l.drop 1) with
   | none => rw [he] at h; cases h
   | some y =>
    obtain ⟨y, m⟩ := y
    rw [he] at h
    simp only [Option.map_some, Option.some.injEq, Prod.mk.injEq] at h
    obtain ⟨rfl, rfl⟩ := h
    have ih := uqF_len _ _ _ _ he
    rw [List.length_drop] at ih
    omega
 · cases h
def strL (l : List UInt8) : Nat := match uqS l with
 | none => 0
 | some (_, n) => n
theorem strL_le (l : List UInt8) : strL l ≤ l.length := by
 unfold strL
 split
 · omega
 · exact (uqS_len ‹_›).2.1
def tokK (l : List UInt8) : Nat × Nat :=
 if fst isLt l then (if isRes (l.take (run isW l)) then 2 else 1, run isW l)
 else if fst isD l then numK l
 else if fst (is1 34) l then (5, strL l)
 else if fst (is1 59) l then (7, 1)
 else (6, markL l)
theorem tokK_le (l : List UInt8) : (tokK l).2 ≤ l.length := by
 unfold tokK
 split
 · exact run_le _ _
 · split
   · exact numK_le l
   · split
     · exact strL_le l
     · split
       · exact fst_len _ l ‹_›
       · exact markL_le l
def nameF (x : List UInt8) : Nat := if 40 < x.length then 3 else if x = [95] then 9 else 0
def decV : Nat → List UInt8 → Nat
 | n, [] => n
 | n, c :: l => decV (10 * n + (c.toNat - 48)) l
def wholeN (x : List UInt8) : Nat := if 1 < run isD x && fst (is1 48) x then 0 else run isD x
def intF (x : List UInt8) : Nat := if x ≠ [] ∧ wholeN x = x.length then (if decV 0 x < 9223372036854775808 then 0 else 3) else 4
def valR (x : List UInt8) : Except Nat (List UInt8) := match uqS x with
 | none => .error 4
 | some (v, n) => if n < x.length ∨ good x < x.length then .error 4 else if 4096 < v.length then .error 3 else .ok v
def valF (x : List UInt8) : Nat := match valR x with
 | .error e => e
 | .ok _ => 0
def faultF (ff : List UInt8 → Nat) (k : Nat) (x : List UInt8) : Nat := if k = 1 then nameF x else if k = 3 then intF x else if k = 4 then ff x else if k = 5 then valF x else 0
abbrev Tok := Nat × List UInt8 × Nat × Nat
def wants (t : Tok) : Bool := if t.1 = 1 ∨ t.1 = 3 ∨ t.1 = 4 ∨ t.1 = 5 then true else if t.1 = 6 then (t.2.1 == [41] || t.2.1 == [125]) else endW.contains t.2.1
def ends (acc : List Tok) : List Tok := match acc.getLast? with
 | none => acc
 | some t => if wants t then acc ++ [(7, [], t.2.2.2, t.2.2.2)] else acc
theorem ends_ends (acc : List Tok) : ends (ends acc) = ends acc := by
 unfold ends
 cases h : acc.getLast? with
 | none => simp only [h]
 | some t =>
  simp only
  by_cases hw : wants t = true
  · rw [if_pos hw]
    simp only [List.getLast?_append, List.getLast?_singleton, Option.some_or]
    rw [if_neg (by simp [wants, endW])]
  · rw [if_neg hw, h]
    simp only
    rw [if_neg hw]
def endIf (b : Bool) (acc : List Tok) : List Tok := if b then ends acc else acc
def lexF (ff : List UInt8 → Nat) : Nat → List Tok → Nat → List UInt8 → Except (Nat × Nat) (List Tok)
 | 0, acc, _, _ => .ok acc
 | f + 1, acc, k, l =>
  if l.drop (gap l).1 = [] then .ok (endIf (gap l).2 acc)
  else if (tokK (l.drop (gap l).1)).2 = 0 then .error (k + (gap l).1, 4)
  else if faultF ff (tokK (l.drop (gap l).1)).1 ((l.drop (gap l).1).take (tokK (l.drop (gap l).1)).2) ≠ 0 then .error (k + (gap l).1, faultF ff (tokK (l.drop (gap l).1)).1 ((l.drop (gap l).1).take (tokK (l.drop (gap l).1)).2))
  else lexF ff f (endIf (gap l).2 acc ++ [((tokK (l.drop (gap l).1)).1, (l.drop (gap l).1).take (tokK (l.drop (gap l).1)).2, k + (gap l).1, k + (gap l).1 + (tokK (l.drop (gap l).1)).2)]) (k + (gap l).1 + (tokK (l.drop (gap l).1)).2) (l.drop ((gap l).1 + (tokK (l.drop (gap l).1)).2))
def lex (ff : List UInt8 → Nat) (acc : List Tok) (k : Nat) (l : List UInt8) : Except (Nat × Nat) (List Tok) := lexF ff (l.length + 1) acc k l
theorem lexF_eq (ff : List UInt8 → Nat) : ∀ (f g : Nat) (acc : List Tok) (k : Nat) (l : List UInt8), l.length < f → l.length < g → lexF ff f acc k l = lexF ff g acc k l
 | 0, _, _, _, _, h, _ => by omega
 | _, 0, _, _, _, _, h => by omega
 | f + 1, g + 1, acc, k, l, h, j => by
  rw [lexF, lexF]
  by_cases hl : l.drop (gap l).1 = []
  · rw [if_pos hl, if_pos hl]
  · rw [if_neg hl, if_neg hl]
    by_cases h0 : (tokK (l.drop (gap l).1)).2 = 0
    · rw [if_pos h0, if_pos h0]
    · rw [if_neg h0, if_neg h0]
      have hpos := List.length_pos_iff.2 hl
      rw [List.length_drop] at hpos
      rw [lexF_eq ff f g _ _ _ (by rw [List.length_drop]; omega) (by rw [List.length_drop]; omega)]
def lexT (ff : List UInt8 → Nat) (acc : List Tok) (k : Nat) (l : List UInt8) : Except (Nat × Nat) (List Tok) :=
 if l = [] then .ok acc
 else if (tokK l).2 = 0 then .error (k, 4)
 else if faultF ff (tokK l).1 (l.take (tokK l).2) ≠ 0 then .error (k, faultF ff (tokK l).1 (l.take (tokK l).2))
 else lex ff (acc ++ [((tokK l).1, l.take (tokK l).2, k, k + (tokK l).2)]) (k + (tokK l).2) (l.drop (tokK l).2)
theorem lex_gap (ff : List UInt8 → Nat) (acc : List Tok) (k : Nat) (l : List UInt8) : lex ff acc k l = lexT ff (endIf (gap l).2 acc) (k + (gap l).1) (l.drop (gap l).1) := by
 unfold lex lexT
 rw [lexF]
 split
 · rfl
 · rename_i hl
   have hpos := List.length_pos_iff.2 hl
   rw [List.length_drop] at hpos
   split
   · rfl
   · split
     · rfl
     · unfold lex
       rw [List.drop_drop]
       exact lexF_eq ff _ _ _ _ _ (by rw [List.length_drop]; omega) (by omega)
def tokensL (ff : List UInt8 → Nat) (l : List UInt8) : Except (Nat × Nat) (List Tok) :=
 if 65536 < l.length then .error (65536, 3) else if good l < l.length then .error (good l, 8) else lex ff [] 0 l
end Go.Proofs.YtmlclgkhnekmnaaGreatDoor
namespace Go.Proofs.YtmlclgkhnekmnaaGreatDoor
theorem isPt_pt (l : List UInt8) (h : 0 ≤ pt l) : isPt (((pt l).toNat : Nat) : Int) = true := by
 have e1 : (((pt l).toNat : Nat) : Int) = pt l := by omega
 rw [e1]
 clear e1
 have hp : pt l = (decN (nth l 0) (nth l 1) (nth l 2) (nth l 3)).1 := rfl
 rw [hp] at h ⊢
 generalize nth l 0 = a at *
 generalize nth l 1 = b at *
 generalize nth l 2 = c at *
 generalize nth l 3 = d at *
 unfold isPt
 rw [decide_eq_true_eq]
 revert h
 unfold decN
 repeat' split
 all_goals (intro h; simp only at h ⊢; omega)
theorem valid_take (l : List UInt8) : ∀ n, valid l = true → 0 < n → n ≤ l.length → nth l (n - 1) < 128 → valid (l.take n) = true := by
 intro n hv h0 hn hb
 have hd := valid_drop l n hv h0 hn hb
 induction l using by_pieces generalizing n with
 | nil => rw [List.take_nil]; rfl
 | cons l h ih =>
  have hv0 := hv
  rw [valid_cons l h, Bool.and_eq_true, decide_eq_true_eq] at hv
  have hw := wd_le l h
  have hwp := wd_pos l
  obtain ⟨w2, w3, w4⟩ := decN_wide (nth l 0) (nth l 1) (nth l 2) (nth l 3)
  have hh := decN_head (nth l 0) (nth l 1) (nth l 2) (nth l 3)
  have hwd : wd l = (decN (nth l 0) (nth l 1) (nth l 2) (nth l 3)).2 := rfl
  rw [← hwd] at w2 w3 w4 hh
  have h4 := wd_le4 l
  have hge : wd l ≤ n := by
   rcases Nat.lt_or_ge n (wd l) with hlt | hge
   · exfalso
     rcases Nat.lt_or_ge n 2 with c | c
     · have e1 : n = 1 := by omega
       subst e1
       have g1 := (hh (by omega)).1
       rw [Nat.sub_self] at hb
       omega
     · have c1 : n = 2 ∨ n = 3 := by omega
       rcases c1 with rfl | rfl
       · have := w2 (by omega); simp at hb; omega
       · have := w3 (by omega); simp at hb; omega
   · exact hge
  have hsp : l.take n = l.take (wd l) ++ (l.drop (wd l)).take (n - wd l) := by
   have := List.take_add (l := l) (i := wd l) (j := n - wd l)
   rw [show wd l + (n - wd l) = n by omega] at this
   exact this
  have hne : l.take (wd l) ≠ [] := by
   intro e
   have := congrArg List.length e
   rw [List.length_take, List.length_nil] at this
   have := List.length_pos_iff.2 h
   omega
  have hval : valid (l.take (wd l)) = true := by
   have he : l.take (wd l) = encL (pt l).toNat := (enc_dec l h hv.1).symm
   rw [he]
   refine valid_enc _ ?_
   exact isPt_pt l hv.1
  rw [hsp, valid_append _ _ hval]
  by_cases he : n = wd l
  · rw [he, Nat.sub_self]; rfl
  · have hb2 : nth (l.drop (wd l)) (n - wd l - 1) < 128 := by
     rw [nth_drop, show wd l + (n - wd l - 1) = n - 1 by omega]; exact hb
    refine ih (n - wd l) hv.2 (by omega) (by rw [List.length_drop]; omega) hb2 ?_
    exact valid_drop _ _ hv.2 (by omega) (by rw [List.length_drop]; omega) hb2
theorem valid_at (l : List UInt8) : ∀ n, valid l = true → n < l.length → nth l n < 128 → valid (l.drop n) = true := by
 induction l using by_pieces with
 | nil => intro n _ h _; simp at h
 | cons l h ih =>
  intro n hv hn hb
  have hv0 := hv
  rw [valid_cons l h, Bool.and_eq_true, decide_eq_true_eq] at hv
  have hw := wd_le l h
  have hwp := wd_pos l
  obtain ⟨w2, w3, w4⟩ := decN_wide (nth l 0) (nth l 1) (nth l 2) (nth l 3)
  have hwd : wd l = (decN (nth l 0) (nth l 1) (nth l 2) (nth l 3)).2 := rfl
  rw [← hwd] at w2 w3 w4
  have h4 := wd_le4 l
  rcases Nat.lt_or_ge n (wd l) with hlt | hge
  · have c0 : n = 0 ∨ n = 1 ∨ n = 2 ∨ n = 3 := by omega
    rcases c0 with rfl | rfl | rfl | rfl
    · exact hv0
    · have := w2 (by omega); omega
    · have := w3 (by omega); omega
    · have := w4 (by omega); omega
  · have e : l.drop n = (l.drop (wd l)).drop (n - wd l) := by rw [List.drop_drop]; congr 1; omega
    rw [e]
    refine ih (n - wd l) hv.2 (by rw [List.length_drop]; omega) ?_
    rw [nth_drop, show wd l + (n - wd l) = n by omega]; exact hb
theorem fst_cut (p : UInt8 → Bool) (l : List UInt8) (n : Nat) (m : List UInt8) (h : 1 ≤ n) (hl : l ≠ []) : fst p (l.take n ++ m) = fst p l := by
 cases l with
 | nil => exact absurd rfl hl
 | cons c l => obtain ⟨k, rfl⟩ : ∃ k, n = k + 1 := ⟨n - 1, by omega⟩; rfl
theorem run_cut (p : UInt8 → Bool) (c : UInt8) (m : List UInt8) (hc : p c = false) : ∀ (l : List UInt8) (n : Nat), run p l ≤ n → n ≤ l.length → run p (l.take n ++ c :: m) = run p l
 | [], n, _, h => by
  rw [List.take_nil]
  show run p (c :: m) = 0
  rw [run, if_neg (by rw [hc]; simp)]
 | d :: l, n, h1, h2 => by
  rw [run] at h1 ⊢
  by_cases hd : p d = true
  · rw [if_pos hd] at h1 ⊢
    obtain ⟨k, rfl⟩ : ∃ k, n = k + 1 := ⟨n - 1, by omega⟩
    rw [List.length_cons] at h2
    rw [List.take_succ_cons, List.cons_append, run, if_pos hd, run_cut p c m hc l k (by omega) (by omega)]
  · rw [if_neg hd]
    cases n with
    | zero => rw [List.take_zero]; show run p (c :: m) = 0; rw [run, if_neg (by rw [hc]; simp)]
    | succ k => rw [List.take_succ_cons, List.cons_append, run, if_neg hd]
theorem drop_cut (l : List UInt8) (n j : Nat) (m : List UInt8) (hj : j ≤ n) (hn : n ≤ l.length) : (l.take n ++ m).drop j = (l.drop j).take (n - j) ++ m := by
 rw [List.drop_append_of_le_length (by rw [List.length_take]; omega), List.drop_take]
theorem take_cut (l : List UInt8) (n j : Nat) (m : List UInt8) (hj : j ≤ n) (hn : n ≤ l.length) : (l.take n ++ m).take j = l.take j := by
 rw [List.take_append_of_le_length (by rw [List.length_take]; omega), List.take_take, Nat.min_eq_left hj]
theorem fst_ne (p : UInt8 → Bool) (l : List UInt8) (h : fst p l = true) : l ≠ [] := by
 intro e; subst e; simp [fst] at h
theorem expL_cut (l m : List UInt8) : expL (l.take (expL l) ++ 32 :: m) = expL l := by
 have hle := expL_le l
 by_cases h1 : fst (is1 101) l = true
 · have hne := fst_ne _ _ h1
   by_cases h2 : run isD (l.drop (1 + signLen (l.drop 1))) = 0
   · have e : expL l = 0 := by unfold expL; rw [if_pos h1, if_pos h2]
     rw [e, List.take_zero]; rfl
   · have e : expL l = 1 + signLen (l.drop 1) + run isD (l.drop (1 + signLen (l.drop 1))) := by unfold expL; rw [if_pos h1, if_neg h2]
     have hs := signLen_le (l.drop 1)
     have hr := run_le isD (l.drop (1 + signLen (l.drop 1)))
     rw [List.length_drop] at hs hr
     have f1 : fst (is1 101) (l.take (expL l) ++ 32 :: m) = true := by rw [fst_cut _ _ _ _ (by omega) hne]; exact h1
     have d1 : (l.take (expL l) ++ 32 :: m).drop 1 = (l.drop 1).take (expL l - 1) ++ 32 :: m := drop_cut _ _ _ _ (by omega) hle
     have hne1 : l.drop 1 ≠ [] := by
      intro e1
      have := congrArg List.length e1
      rw [List.length_drop] at this
      simp at this
      omega
     have s1 : signLen ((l.take (expL l) ++ 32 :: m).drop 1) = signLen (l.drop 1) := by
      rw [d1]
      unfold signLen
      rw [fst_cut _ _ _ _ (by omega) hne1]
     have d2 : (l.take (expL l) ++ 32 :: m).drop (1 + signLen (l.drop 1)) = (l.drop (1 + signLen (l.drop 1))).take (expL l - (1 + signLen (l.drop 1))) ++ 32 :: m := drop_cut _ _ _ _ (by omega) hle
     have r1 : run isD ((l.take (expL l) ++ 32 :: m).drop (1 + signLen (l.drop 1))) = run isD (l.drop (1 + signLen (l.drop 1))) := by
      rw [d2]
      exact run_cut isD 32 m rfl _ _ (by omega) (by rw [List.length_drop]; omega)
     have e2 : expL (l.take (expL l) ++ 32 :: m) = if run isD ((l.take (expL l) ++ 32 :: m).drop (1 + signLen ((l.take (expL l) ++ 32 :: m).drop 1))) = 0 then 0 else 1 + signLen ((l.take (expL l) ++ 32 :: m).drop 1) + run isD ((l.take (expL l) ++ 32 :: m).drop (1 + signLen ((l.take (expL l) ++ 32 :: m).drop 1))) := by
      generalize hx : l.take (expL l) ++ 32 :: m = x at *
      unfold expL
      rw [if_pos f1]
     rw [e2, s1, r1, if_neg h2, e]
 · have e : expL l = 0 := by unfold expL; rw [if_neg h1]
   rw [e, List.take_zero]; rfl
theorem numK_cut (l m : List UInt8) (h : fst isD l = true) : numK (l.take (numK l).2 ++ 32 :: m) = numK l := by
 have hle := numK_le l
 have hr := run_le isD l
 have h0 : 1 ≤ run isD l := by rw [run_yes isD l h]; omega
 by_cases h1 : fst (is1 46) (l.drop (run isD l)) = true
 · have hne := fst_ne _ _ h1
   by_cases h2 : run isD (l.drop (run isD l + 1)) = 0
   · have e : numK l = (3, run isD l) := by unfold numK; rw [if_pos h1, if_pos h2]
     rw [e]
     simp only
     have r1 : run isD (l.take (run isD l) ++ 32 :: m) = run isD l := run_cut isD 32 m rfl l _ (Nat.le_refl _) hr
     have d1 : (l.take (run isD l) ++ 32 :: m).drop (run isD l) = 32 :: m := by
      rw [drop_cut _ _ _ _ (Nat.le_refl _) hr, Nat.sub_self, List.take_zero]; rfl
     have e2 : numK (l.take (run isD l) ++ 32 :: m) = (3, run isD l) := by
      generalize hx : l.take (run isD l) ++ 32 :: m = x at *
      unfold numK
      rw [r1, d1, if_neg (by simp [fst, is1])]
     exact e2
   · have e : numK l = (4, run isD l + 1 + run isD (l.drop (run isD l + 1)) + expL (l.drop (run isD l + 1 + run isD (l.drop (run isD l + 1))))) := by unfold numK; rw [if_pos h1, if_neg h2]
     rw [e] at hle ⊢
     simp only at hle ⊢
     have hr2 := run_le isD (l.drop (run isD l + 1))
     rw [List.length_drop] at hr2
     generalize hE : expL (l.drop (run isD l + 1 + run isD (l.drop (run isD l + 1)))) = E at *
     generalize hb : run isD (l.drop (run isD l + 1)) = b at *
     generalize ha : run isD l = a at *
     have r1 : run isD (l.take (a + 1 + b + E) ++ 32 :: m) = a := by
      rw [run_cut isD 32 m rfl l _ (by omega) hle, ha]
     have d1 : (l.take (a + 1 + b + E) ++ 32 :: m).drop a = (l.drop a).take (a + 1 + b + E - a) ++ 32 :: m := drop_cut _ _ _ _ (by omega) hle
     have f1 : fst (is1 46) ((l.take (a + 1 + b + E) ++ 32 :: m).drop a) = true := by
      rw [d1, fst_cut _ _ _ _ (by omega) hne]; exact h1
     have d2 : (l.take (a + 1 + b + E) ++ 32 :: m).drop (a + 1) = (l.drop (a + 1)).take (a + 1 + b + E - (a + 1)) ++ 32 :: m := drop_cut _ _ _ _ (by omega) hle
     have r2 : run isD ((l.take (a + 1 + b + E) ++ 32 :: m).drop (a + 1)) = b := by
      rw [d2, run_cut isD 32 m rfl _ _ (by omega) (by rw [List.length_drop]; omega), hb]
     have d3 : (l.take (a + 1 + b + E) ++ 32 :: m).drop (a + 1 + b) = (l.drop (a + 1 + b)).take E ++ 32 :: m := by
      rw [drop_cut _ _ _ _ (by omega) hle]; congr 2; omega
     have e3 : expL ((l.take (a + 1 + b + E) ++ 32 :: m).drop (a + 1 + b)) = E := by
      rw [d3]
      have := expL_cut (l.drop (a + 1 + b)) m
      rw [hE] at this
      exact this
     generalize hx : l.take (a + 1 + b + E) ++ 32 :: m = x at *
     unfold numK
     rw [r1, if_pos f1, r2, if_neg h2, e3]
 · have e : numK l = (3, run isD l) := by unfold numK; rw [if_neg h1]
   rw [e]
   simp only
   have r1 : run isD (l.take (run isD l) ++ 32 :: m) = run isD l := run_cut isD 32 m rfl l _ (Nat.le_refl _) hr
   have d1 : (l.take (run isD l) ++ 32 :: m).drop (run isD l) = 32 :: m := by
    rw [drop_cut _ _ _ _ (Nat.le_refl _) hr, Nat.sub_self, List.take_zero]; rfl
   have e2 : numK (l.take (run isD l) ++ 32 :: m) = (3, run isD l) := by
    generalize hx : l.take (run isD l) ++ 32 :: m = x at *
    unfold numK
    rw [r1, d1, if_neg (by simp [fst, is1])]
   exact e2
theorem pieceQ_cut (l m : List UInt8) (c : UInt8) (n : Nat) (h : pieceQ l = some (c, n)) (k : Nat) (hk : n ≤ k) : pieceQ (l.take k ++ m) = some (c, n) := by
 have hn := pieceQ_len h
 match l, h, hn with
 | [], h, _ => simp [pieceQ] at h
 | a :: t, h, hn =>
  obtain ⟨j, rfl⟩ : ∃ j, k = j + 1 := ⟨k - 1, by omega⟩
  rw [List.take_succ_cons, List.cons_append]
  simp only [pieceQ] at h ⊢
  by_cases h1 : a.toNat = 92
  · rw [if_pos h1] at h ⊢
    match t, h, hn with
    | [], h, _ => simp [escQ] at h
    | d :: u, h, hn =>
     have hj : 2 ≤ n := (escQ_len h).1
     obtain ⟨i, rfl⟩ : ∃ i, j = i + 1 := ⟨j - 1, by omega⟩
     rw [List.take_succ_cons, List.cons_append]
     simp only [escQ] at h ⊢
     by_cases g1 : d.toNat = 110
     · rw [if_pos g1] at h ⊢; exact h
     · rw [if_neg g1] at h ⊢
       by_cases g2 : d.toNat = 116
       · rw [if_pos g2] at h ⊢; exact h
       · rw [if_neg g2] at h ⊢
         by_cases g3 : d.toNat = 92 ∨ d.toNat = 34
         · rw [if_pos g3] at h ⊢; exact h
         · rw [if_neg g3] at h ⊢
           by_cases g4 : d.toNat = 120
           · rw [if_pos g4] at h ⊢
             have h4 := hexP_len h
             match u, h, h4 with
             | [], h, h4 => simp at h4
             | [x], h, h4 => simp at h4
             | x :: y :: v, h, h4 =>
              obtain ⟨q, rfl⟩ : ∃ q, i = q + 2 := ⟨i - 2, by omega⟩
              rw [List.take_succ_cons, List.take_succ_cons, List.cons_append, List.cons_append]
              exact h
           · rw [if_neg g4] at h; cases h
  · rw [if_neg h1] at h ⊢
    exact h
theorem uqB_cut : ∀ (f : Nat) (l : List UInt8), l.length < f → ∀ (x : List UInt8) (n : Nat), uqB l = some (x, n) → ∀ m, uqB (l.take n ++ m) = some (x, n)
 | 0, _, hf, _, _, _, _ => by omega
 | f + 1, l, hf, x, n, h, m => by
  have hn := uqF_len _ _ _ _ h
  have hl : l ≠ [] := by intro e; subst e; cases h
  by_cases h1 : fst (is1 34) l = true
  · rw [uqB_end l h1] at h
    obtain ⟨rfl, rfl⟩ : [] = x ∧ 1 = n := by simpa using h
    exact uqB_end _ (by rw [fst_cut _ _ _ _ (Nat.le_refl _) hl]; exact h1)
  · have h1 : fst (is1 34) l = false := by simpa using h1
    have h2 : fst (is1 34) (l.take n ++ m) = false := by rw [fst_cut _ _ _ _ hn.1 hl]; exact h1
    cases hp : pieceQ l with
    | none => rw [uqB_bad l h1 hp] at h; cases h
    | some p =>
     obtain ⟨c, k⟩ := p
     have hk := pieceQ_len hp
     rw [uqB_step l h1 c k hp] at h
     cases hy : uqB (l.drop k) with
     | none => rw [hy] at h; cases h
     | some y =>
      obtain ⟨y, j⟩ := y
      rw [hy] at h
      obtain ⟨rfl, rfl⟩ : c :: y = x ∧ k + j = n := by simpa using h
      have hq := pieceQ_cut l m c k hp (k + j) (by omega)
      rw [uqB_step _ h2 c k hq, drop_cut l (k + j) k m (by omega) hn.2.1, show k + j - k = j by omega]
      rw [uqB_cut f (l.drop k) (by rw [List.length_drop]; omega) y j hy m]
theorem uqS_cut (l : List UInt8) (x : List UInt8) (n : Nat) (h : uqS l = some (x, n)) (m : List UInt8) : uqS (l.take n ++ m) = some (x, n) := by
 have hn := uqS_len h
 unfold uqS at h
 split at h
 · rename_i h1
   have hne := fst_ne _ _ h1
   cases he : uqB (l.drop 1) with
   | none => rw [he] at h; cases h
   | some y =>
    obtain ⟨y, j⟩ := y
    rw [he] at h
    obtain ⟨rfl, rfl⟩ : y = x ∧ j + 1 = n := by simpa using h
    unfold uqS
    rw [if_pos (by rw [fst_cut _ _ _ _ (by omega) hne]; exact h1), drop_cut l (j + 1) 1 m (by omega) hn.2.1, show j + 1 - 1 = j by omega, uqB_cut _ _ (Nat.lt_succ_self _) y j he m]
    rfl
 · cases h
end Go.Proofs.YtmlclgkhnekmnaaGreatDoor
namespace Go.Proofs.YtmlclgkhnekmnaaGreatDoor
theorem tokK_cut (l m : List UInt8) (h : (tokK l).2 ≠ 0) : tokK (l.take (tokK l).2 ++ 32 :: m) = tokK l := by
 have hle := tokK_le l
 have hne : l ≠ [] := by intro e; subst e; exact h rfl
 by_cases h1 : fst isLt l = true
 · have e : tokK l = (if isRes (l.take (run isW l)) then 2 else 1, run isW l) := by unfold tokK; rw [if_pos h1]
   have h2 : (tokK l).2 = run isW l := by rw [e]
   rw [h2] at h hle ⊢
   have f1 : fst isLt (l.take (run isW l) ++ 32 :: m) = true := by rw [fst_cut _ _ _ _ (by omega) hne]; exact h1
   have r1 : run isW (l.take (run isW l) ++ 32 :: m) = run isW l := run_cut isW 32 m rfl l _ (Nat.le_refl _) hle
   have t1 : (l.take (run isW l) ++ 32 :: m).take (run isW l) = l.take (run isW l) := take_cut _ _ _ _ (Nat.le_refl _) hle
   rw [e]
   generalize l.take (run isW l) ++ 32 :: m = x at *
   unfold tokK
   rw [if_pos f1, r1, t1]
 · by_cases h2 : fst isD l = true
   · have e : tokK l = numK l := by unfold tokK; rw [if_neg h1, if_pos h2]
     rw [e] at h hle ⊢
     have f1 : fst isLt (l.take (numK l).2 ++ 32 :: m) = fst isLt l := fst_cut _ _ _ _ (by omega) hne
     have f2 : fst isD (l.take (numK l).2 ++ 32 :: m) = fst isD l := fst_cut _ _ _ _ (by omega) hne
     have hn := numK_cut l m h2
     unfold tokK
     rw [f1, f2, if_neg h1, if_pos h2, hn]
   · by_cases h3 : fst (is1 34) l = true
     · have e : tokK l = (5, strL l) := by unfold tokK; rw [if_neg h1, if_neg h2, if_pos h3]
       rw [e] at h hle ⊢
       simp only at h hle ⊢
       have f1 : fst isLt (l.take (strL l) ++ 32 :: m) = fst isLt l := fst_cut _ _ _ _ (by omega) hne
       have f2 : fst isD (l.take (strL l) ++ 32 :: m) = fst isD l := fst_cut _ _ _ _ (by omega) hne
       have f3 : fst (is1 34) (l.take (strL l) ++ 32 :: m) = fst (is1 34) l := fst_cut _ _ _ _ (by omega) hne
       have hs : strL (l.take (strL l) ++ 32 :: m) = strL l := by
        cases hu : uqS l with
        | none => exfalso; apply h; unfold strL; rw [hu]
        | some p =>
         obtain ⟨v, n⟩ := p
         have hL : strL l = n := by unfold strL; rw [hu]
         rw [hL]
         unfold strL
         rw [uqS_cut l v n hu]
       unfold tokK
       rw [f1, f2, f3, if_neg h1, if_neg h2, if_pos h3, hs]
     · by_cases h4 : fst (is1 59) l = true
       · have e : tokK l = (7, 1) := by unfold tokK; rw [if_neg h1, if_neg h2, if_neg h3, if_pos h4]
         rw [e] at h hle ⊢
         simp only at h hle ⊢
         unfold tokK
         rw [fst_cut _ _ _ _ (by omega) hne, fst_cut _ _ _ _ (by omega) hne, fst_cut _ _ _ _ (by omega) hne, fst_cut _ _ _ _ (by omega) hne, if_neg h1, if_neg h2, if_neg h3, if_pos h4]
       · have e : tokK l = (6, markL l) := by unfold tokK; rw [if_neg h1, if_neg h2, if_neg h3, if_neg h4]
         rw [e] at h hle ⊢
         simp only at h hle ⊢
         have hm : markL (l.take (markL l) ++ 32 :: m) = markL l := by
          by_cases g1 : mk2 l = true
          · have e2 : markL l = 2 := by unfold markL; rw [if_pos g1]
            rw [e2] at hle ⊢
            have : mk2 (l.take 2 ++ 32 :: m) = mk2 l := by unfold mk2; rw [take_cut _ _ _ _ (Nat.le_refl _) hle]
            unfold markL
            rw [this, if_pos g1]
          · by_cases g2 : mk1 l = true
            · have e2 : markL l = 1 := by unfold markL; rw [if_neg g1, if_pos g2]
              rw [e2]
              have q1 : mk2 (l.take 1 ++ 32 :: m) = false := by
               cases l with
               | nil => exact absurd rfl hne
               | cons c l => simp [mk2]
              have q2 : mk1 (l.take 1 ++ 32 :: m) = true := by unfold mk1; rw [fst_cut _ _ _ _ (by omega) hne]; exact g2
              unfold markL
              rw [q1, q2]; rfl
            · exfalso; apply h; unfold markL; rw [if_neg g1, if_neg g2]
         unfold tokK
         rw [fst_cut _ _ _ _ (by omega) hne, fst_cut _ _ _ _ (by omega) hne, fst_cut _ _ _ _ (by omega) hne, fst_cut _ _ _ _ (by omega) hne, if_neg h1, if_neg h2, if_neg h3, if_neg h4, hm]
theorem gapB_stop : ∀ (com : Bool) (l : List UInt8), l.drop (gapB com l).1 ≠ [] → gapB false (l.drop (gapB com l).1) = (0, false)
 | _, [], h => absurd rfl h
 | com, c :: l, h => by
  have h1 := gapB_stop false l
  have h2 := gapB_stop true l
  rw [gapB] at h ⊢
  split
  · rename_i g; rw [if_pos g] at h; exact h1 h
  · rename_i g; rw [if_neg g] at h
    split
    · rename_i g2; rw [if_pos g2] at h; exact h2 h
    · rename_i g2; rw [if_neg g2] at h
      split
      · rename_i g3; rw [if_pos g3] at h; exact h2 h
      · rename_i g3; rw [if_neg g3] at h
        split
        · rename_i g4; rw [if_pos g4] at h; exact h1 h
        · rename_i g4
          show gapB false (c :: l) = (0, false)
          rw [gapB, if_neg g, if_neg (by simp), if_neg g3, if_neg g4]
theorem gapB_end : ∀ (com : Bool) (l : List UInt8), l.drop (gapB com l).1 = [] → (gapB com l).2 = true
 | _, [], _ => rfl
 | com, c :: l, h => by
  have h1 := gapB_end false l
  have h2 := gapB_end true l
  rw [gapB] at h ⊢
  split
  · rfl
  · rename_i g; rw [if_neg g] at h
    split
    · rename_i g2; rw [if_pos g2] at h; exact h2 h
    · rename_i g2; rw [if_neg g2] at h
      split
      · rename_i g3; rw [if_pos g3] at h; exact h2 h
      · rename_i g3; rw [if_neg g3] at h
        split
        · rename_i g4; rw [if_pos g4] at h; exact h1 h
        · rename_i g4; rw [if_neg g4] at h; cases h
theorem gap_cut (l m : List UInt8) (n : Nat) (h : gap l = (0, false)) (hn : 1 ≤ n) (hl : l ≠ []) : gap (l.take n ++ 32 :: m) = (0, false) := by
 unfold gap at h ⊢
 cases l with
 | nil => exact absurd rfl hl
 | cons c t =>
  obtain ⟨k, rfl⟩ : ∃ k, n = k + 1 := ⟨n - 1, by omega⟩
  rw [List.take_succ_cons, List.cons_append]
  rw [gapB] at h ⊢
  split at h
  · simp at h
  · rename_i g1
    rw [if_neg g1]
    rw [if_neg (by simp)] at h ⊢
    split at h
    · simp at h
    · rename_i g3
      split at h
      · simp at h
      · rename_i g4
        have g5 : ¬ (fst (is1 47) (c :: (t.take k ++ 32 :: m)) && fst (is1 47) (t.take k ++ 32 :: m)) = true := by
         intro hh
         apply g3
         rw [Bool.and_eq_true] at hh ⊢
         refine ⟨hh.1, ?_⟩
         cases k with
         | zero => rw [List.take_zero] at hh; simp [fst, is1] at hh
         | succ k =>
          cases t with
          | nil => rw [List.take_nil] at hh; simp [fst, is1] at hh
          | cons d t => exact hh.2
        rw [if_neg g5, if_neg g4]
structure RealTok (ff : List UInt8 → Nat) (q : Nat) (x : List UInt8) : Prop where
 ne : x ≠ []
 tok : ∀ m, tokK (x ++ 32 :: m) = (q, x.length)
 gap : ∀ m, gap (x ++ 32 :: m) = (0, false)
 ok : faultF ff q x = 0
 val : valid x = true
theorem run_last (p : UInt8 → Bool) : ∀ l, 1 ≤ run p l → p (l.getD (run p l - 1) 0) = true
 | [], h => by simp [run] at h
 | c :: l, h => by
  rw [run] at h ⊢
  split at h
  · rename_i hc
    rw [if_pos hc]
    cases hr : run p l with
    | zero => exact hc
    | succ k =>
     have := run_last p l (by omega)
     rw [hr] at this
     exact this
  · omega
theorem isD_low (c : UInt8) (h : isD c = true) : c.toNat < 128 := by
 have : ∀ k : Fin 256, isD (UInt8.ofNat k.val) = true → k.val < 128 := by decide +kernel
 have h1 := this ⟨c.toNat, c.toNat_lt⟩
 simp only [UInt8.ofNat_toNat] at h1
 exact h1 h
theorem isW_low (c : UInt8) (h : isW c = true) : c.toNat < 128 := by
 have : ∀ k : Fin 256, isW (UInt8.ofNat k.val) = true → k.val < 128 := by decide +kernel
 have h1 := this ⟨c.toNat, c.toNat_lt⟩
 simp only [UInt8.ofNat_toNat] at h1
 exact h1 h
theorem nth_add (l : List UInt8) (n k : Nat) : (l.drop n).getD k 0 = l.getD (n + k) 0 := by
 rw [List.getD_eq_getElem?_getD, List.getD_eq_getElem?_getD, List.getElem?_drop]
theorem uqB_last : ∀ (f : Nat) (l : List UInt8), l.length < f → ∀ (x : List UInt8) (n : Nat), uqB l = some (x, n) → nth l (n - 1) = 34
 | 0, _, hf, _, _, _ => by omega
 | f + 1, l, hf, x, n, h => by
  have hl : l ≠ [] := by intro e; subst e; cases h
  by_cases h1 : fst (is1 34) l = true
  · rw [uqB_end l h1] at h
    obtain ⟨rfl, rfl⟩ : [] = x ∧ 1 = n := by simpa using h
    cases l with
    | nil => exact absurd rfl hl
    | cons c l =>
     have hc : is1 34 c = true := h1
     have : c = 34 := by simpa [is1] using hc
     subst this; rfl
  · have h1 : fst (is1 34) l = false := by simpa using h1
    cases hp : pieceQ l with
    | none => rw [uqB_bad l h1 hp] at h; cases h
    | some p =>
     obtain ⟨c, k⟩ := p
     have hk := pieceQ_len hp
     rw [uqB_step l h1 c k hp] at h
     cases hy : uqB (l.drop k) with
     | none => rw [hy] at h; cases h
     | some y =>
      obtain ⟨y, j⟩ := y
      rw [hy] at h
      obtain ⟨rfl, rfl⟩ : c :: y = x ∧ k + j = n := by simpa using h
      have hj := uqF_len _ _ _ _ hy
      have := uqB_last f (l.drop k) (by rw [List.length_drop]; omega) y j hy
      rw [nth_drop] at this
      rw [show k + j - 1 = k + (j - 1) by omega]
      exact this
theorem fst_nth (p : UInt8 → Bool) (l : List UInt8) (h : fst p l = true) : p (l.getD 0 0) = true := by
 cases l with
 | nil => simp [fst] at h
 | cons c l => exact h
theorem tok_low (l : List UInt8) (h : (tokK l).2 ≠ 0) : nth l 0 < 128 ∧ nth l ((tokK l).2 - 1) < 128 := by
 have hne : l ≠ [] := by intro e; subst e; exact h rfl
 unfold nth
 by_cases h1 : fst isLt l = true
 · have e : (tokK l).2 = run isW l := by unfold tokK; rw [if_pos h1]
   rw [e] at h ⊢
   refine ⟨isW_low _ ?_, isW_low _ (run_last isW l (by omega))⟩
   have := fst_nth _ _ h1
   unfold isW; rw [this]; rfl
 · by_cases h2 : fst isD l = true
   · have e : tokK l = numK l := by unfold tokK; rw [if_neg h1, if_pos h2]
     rw [e] at h ⊢
     refine ⟨isD_low _ (fst_nth _ _ h2), isD_low _ ?_⟩
     have r0 : 1 ≤ run isD l := by rw [run_yes isD l h2]; omega
     by_cases g1 : fst (is1 46) (l.drop (run isD l)) = true
     · by_cases g2 : run isD (l.drop (run isD l + 1)) = 0
       · have en : (numK l).2 = run isD l := by unfold numK; rw [if_pos g1, if_pos g2]
         rw [en]; exact run_last isD l r0
       · have en : (numK l).2 = run isD l + 1 + run isD (l.drop (run isD l + 1)) + expL (l.drop (run isD l + 1 + run isD (l.drop (run isD l + 1)))) := by unfold numK; rw [if_pos g1, if_neg g2]
         rw [en]
         have hb := run_last isD (l.drop (run isD l + 1)) (by omega)
         generalize run isD (l.drop (run isD l + 1)) = b at *
         generalize run isD l = a at *
         rw [nth_add] at hb
         by_cases g3 : fst (is1 101) (l.drop (a + 1 + b)) = true
         · by_cases g4 : run isD ((l.drop (a + 1 + b)).drop (1 + signLen ((l.drop (a + 1 + b)).drop 1))) = 0
           · have ee : expL (l.drop (a + 1 + b)) = 0 := by unfold expL; rw [if_pos g3, if_pos g4]
             rw [ee, show a + 1 + b + 0 - 1 = a + 1 + (b - 1) by omega]; exact hb
           · have ee : expL (l.drop (a + 1 + b)) = 1 + signLen ((l.drop (a + 1 + b)).drop 1) + run isD ((l.drop (a + 1 + b)).drop (1 + signLen ((l.drop (a + 1 + b)).drop 1))) := by unfold expL; rw [if_pos g3, if_neg g4]
             rw [ee]
             have hx := run_last isD _ (Nat.one_le_iff_ne_zero.2 g4)
             generalize run isD ((l.drop (a + 1 + b)).drop (1 + signLen ((l.drop (a + 1 + b)).drop 1))) = z at *
             rw [nth_add, nth_add] at hx
             rw [show a + 1 + b + (1 + signLen ((l.drop (a + 1 + b)).drop 1) + z) - 1 = a + 1 + b + (1 + signLen ((l.drop (a + 1 + b)).drop 1) + (z - 1)) by omega]
             exact hx
         · have ee : expL (l.drop (a + 1 + b)) = 0 := by unfold expL; rw [if_neg g3]
           rw [ee, show a + 1 + b + 0 - 1 = a + 1 + (b - 1) by omega]; exact hb
     · have en : (numK l).2 = run isD l := by unfold numK; rw [if_neg g1]
       rw [en]; exact run_last isD l r0
   · by_cases h3 : fst (is1 34) l = true
     · have e : tokK l = (5, strL l) := by unfold tokK; rw [if_neg h1, if_neg h2, if_pos h3]
       rw [e] at h ⊢
       simp only at h ⊢
       have c0 := fst_nth _ _ h3
       have c1 : l.getD 0 0 = 34 := by simpa [is1] using c0
       refine ⟨by rw [c1]; decide, ?_⟩
       cases hu : uqS l with
       | none => exfalso; apply h; unfold strL; rw [hu]
       | some p =>
        obtain ⟨v, n⟩ := p
        have hL : strL l = n := by unfold strL; rw [hu]
        rw [hL]
        unfold uqS at hu
        rw [if_pos h3] at hu
        cases he : uqB (l.drop 1) with
        | none => rw [he] at hu; cases hu
        | some y =>
         obtain ⟨y, j⟩ := y
         rw [he] at hu
         obtain ⟨rfl, rfl⟩ : y = v ∧ j + 1 = n := by simpa using hu
         have := uqB_last _ _ (Nat.lt_succ_self _) y j he
         have hj := uqF_len _ _ _ _ he
         rw [nth_drop] at this
         unfold nth at this
         rw [show j + 1 - 1 = 1 + (j - 1) by omega, this]
         decide
     · by_cases h4 : fst (is1 59) l = true
       · have e : tokK l = (7, 1) := by unfold tokK; rw [if_neg h1, if_neg h2, if_neg h3, if_pos h4]
         rw [e]
         have c0 := fst_nth _ _ h4
         have c1 : l.getD 0 0 = 59 := by simpa [is1] using c0
         exact ⟨by rw [c1]; decide, by rw [Nat.sub_self, c1]; decide⟩
       · have e : tokK l = (6, markL l) := by unfold tokK; rw [if_neg h1, if_neg h2, if_neg h3, if_neg h4]
         rw [e] at h ⊢
         simp only at h ⊢
         by_cases g1 : mk2 l = true
         · have e2 : markL l = 2 := by unfold markL; rw [if_pos g1]
           have h2l := mk2_len l g1
           rw [e2]
           match l, h2l, g1 with
           | a :: b :: t, _, g1 =>
            have : (a = 61 ∧ b = 61) ∨ (a = 33 ∧ b = 61) ∨ (a = 60 ∧ b = 61) ∨ (a = 62 ∧ b = 61) ∨ (a = 38 ∧ b = 38) ∨ (a = 124 ∧ b = 124) ∨ (a = 58 ∧ b = 61) := by simpa [mk2] using g1
            show a.toNat < 128 ∧ b.toNat < 128
            rcases this with ⟨rfl, rfl⟩ | ⟨rfl, rfl⟩ | ⟨rfl, rfl⟩ | ⟨rfl, rfl⟩ | ⟨rfl, rfl⟩ | ⟨rfl, rfl⟩ | ⟨rfl, rfl⟩ <;> decide
         · by_cases g2 : mk1 l = true
           · have e2 : markL l = 1 := by unfold markL; rw [if_neg g1, if_pos g2]
             rw [e2]
             have c0 := fst_nth _ _ g2
             have : ∀ k : Fin 256, [43, 45, 42, 47, 37, 60, 62, 33, 61, 40, 41, 123, 125, 44, 46, 58].contains (UInt8.ofNat k.val) = true → k.val < 128 := by decide +kernel
             have h5 := this ⟨(l.getD 0 0).toNat, (l.getD 0 0).toNat_lt⟩
             simp only [UInt8.ofNat_toNat] at h5
             exact ⟨h5 c0, h5 c0⟩
           · exfalso; apply h; unfold markL; rw [if_neg g1, if_neg g2]
theorem real_of (ff : List UInt8 → Nat) (l : List UInt8) (hg : gap l = (0, false)) (hl : l ≠ []) (hv : valid l = true) (h : (tokK l).2 ≠ 0) (hf : faultF ff (tokK l).1 (l.take (tokK l).2) = 0) : RealTok ff (tokK l).1 (l.take (tokK l).2) := by
 have hle := tokK_le l
 refine ⟨?_, fun m => ?_, fun m => gap_cut l m _ hg (by omega) hl, hf, valid_take l _ hv (by omega) hle (tok_low l h).2⟩
 · intro e
   have := congrArg List.length e
   rw [List.length_take, List.length_nil] at this
   omega
 · rw [tokK_cut l m h, List.length_take, Nat.min_eq_left hle]
inductive WF (ff : List UInt8 → Nat) : Option Tok → List Tok → Prop
 | nil (p : Option Tok) : (∀ t, p = some t → wants t = false) → WF ff p []
 | semi (p : Tok) (k : Nat) (us : List Tok) : wants p = true → WF ff (some (7, [], k, k)) us → WF ff (some p) ((7, [], k, k) :: us)
 | real (p : Option Tok) (t : Tok) (us : List Tok) : RealTok ff t.1 t.2.1 → WF ff (some t) us → WF ff p (t :: us)
def sumX : List Tok → Nat
 | [] => 0
 | t :: us => t.2.1.length + sumX us
theorem semi_no (k : Nat) : wants (7, [], k, k) = false := rfl
theorem ends_last (acc : List Tok) (t : Tok) (h : acc.getLast? = some t) : ends acc = if wants t then acc ++ [(7, [], t.2.2.2, t.2.2.2)] else acc := by
 unfold ends; rw [h]
theorem ends_none (acc : List Tok) (h : acc.getLast? = none) : ends acc = acc := by
 unfold ends; rw [h]
theorem wf_ends (ff : List UInt8 → Nat) (acc : List Tok) : ∃ us, ends acc = acc ++ us ∧ WF ff acc.getLast? us ∧ sumX us = 0 := by
 cases h : acc.getLast? with
 | none => exact ⟨[], by rw [ends_none acc h, List.append_nil], .nil _ (fun t ht => by cases ht), rfl⟩
 | some t =>
  rw [ends_last acc t h]
  by_cases hw : wants t = true
  · rw [if_pos hw]
    exact ⟨[_], rfl, .semi t _ [] hw (.nil _ (fun u hu => by cases hu; exact semi_no _)), rfl⟩
  · rw [if_neg hw]
    exact ⟨[], by rw [List.append_nil], .nil _ (fun u hu => by cases hu; simpa using hw), rfl⟩
theorem wf_real (ff : List UInt8 → Nat) (b : Bool) (acc : List Tok) (t : Tok) (us : List Tok) (hr : RealTok ff t.1 t.2.1) (h : WF ff (some t) us) : ∃ vs, endIf b acc ++ [t] ++ us = acc ++ vs ∧ WF ff acc.getLast? vs ∧ sumX vs = t.2.1.length + sumX us := by
 cases b with
 | false => exact ⟨t :: us, by simp [endIf], .real _ t us hr h, rfl⟩
 | true =>
  show ∃ vs, ends acc ++ [t] ++ us = acc ++ vs ∧ _
  cases hl : acc.getLast? with
  | none => exact ⟨t :: us, by rw [ends_none acc hl]; simp, .real _ t us hr h, rfl⟩
  | some p =>
   rw [ends_last acc p hl]
   by_cases hw : wants p = true
   · rw [if_pos hw]
     exact ⟨(7, [], p.2.2.2, p.2.2.2) :: t :: us, by simp, .semi p _ _ hw (.real _ t us hr h), by simp [sumX]⟩
   · rw [if_neg hw]
     exact ⟨t :: us, by simp, .real _ t us hr h, rfl⟩
theorem lexF_WF (ff : List UInt8 → Nat) : ∀ (f : Nat) (l : List UInt8), l.length < f → ∀ (acc : List Tok) (k : Nat) (ts : List Tok), valid l = true → lexF ff f acc k l = .ok ts → ∃ us, ts = acc ++ us ∧ WF ff acc.getLast? us ∧ sumX us ≤ l.length
 | 0, _, h, _, _, _, _, _ => by omega
 | f + 1, l, h, acc, k, ts, hv, he => by
  have hg := gapB_le false l
  have hst := gapB_stop false l
  have hen := gapB_end false l
  rw [lexF] at he
  change (gap l).1 ≤ l.length at hg
  by_cases h0 : l.drop (gap l).1 = []
  · rw [if_pos h0] at he
    have hb : (gap l).2 = true := hen h0
    rw [hb] at he
    obtain ⟨us, e1, e2, e3⟩ := wf_ends ff acc
    have : ends acc = ts := by injection he
    exact ⟨us, by rw [← this, e1], e2, by omega⟩
  · rw [if_neg h0] at he
    have hs : gap (l.drop (gap l).1) = (0, false) := hst h0
    by_cases h1 : (tokK (l.drop (gap l).1)).2 = 0
    · rw [if_pos h1] at he; cases he
    · rw [if_neg h1] at he
      by_cases h2 : faultF ff (tokK (l.drop (gap l).1)).1 ((l.drop (gap l).1).take (tokK (l.drop (gap l).1)).2) = 0
      · rw [if_neg (by rw [h2]; simp)] at he
        have hlow := tok_low _ h1
        have hle := tokK_le (l.drop (gap l).1)
        have hpos := List.length_pos_iff.2 h0
        rw [List.length_drop] at hle hpos
        have hv1 : valid (l.drop (gap l).1) = true := valid_at l _ hv (by omega) (by have := hlow.1; rw [nth_drop] at this; exact this)
        have hr := real_of ff _ hs h0 hv1 h1 h2
        have hv2 : valid (l.drop ((gap l).1 + (tokK (l.drop (gap l).1)).2)) = true := by
         rw [← List.drop_drop]
         exact valid_drop _ _ hv1 (by omega) (by rw [List.length_drop]; exact hle) hlow.2
        obtain ⟨us, e1, e2, e3⟩ := lexF_WF ff f _ (by rw [List.length_drop]; omega) _ _ ts hv2 he
        rw [List.getLast?_append, List.getLast?_singleton, Option.some_or] at e2
        obtain ⟨vs, g1, g2, g3⟩ := wf_real ff (gap l).2 acc _ us hr e2
        refine ⟨vs, by rw [e1, g1], g2, ?_⟩
        rw [g3, List.length_take, List.length_drop]
        rw [List.length_drop] at e3
        omega
      · rw [if_pos h2] at he; cases he
def agn1 (t : Tok) : List UInt8 := if t.1 = 7 ∧ t.2.1 = [] then [10] else t.2.1 ++ [32]
def agn (ts : List Tok) : List UInt8 := ts.flatMap agn1
theorem agn_real {ff : List UInt8 → Nat} {t : Tok} (h : RealTok ff t.1 t.2.1) : agn1 t = t.2.1 ++ [32] := by
 unfold agn1; rw [if_neg (fun hh => h.ne hh.2)]
theorem wf_len (ff : List UInt8 → Nat) (p : Option Tok) (us : List Tok) (h : WF ff p us) : (agn us).length ≤ 3 * sumX us + (match p with
 | none => 0
 | some t => if wants t then 1 else 0) := by
 induction h with
 | nil p hp => exact Nat.zero_le _
 | semi p j us hw _ ih =>
  have e : agn ((7, [], j, j) :: us) = 10 :: agn us := rfl
  rw [e, List.length_cons]
  simp only [hw, if_true]
  simp only [semi_no, Bool.false_eq_true, if_false] at ih
  simp only [sumX, List.length_nil]
  omega
 | real p t us hr _ ih =>
  have e : agn (t :: us) = t.2.1 ++ 32 :: agn us := by
   show agn1 t ++ agn us = _
   rw [agn_real hr, List.append_assoc]; rfl
  have hp := List.length_pos_iff.2 hr.ne
  rw [e, List.length_append, List.length_cons]
  simp only [sumX]
  simp only at ih
  have : (if wants t = true then 1 else 0) ≤ 1 := by split <;> omega
  omega
theorem full_valid {l : List UInt8} (h : ¬ good l < l.length) : valid l = true := by
 have := good_le l
 rw [valid_good, decide_eq_true_eq]; omega
theorem tokens_WF (ff : List UInt8 → Nat) (l : List UInt8) (ts : List Tok) (h : tokensL ff l = .ok ts) : WF ff none ts ∧ sumX ts ≤ l.length := by
 unfold tokensL at h
 split at h
 · cases h
 · split at h
   · cases h
   · rename_i hg
     obtain ⟨us, e1, e2, e3⟩ := lexF_WF ff _ l (Nat.lt_succ_self _) [] 0 ts (full_valid hg) h
     rw [List.nil_append] at e1
     subst e1
     exact ⟨e2, e3⟩
theorem again_len (ff : List UInt8 → Nat) (l : List UInt8) (ts : List Tok) (h : tokensL ff l = .ok ts) : (agn ts).length ≤ 3 * l.length := by
 obtain ⟨h1, h2⟩ := tokens_WF ff l ts h
 have := wf_len ff none ts h1
 simp only at this
 omega
end Go.Proofs.YtmlclgkhnekmnaaGreatDoor
namespace Go.Proofs.YtmlclgkhnekmnaaGreatDoor
def idleB : Bool → List UInt8 → Bool
 | _, [] => true
 | true, c :: l => if c.toNat = 10 then idleB false l else idleB true l
 | false, c :: l => if fst (is1 47) (c :: l) && fst (is1 47) l then idleB true l else if [32, 9, 10, 13].contains c then idleB false l else false
theorem idle_gap : ∀ (com : Bool) (l : List UInt8), idleB com (l.take (gapB com l).1) = true
 | true, [] => rfl
 | false, [] => rfl
 | com, c :: l => by
  have h1 := idle_gap false l
  have h2 := idle_gap true l
  rw [gapB]
  split
  · rename_i g
    simp only
    rw [List.take_succ_cons]
    have e : c = 10 := UInt8.toNat_inj.1 g
    subst e
    cases com with
    | true => exact h1
    | false =>
     have : idleB false (10 :: l.take (gapB false l).1) = idleB false (l.take (gapB false l).1) := rfl
     rw [this]; exact h1
  · rename_i g
    split
    · rename_i g2
      subst g2
      simp only
      rw [List.take_succ_cons, idleB, if_neg g]; exact h2
    · rename_i g2
      have g2 : com = false := by simpa using g2
      subst g2
      split
      · rename_i g3
        simp only
        rw [List.take_succ_cons, idleB]
        rw [Bool.and_eq_true] at g3
        have : fst (is1 47) (l.take (gapB true l).1) = true := by
         cases l with
         | nil => simp [fst] at g3
         | cons d t =>
          have hd : d = 47 := by
           have := g3.2
           simpa [fst, is1] using this
          subst hd
          have : (gapB true (47 :: t)).1 = (gapB true t).1 + 1 := rfl
          rw [this, List.take_succ_cons]; rfl
        rw [if_pos (by rw [Bool.and_eq_true]; exact ⟨g3.1, this⟩)]
        exact h2
      · rename_i g3
        split
        · rename_i g4
          simp only
          rw [List.take_succ_cons, idleB]
          have hc : c = 32 ∨ c = 9 ∨ c = 13 := by simpa [isBk] using g4
          rw [if_neg (by rcases hc with rfl | rfl | rfl <;> simp [fst, is1]), if_pos (by rcases hc with rfl | rfl | rfl <;> decide)]
          exact h1
        · rfl
def tile1 (l : List UInt8) (at0 : Nat) (first : Bool) (t : Tok) : Prop :=
 at0 ≤ t.2.2.1 ∧ t.2.2.1 ≤ t.2.2.2 ∧ t.2.2.2 ≤ l.length ∧ (l.drop t.2.2.1).take (t.2.2.2 - t.2.2.1) = t.2.1 ∧ idleB false ((l.drop at0).take (t.2.2.1 - at0)) = true ∧ (t.2.2.1 = t.2.2.2 → t.1 = 7 ∧ first = false ∧ at0 = t.2.2.1)
def TileL (l : List UInt8) : Nat → Bool → List Tok → Prop
 | at0, _, [] => at0 ≤ l.length ∧ idleB false (l.drop at0) = true
 | at0, b, t :: us => tile1 l at0 b t ∧ TileL l t.2.2.2 false us
def lastTo (acc : List Tok) : Nat := match acc.getLast? with
 | none => 0
 | some t => t.2.2.2
theorem tile_ends (l : List UInt8) (acc : List Tok) (us : List Tok) (k : Nat) (hk : k ≤ l.length) (hl : lastTo acc = k) (b : Bool) (h : TileL l k (acc.isEmpty) us) : ∃ vs, endIf b acc ++ us = acc ++ vs ∧ TileL l k acc.isEmpty vs := by
 cases b with
 | false => exact ⟨us, rfl, h⟩
 | true =>
  show ∃ vs, ends acc ++ us = acc ++ vs ∧ _
  cases hg : acc.getLast? with
  | none => exact ⟨us, by rw [ends_none acc hg], h⟩
  | some p =>
   have hp : p.2.2.2 = k := by unfold lastTo at hl; rw [hg] at hl; exact hl
   rw [ends_last acc p hg]
   by_cases hw : wants p = true
   · rw [if_pos hw]
     have hne : acc.isEmpty = false := by
      cases acc with
      | nil => cases hg
      | cons a b => rfl
     refine ⟨(7, [], p.2.2.2, p.2.2.2) :: us, by simp, ?_⟩
     rw [hp, hne]
     rw [hne] at h
     refine ⟨⟨Nat.le_refl _, Nat.le_refl _, hk, by rw [Nat.sub_self]; rfl, by rw [Nat.sub_self]; rfl, fun _ => ⟨rfl, rfl, rfl⟩⟩, h⟩
   · rw [if_neg hw]
     exact ⟨us, rfl, h⟩
theorem lexF_tiles (ff : List UInt8 → Nat) (l : List UInt8) : ∀ (f k : Nat) (acc ts : List Tok), l.length - k < f → k ≤ l.length → lastTo acc = k → lexF ff f acc k (l.drop k) = .ok ts → ∃ us, ts = acc ++ us ∧ TileL l k acc.isEmpty us
 | 0, _, _, _, h, _, _, _ => by omega
 | f + 1, k, acc, ts, h, hk, hl, he => by
  have hg := gapB_le false (l.drop k)
  have hid := idle_gap false (l.drop k)
  change (gap (l.drop k)).1 ≤ _ at hg
  change idleB false ((l.drop k).take (gap (l.drop k)).1) = true at hid
  rw [List.length_drop] at hg
  rw [lexF, List.drop_drop] at he
  by_cases h0 : l.drop (k + (gap (l.drop k)).1) = []
  · rw [if_pos h0] at he
    have hlen := congrArg List.length h0
    rw [List.length_drop, List.length_nil] at hlen
    rw [List.take_of_length_le (by rw [List.length_drop]; omega)] at hid
    obtain ⟨vs, g1, g2⟩ := tile_ends l acc [] k hk hl (gap (l.drop k)).2 ⟨hk, hid⟩
    have : endIf (gap (l.drop k)).2 acc = ts := by injection he
    exact ⟨vs, by rw [← this, ← g1, List.append_nil], g2⟩
  · rw [if_neg h0] at he
    by_cases h1 : (tokK (l.drop (k + (gap (l.drop k)).1))).2 = 0
    · rw [if_pos h1] at he; cases he
    · rw [if_neg h1] at he
      have hle := tokK_le (l.drop (k + (gap (l.drop k)).1))
      rw [List.length_drop] at hle
      generalize htk : tokK (l.drop (k + (gap (l.drop k)).1)) = tk at *
      generalize (gap (l.drop k)).1 = g at *
      by_cases h2 : faultF ff tk.1 ((l.drop (k + g)).take tk.2) = 0
      · rw [if_neg (by rw [h2]; simp), List.drop_drop, show k + (g + tk.2) = k + g + tk.2 by omega] at he
        obtain ⟨us, e1, e2⟩ := lexF_tiles ff l f (k + g + tk.2) _ ts (by omega) (by omega) (by unfold lastTo; rw [List.getLast?_append, List.getLast?_singleton]; rfl) he
        have hemp : (endIf (gap (l.drop k)).2 acc ++ [(tk.1, (l.drop (k + g)).take tk.2, k + g, k + g + tk.2)]).isEmpty = false := by simp
        rw [hemp] at e2
        obtain ⟨vs, g1, g2⟩ := tile_ends l acc ((tk.1, (l.drop (k + g)).take tk.2, k + g, k + g + tk.2) :: us) k hk hl (gap (l.drop k)).2
         ⟨⟨by simp only; omega, by simp only; omega, by simp only; omega, by simp only; rw [show k + g + tk.2 - (k + g) = tk.2 by omega], by simp only; rw [show k + g - k = g by omega]; exact hid, fun hh => by simp only at hh; omega⟩, e2⟩
        refine ⟨vs, ?_, g2⟩
        rw [e1, ← g1]; simp
      · rw [if_pos h2] at he; cases he
theorem tiles_of (ff : List UInt8 → Nat) (l : List UInt8) (ts : List Tok) (h : tokensL ff l = .ok ts) : TileL l 0 true ts := by
 unfold tokensL at h
 split at h
 · cases h
 · split at h
   · cases h
   · obtain ⟨us, e1, e2⟩ := lexF_tiles ff l (l.length + 1) 0 [] ts (by omega) (by omega) rfl h
     rw [List.nil_append] at e1
     subst e1
     exact e2
theorem lexF_place (ff : List UInt8 → Nat) : ∀ (f : Nat) (l : List UInt8), l.length < f → ∀ (acc : List Tok) (k p e : Nat), lexF ff f acc k l = .error (p, e) → k ≤ p ∧ p < k + l.length ∧ e ≠ 0
 | 0, _, h, _, _, _, _, _ => by omega
 | f + 1, l, h, acc, k, p, e, he => by
  have hg := gapB_le false l
  change (gap l).1 ≤ l.length at hg
  rw [lexF] at he
  by_cases h0 : l.drop (gap l).1 = []
  · rw [if_pos h0] at he; cases he
  · rw [if_neg h0] at he
    have hpos := List.length_pos_iff.2 h0
    rw [List.length_drop] at hpos
    by_cases h1 : (tokK (l.drop (gap l).1)).2 = 0
    · rw [if_pos h1] at he
      injection he with he
      injection he with e1 e2
      omega
    · rw [if_neg h1] at he
      by_cases h2 : faultF ff (tokK (l.drop (gap l).1)).1 ((l.drop (gap l).1).take (tokK (l.drop (gap l).1)).2) = 0
      · rw [if_neg (by rw [h2]; simp)] at he
        have hle := tokK_le (l.drop (gap l).1)
        rw [List.length_drop] at hle
        have := lexF_place ff f _ (by rw [List.length_drop]; omega) _ _ p e he
        rw [List.length_drop] at this
        omega
      · rw [if_pos h2] at he
        injection he with he
        injection he with e1 e2
        exact ⟨by omega, by omega, by rw [← e2]; exact h2⟩
theorem place_in (ff : List UInt8 → Nat) (l : List UInt8) (p e : Nat) (h : tokensL ff l = .error (p, e)) (hl : l.length ≤ 65536) : p < l.length ∧ e ≠ 0 := by
 unfold tokensL at h
 rw [if_neg (by omega)] at h
 split at h
 · rename_i hg
   injection h with h
   injection h with e1 e2
   omega
 · have := lexF_place ff _ l (Nat.lt_succ_self _) [] 0 p e h
   omega
def nameB (s : List UInt8) : Bool := fst isLt s && decide (run isW s = s.length) && !isRes s && decide (nameF s = 0)
structure NameIs (s : List UInt8) : Prop where
 lt : fst isLt s = true
 run : run isW s = s.length
 res : isRes s = false
 ok : nameF s = 0
end Go.Proofs.YtmlclgkhnekmnaaGreatDoor
