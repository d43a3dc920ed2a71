/-
  emendref03.Next AT EVERY TEXT of at most 1000000 bytes, from every place of it from which on it is valid: what it returns; no memory that was there turns. Conditions: the text's length, the text's validity from the place on.
-/
import Derived.Test.YtmkjoonbjmieoaaGreatDoorQRefNum
import Derived.Test.YtmkjoonbjmieoaaGreatDoorQRefStr
import Derived.Test.YtmkjoonbjmieoaaGreatDoorQPlain5
import Derived.Test.YtmkjoonbjmieoaaGreatDoorQPlain6
import Derived.Test.YtmkjoonbjmieoaaGreatDoorQToks
import Derived.Laws.NewBlocks
import Derived.Deep.DeepCutAuto
import Derived.Deep.CutBlock
namespace Go.Proofs.YtmkjoonbjmieoaaGreatDoor
open Go.RowKit

/-- What Next hands back. -/
def NextIs (i : Nat) (o : Option Tk) (e : Ending) : Prop :=
  match o with
  | some (q, x, n) => e = .returned (.agg #[.int .i64 (q : Int), .string (txt x), .int .i64 (i : Int), .int .i64 ((i + n : Nat) : Int)])
  | none => ∃ q x f, e = .returned (.agg #[.int .i64 q, .string x, .int .i64 f, .int .i64 0])
def otherO (l : List UInt8) : Option Tk := if wordLen l ≠ 0 then some (2, l.take (wordLen l), wordLen l) else if numLen l ≠ 0 then some (3, l.take (numLen l), numLen l) else none
theorem results_cell_one {fn : Func} {p : Tmp} {ty : TypeId} (h : fn.results = #[.cell p ty]) (tmps : Array Value) (P : Program) (w : World) :
    (results fn tmps).run P w = ((asAddr (tmps.getD p undef)).run P w).andThen fun a w₁ => (loadVar ty a).run P w₁ := by
  simp only [results, h]
  simp [Sem.run_bind, Result.andThen]
theorem next_ret {N : Nat} {wq : World} {Q : Ending → World → Prop} (tmps : Array Value) (h4 : tmps.getD 4 undef = .pointer (some ⟨N, 0, none⟩)) (a b c d : Value)
    (hg : wq.heap[N]? = some (.cells #[a, b, c, d] 99 (0, 0))) (hq : Q (.returned (.agg #[a, b, c, d])) wq) : bodyPost Tryz.prog Tryz.f73 Q Exit.ret ⟨tmps, []⟩ wq := by
  refine bodyPost_ret (v := .agg #[a, b, c, d]) ?_ rfl hq
  rw [results_cell_one (p := 4) (ty := 99) rfl, h4]
  have hl := run_loadVar_row (P := Tryz.prog) wq N 99 99 #[a, b, c, d] (0, 0) _ hg Tryz.underlying99 rfl (by kernel_rfl)
  simp [asAddr, Result.andThen, hl]
theorem alloc_top (w : World) (o : Array Value) (t : TypeId) : (w.alloc (.cells o t)).heap[w.heap.size]? = some (.cells o t (0, 0)) := by
  unfold World.alloc
  exact Array.getElem?_push_size
theorem alloc_below (w : World) (o : Obj) : Below w.heap.size w (w.alloc o) := (Below.refl _ _).alloc (Nat.le_refl _) _
def zeroR : Array Value := #[.int .i64 0, .string ⟨#[]⟩, .int .i64 0, .int .i64 0]
/-- A result's block in a later world, and what it holds behind stores. -/
theorem zero_cells {W : World} {N : Nat} (h : W.heap[N]? = some (.cells #[.int .i64 0, .string ⟨#[]⟩, .int .i64 0, .int .i64 0] 99 (0, 0))) : W.cell? ⟨N, 0, none⟩ = some (.int .i64 0) ∧ W.cell? ⟨N, 1, none⟩ = some (.string ⟨#[]⟩) ∧ W.cell? ⟨N, 2, none⟩ = some (.int .i64 0) ∧ W.cell? ⟨N, 3, none⟩ = some (.int .i64 0) ∧ W.frozen? ⟨N, 0, none⟩ = false ∧ W.frozen? ⟨N, 1, none⟩ = false ∧ W.frozen? ⟨N, 2, none⟩ = false ∧ W.frozen? ⟨N, 3, none⟩ = false := by
  refine ⟨?_, ?_, ?_, ?_, ?_, ?_, ?_, ?_⟩
  all_goals first | (unfold World.cell?; simp only [h]; rfl) | (unfold World.frozen?; simp only [h]; rfl)
theorem zero_set {W : World} {N i : Nat} {cs : Array Value} (h : W.heap[N]? = some (.cells cs 99 (0, 0))) (v : Value) : (W.setCell ⟨N, i, none⟩ v).heap[N]? = some (.cells (cs.setIfInBounds i v) 99 (0, 0)) :=
  heap_setCell_same W N i cs 99 v h
set_option maxRecDepth 100000 in
theorem refNext_123 (s : ByteArray) (i : Nat) (h : i < s.size) (hs : s.size ≤ 1000000) (hx : s[i].toNat = 123) (w : World) : Calls Tryz.prog 73 #[.string s, .int .i64 i] w fun e w' => e = .returned (.agg #[.int .i64 1, .string (s.extract i (i + 1)), .int .i64 i, .int .i64 ((i : Int) + 1)]) ∧ Below w.heap.size w w' := by
  go_enter Tryz.func73, Tryz.ntmps73
  go_wp2
  exact next_ret _ rfl _ _ _ _ (alloc_top _ _ _) ⟨rfl, alloc_below _ _⟩
set_option maxRecDepth 100000 in
theorem refNext_125 (s : ByteArray) (i : Nat) (h : i < s.size) (hs : s.size ≤ 1000000) (hx : s[i].toNat = 125) (w : World) : Calls Tryz.prog 73 #[.string s, .int .i64 i] w fun e w' => e = .returned (.agg #[.int .i64 1, .string (s.extract i (i + 1)), .int .i64 i, .int .i64 ((i : Int) + 1)]) ∧ Below w.heap.size w w' := by
  go_enter Tryz.func73, Tryz.ntmps73
  go_wp2
  exact next_ret _ rfl _ _ _ _ (alloc_top _ _ _) ⟨rfl, alloc_below _ _⟩
set_option maxRecDepth 100000 in
theorem refNext_91 (s : ByteArray) (i : Nat) (h : i < s.size) (hs : s.size ≤ 1000000) (hx : s[i].toNat = 91) (w : World) : Calls Tryz.prog 73 #[.string s, .int .i64 i] w fun e w' => e = .returned (.agg #[.int .i64 1, .string (s.extract i (i + 1)), .int .i64 i, .int .i64 ((i : Int) + 1)]) ∧ Below w.heap.size w w' := by
  go_enter Tryz.func73, Tryz.ntmps73
  go_wp2
  exact next_ret _ rfl _ _ _ _ (alloc_top _ _ _) ⟨rfl, alloc_below _ _⟩
set_option maxRecDepth 100000 in
theorem refNext_93 (s : ByteArray) (i : Nat) (h : i < s.size) (hs : s.size ≤ 1000000) (hx : s[i].toNat = 93) (w : World) : Calls Tryz.prog 73 #[.string s, .int .i64 i] w fun e w' => e = .returned (.agg #[.int .i64 1, .string (s.extract i (i + 1)), .int .i64 i, .int .i64 ((i : Int) + 1)]) ∧ Below w.heap.size w w' := by
  go_enter Tryz.func73, Tryz.ntmps73
  go_wp2
  exact next_ret _ rfl _ _ _ _ (alloc_top _ _ _) ⟨rfl, alloc_below _ _⟩
set_option maxRecDepth 100000 in
theorem refNext_58 (s : ByteArray) (i : Nat) (h : i < s.size) (hs : s.size ≤ 1000000) (hx : s[i].toNat = 58) (w : World) : Calls Tryz.prog 73 #[.string s, .int .i64 i] w fun e w' => e = .returned (.agg #[.int .i64 1, .string (s.extract i (i + 1)), .int .i64 i, .int .i64 ((i : Int) + 1)]) ∧ Below w.heap.size w w' := by
  go_enter Tryz.func73, Tryz.ntmps73
  go_wp2
  exact next_ret _ rfl _ _ _ _ (alloc_top _ _ _) ⟨rfl, alloc_below _ _⟩
set_option maxRecDepth 100000 in
theorem refNext_44 (s : ByteArray) (i : Nat) (h : i < s.size) (hs : s.size ≤ 1000000) (hx : s[i].toNat = 44) (w : World) : Calls Tryz.prog 73 #[.string s, .int .i64 i] w fun e w' => e = .returned (.agg #[.int .i64 1, .string (s.extract i (i + 1)), .int .i64 i, .int .i64 ((i : Int) + 1)]) ∧ Below w.heap.size w w' := by
  go_enter Tryz.func73, Tryz.ntmps73
  go_wp2
  exact next_ret _ rfl _ _ _ _ (alloc_top _ _ _) ⟨rfl, alloc_below _ _⟩
set_option maxRecDepth 100000 in
set_option maxHeartbeats 1000000 in
theorem refNext_34 (s : ByteArray) (i : Nat) (h : i < s.size) (hx : s[i].toNat = 34) (x : ByteArray) (z : Int) (HQ : Hid (∀ w, Calls Tryz.prog 105 #[.string s, .int .i64 i] w fun e w' => e = .returned (.tuple #[.string x, .int .i64 z]) ∧ Below w.heap.size w w')) (w : World) : Calls Tryz.prog 73 #[.string s, .int .i64 i] w fun e w' => e = .returned (.agg #[.int .i64 4, .string x, .int .i64 i, .int .i64 z]) ∧ Below w.heap.size w w' := by
  go_enter Tryz.func73, Tryz.ntmps73
  go_wp2_with fail
  have HA := Lib.hid (alloc_top w #[.int .i64 0, .string ⟨#[]⟩, .int .i64 0, .int .i64 0] 99)
  have HB0 := Lib.hid (alloc_below w (.cells #[.int .i64 0, .string ⟨#[]⟩, .int .i64 0, .int .i64 0] 99))
  generalize w.alloc (.cells #[.int .i64 0, .string ⟨#[]⟩, .int .i64 0, .int .i64 0] 99) = w0 at *
  refine (HQ.out _).mono ?_
  rintro e w1 ⟨rfl, hb⟩
  have HG := Lib.hid (heap_keep hb HA.out)
  have HB1 := Lib.hid (HB0.out.trans (hb.mono HB0.out.size))
  obtain ⟨c0, c1, c2, c3, f0, f1, f2, f3⟩ := zero_cells HG.out
  clear hb
  go_wp2_with fail
  refine next_ret _ rfl (.int .i64 4) (.string x) (.int .i64 i) (.int .i64 z) (zero_set (zero_set (zero_set (zero_set HG.out _) _) _) _) ⟨rfl, ?_⟩
  exact (((HB1.out.setCell (Nat.le_refl _) _).setCell (Nat.le_refl _) _).setCell (Nat.le_refl _) _).setCell (Nat.le_refl _) _
set_option maxRecDepth 100000 in
set_option maxHeartbeats 4000000 in
theorem refNext_other (s : ByteArray) (i : Nat) (h : i < s.size) (hs : s.size ≤ 1000000) (hx : s[i].toNat ≠ 123 ∧ s[i].toNat ≠ 125 ∧ s[i].toNat ≠ 91 ∧ s[i].toNat ≠ 93 ∧ s[i].toNat ≠ 58 ∧ s[i].toNat ≠ 44 ∧ s[i].toNat ≠ 34) (w : World) : Calls Tryz.prog 73 #[.string s, .int .i64 i] w fun e w' => NextIs i (otherO (rest s i)) e ∧ Below w.heap.size w w' := by
  obtain ⟨x, hxx⟩ : ∃ x, s[i].toNat = x := ⟨_, rfl⟩
  rw [hxx] at hx
  obtain ⟨h1, h2, h3, h4, h5, h6, h7⟩ := hx
  have q1 : ((x : Int) == 123) = false := by simp only [beq_eq_false_iff_ne, ne_eq]; omega
  have q2 : ((x : Int) == 125) = false := by simp only [beq_eq_false_iff_ne, ne_eq]; omega
  have q3 : ((x : Int) == 91) = false := by simp only [beq_eq_false_iff_ne, ne_eq]; omega
  have q4 : ((x : Int) == 93) = false := by simp only [beq_eq_false_iff_ne, ne_eq]; omega
  have q5 : ((x : Int) == 58) = false := by simp only [beq_eq_false_iff_ne, ne_eq]; omega
  have q6 : ((x : Int) == 44) = false := by simp only [beq_eq_false_iff_ne, ne_eq]; omega
  have q7 : ((x : Int) == 34) = false := by simp only [beq_eq_false_iff_ne, ne_eq]; omega
  have HN := Lib.hid (fun w => numbered_any s i (Nat.le_of_lt h) hs w)
  have hnl := numLen_le (rest s i)
  rw [rest_len] at hnl
  have hrl := run_le isL (rest s i)
  rw [rest_len] at hrl
  have HW : Hid (wordLen (rest s i) = if isWord ((rest s i).take (run isL (rest s i))) then run isL (rest s i) else 0) := Lib.hid rfl
  clear h1 h2 h3 h4 h5 h6 h7
  have hL : i + run isL (rest s i) ≤ s.size := by omega
  go_enter Tryz.func73, Tryz.ntmps73
  go_upto_block 1 with fail
  have HA := Lib.hid (alloc_top w #[.int .i64 0, .string ⟨#[]⟩, .int .i64 0, .int .i64 0] 99)
  have HB0 := Lib.hid (alloc_below w (.cells #[.int .i64 0, .string ⟨#[]⟩, .int .i64 0, .int .i64 0] 99))
  generalize w.alloc (.cells #[.int .i64 0, .string ⟨#[]⟩, .int .i64 0, .int .i64 0] 99) = w0 at *
  go_cut [7] (fun v wx => v = .int .i64 ((i + run isL (rest s i) : Nat) : Int) ∧ wx = w0)
  case first =>
    clear HN HW HA HB0
    go_wp2_with fail
    go_loop [7] (fun u => ∃ k : Nat, i ≤ k ∧ k ≤ s.size ∧ u = .int .i64 k ∧ Hid (k + run isL (rest s k) = i + run isL (rest s i))) (fun u => s.size - (intOf u).toNat)
    case atStart => exact ⟨i, Nat.le_refl _, Nat.le_of_lt h, rfl, Lib.hid rfl⟩
    case round =>
      obtain ⟨k, hik, hk, rfl, hrel⟩ := hrel
      by_cases hlt : k < s.size
      · have d0 : decide (k < s.size) = true := by simpa using hlt
        by_cases a1 : 97 ≤ s[k].toNat
        · have d1 : decide (97 ≤ (s[k].toNat : Int)) = true := by simp; omega
          by_cases a2 : s[k].toNat ≤ 122
          · have d2 : decide ((s[k].toNat : Int) ≤ 122) = true := by simp; omega
            have hf : fst isL (rest s k) = true := by rw [fst_at _ s k hlt]; unfold isL; rw [decide_eq_true a1, decide_eq_true a2]; rfl
            have HR : Hid (k + 1 + run isL (rest s (k + 1)) = i + run isL (rest s i)) := Lib.hid (by rw [← hrel.out, run_yes isL _ hf, rest_drop]; omega)
            clear hrel hf
            go_wp2_with fail
            go_round
            case rel => exact ⟨k + 1, by omega, by omega, by go_num, HR⟩
            case measure => simp [intOf]; omega
          · have d2 : decide ((s[k].toNat : Int) ≤ 122) = false := by simp; omega
            have hf : fst isL (rest s k) = false := by rw [fst_at _ s k hlt]; unfold isL; rw [decide_eq_false a2, Bool.and_false]
            have HR : Hid (k = i + run isL (rest s i)) := Lib.hid (by rw [← hrel.out, run_no isL _ hf]; rfl)
            clear hrel hf
            go_wp2_with fail
            go_meet
            exact ⟨by rw [HR.out], rfl⟩
        · have d1 : decide (97 ≤ (s[k].toNat : Int)) = false := by simp; omega
          have hf : fst isL (rest s k) = false := by rw [fst_at _ s k hlt]; unfold isL; rw [decide_eq_false a1, Bool.false_and]
          have HR : Hid (k = i + run isL (rest s i)) := Lib.hid (by rw [← hrel.out, run_no isL _ hf]; rfl)
          clear hrel hf
          go_wp2_with fail
          go_meet
          exact ⟨by rw [HR.out], rfl⟩
      · have d0 : decide (k < s.size) = false := by simpa using hlt
        have HR : Hid (k = i + run isL (rest s i)) := Lib.hid (by rw [← hrel.out, rest_end s k hlt]; rfl)
        clear hrel
        go_wp2_with fail
        go_meet
        exact ⟨by rw [HR.out], rfl⟩
  case rest =>
    obtain ⟨rfl, rfl⟩ := hcut
    obtain ⟨c0, c1, c2, c3, f0, f1, f2, f3⟩ := zero_cells HA.out
    have hT : (s.extract i (i + run isL (rest s i))).toList = (rest s i).take (run isL (rest s i)) := by rw [Lib.toList_data, ← extract_take]
    have hw2 := HW.out
    unfold isWord at hw2
    rw [← hT] at hw2
    have hX : s.extract i (i + run isL (rest s i)) = txt ((rest s i).take (run isL (rest s i))) := txt_take s i _
    generalize hl : run isL (rest s i) = L at *
    clear HW
    by_cases hw : wordLen (rest s i) ≠ 0
    · have hwL : wordLen (rest s i) = L := by
        rw [hw2]; rw [hw2] at hw
        split at hw
        · rw [if_pos (by assumption)]
        · exact absurd rfl hw
      have HV : Hid (NextIs i (otherO (rest s i)) (.returned (.agg #[.int .i64 2, .string (s.extract i (i + L)), .int .i64 i, .int .i64 ((i + L : Nat) : Int)]))) := Lib.hid (by
        unfold otherO; rw [if_pos hw, hwL, hX]; rfl)
      have hor : ((s.extract i (i + L)).toList == [116, 114, 117, 101]) = true ∨ (((s.extract i (i + L)).toList == [116, 114, 117, 101]) = false ∧ ((s.extract i (i + L)).toList == [102, 97, 108, 115, 101]) = true) ∨ (((s.extract i (i + L)).toList == [116, 114, 117, 101]) = false ∧ ((s.extract i (i + L)).toList == [102, 97, 108, 115, 101]) = false ∧ ((s.extract i (i + L)).toList == [110, 117, 108, 108]) = true) := by
        rw [hw2] at hw
        generalize ((s.extract i (i + L)).toList == [116, 114, 117, 101]) = e1 at *
        generalize ((s.extract i (i + L)).toList == [102, 97, 108, 115, 101]) = e2 at *
        generalize ((s.extract i (i + L)).toList == [110, 117, 108, 108]) = e3 at *
        cases e1 <;> cases e2 <;> cases e3 <;> first | exact .inl rfl | exact .inr (.inl ⟨rfl, rfl⟩) | exact .inr (.inr ⟨rfl, rfl, rfl⟩) | exact absurd rfl hw
      clear hw hw2 hwL hX hT hl HN
      rcases hor with e1 | ⟨e1, e2⟩ | ⟨e1, e2, e3⟩
      all_goals go_wp2_with fail
      all_goals refine next_ret _ rfl (.int .i64 2) (.string (s.extract i (i + L))) (.int .i64 i) (.int .i64 ((i + L : Nat) : Int)) (zero_set (zero_set (zero_set (zero_set HA.out _) _) _) _) ⟨HV.out, ?_⟩
      all_goals exact (((HB0.out.setCell (Nat.le_refl _) _).setCell (Nat.le_refl _) _).setCell (Nat.le_refl _) _).setCell (Nat.le_refl _) _
    · have hw0 : wordLen (rest s i) = 0 := by simpa using hw
      have hno : (L = 0 ∨ isWord ((rest s i).take L) = false) := by
        rw [hw0] at hw2
        by_cases hh : isWord ((rest s i).take L) = true
        · left
          unfold isWord at hh
          rw [← hT] at hh
          rw [if_pos hh] at hw2
          exact hw2.symm
        · right; simpa using hh
      have hwf : isWord ((rest s i).take L) = false := by
        rcases hno with h0 | h0
        · subst h0; rfl
        · exact h0
      unfold isWord at hwf
      rw [← hT, Bool.or_eq_false_iff, Bool.or_eq_false_iff] at hwf
      obtain ⟨⟨e1, e2⟩, e3⟩ := hwf
      clear hw2 hT hX hno hl
      by_cases hn : numLen (rest s i) ≠ 0
      · have HV : Hid (NextIs i (otherO (rest s i)) (.returned (.agg #[.int .i64 3, .string (s.extract i (i + numLen (rest s i))), .int .i64 i, .int .i64 ((i + numLen (rest s i) : Nat) : Int)]))) := Lib.hid (by
          unfold otherO; rw [if_neg hw, if_pos hn, txt_take]; rfl)
        have hgt : decide ((i : Int) < ((i + numLen (rest s i) : Nat) : Int)) = true := by rw [decide_eq_true_eq]; omega
        have hgt2 : decide (i < i + numLen (rest s i)) = true := by rw [decide_eq_true_eq]; omega
        have hgt3 : decide (0 < numLen (rest s i)) = true := by rw [decide_eq_true_eq]; omega
        generalize numLen (rest s i) = N at *
        have hN0 : 0 < N := by simpa using hgt3
        clear hw hw0 hn
        go_wp2_with fail
        refine (HN.out _).mono ?_
        rintro e w' ⟨rfl, rfl⟩
        go_wp2_with fail
        refine next_ret _ rfl (.int .i64 3) (.string (s.extract i (i + N))) (.int .i64 i) (.int .i64 ((i + N : Nat) : Int)) (zero_set (zero_set (zero_set (zero_set HA.out _) _) _) _) ⟨HV.out, ?_⟩
        exact (((HB0.out.setCell (Nat.le_refl _) _).setCell (Nat.le_refl _) _).setCell (Nat.le_refl _) _).setCell (Nat.le_refl _) _
      · have HV : Hid (NextIs i (otherO (rest s i)) (.returned (.agg #[.int .i64 0, .string ⟨#[]⟩, .int .i64 0, .int .i64 0]))) := Lib.hid (by
          unfold otherO; rw [if_neg hw, if_neg hn]; exact ⟨_, _, _, rfl⟩)
        have hn0 : numLen (rest s i) = 0 := by simpa using hn
        rw [hn0] at HN
        have hgt : decide ((i : Int) < ((i + 0 : Nat) : Int)) = false := by rw [decide_eq_false_iff_not]; omega
        clear hw hw0 hn hn0
        go_wp2_with fail
        refine (HN.out _).mono ?_
        rintro e w' ⟨rfl, rfl⟩
        go_wp2_with fail
        refine next_ret _ rfl (.int .i64 0) (.string ⟨#[]⟩) (.int .i64 0) (.int .i64 0) (zero_set (zero_set (zero_set (zero_set HA.out _) _) _) _) ⟨HV.out, ?_⟩
        exact (((HB0.out.setCell (Nat.le_refl _) _).setCell (Nat.le_refl _) _).setCell (Nat.le_refl _) _).setCell (Nat.le_refl _) _
theorem mark_at (s : ByteArray) (i : Nat) (h : i < s.size) : markLen (rest s i) = if isM s[i] then 1 else 0 := by
  unfold markLen; rw [fst_at _ s i h]
theorem isM_eq (c : UInt8) : isM c = true ↔ (c.toNat = 123 ∨ c.toNat = 125 ∨ c.toNat = 91 ∨ c.toNat = 93 ∨ c.toNat = 58 ∨ c.toNat = 44) := by
  have : ∀ k : Fin 256, isM (UInt8.ofNat k.val) = decide (k.val = 123 ∨ k.val = 125 ∨ k.val = 91 ∨ k.val = 93 ∨ k.val = 58 ∨ k.val = 44) := by decide +kernel
  have h := this ⟨c.toNat, c.toNat_lt⟩
  simp only [UInt8.ofNat_toNat] at h
  rw [h, decide_eq_true_eq]
/-- ████ -/
theorem refNext_any (s : ByteArray) (i : Nat) (h : i < s.size) (hs : s.size ≤ 1000000) (hv : valid (rest s i) = true) (w : World) : Calls Tryz.prog 73 #[.string s, .int .i64 i] w fun e w' => NextIs i (tokP (rest s i)) e ∧ Below w.heap.size w w' := by
  unfold tokP
  have hm := mark_at s i h
  by_cases h1 : isM s[i] = true
  · rw [if_pos h1] at hm
    rw [hm, if_pos (by decide)]
    have hV : NextIs i (some (1, (rest s i).take 1, 1)) (.returned (.agg #[.int .i64 1, .string (s.extract i (i + 1)), .int .i64 i, .int .i64 ((i : Int) + 1)])) := by
      rw [txt_take]; rfl
    have key : ∀ {w : World}, (Calls Tryz.prog 73 #[.string s, .int .i64 i] w fun e w' => e = .returned (.agg #[.int .i64 1, .string (s.extract i (i + 1)), .int .i64 i, .int .i64 ((i : Int) + 1)]) ∧ Below w.heap.size w w') → Calls Tryz.prog 73 #[.string s, .int .i64 i] w fun e w' => NextIs i (some (1, (rest s i).take 1, 1)) e ∧ Below w.heap.size w w' := fun hc => hc.mono fun e w' ⟨h1, h2⟩ => ⟨by rw [h1]; exact hV, h2⟩
    rcases (isM_eq s[i]).1 h1 with hx | hx | hx | hx | hx | hx
    · exact key (refNext_123 s i h hs hx w)
    · exact key (refNext_125 s i h hs hx w)
    · exact key (refNext_91 s i h hs hx w)
    · exact key (refNext_93 s i h hs hx w)
    · exact key (refNext_58 s i h hs hx w)
    · exact key (refNext_44 s i h hs hx w)
  · rw [if_neg h1] at hm
    rw [hm, if_neg (by simp)]
    have hx : ¬ (s[i].toNat = 123 ∨ s[i].toNat = 125 ∨ s[i].toNat = 91 ∨ s[i].toNat = 93 ∨ s[i].toNat = 58 ∨ s[i].toNat = 44) := fun hh => h1 ((isM_eq s[i]).2 hh)
    by_cases h34 : s[i].toNat = 34
    · have hf34 : fst (is1 34) (rest s i) = true := by rw [fst_at _ s i h, is1_eq, decide_eq_true_eq]; exact h34
      have hc34 : ∀ c : UInt8, is1 34 c = true → c = 34 := fun c hc => by simpa [is1] using hc
      have f1 : fst isL (rest s i) = false := fst_no (fun c hc => by rw [hc34 c hc]; decide) hf34
      have f2 : fst (is1 45) (rest s i) = false := fst_no (fun c hc => by rw [hc34 c hc]; decide) hf34
      have f3 : fst isD (rest s i) = false := fst_no (fun c hc => by rw [hc34 c hc]; decide) hf34
      have f4 : fst (is1 48) (rest s i) = false := fst_no (fun c hc => by rw [hc34 c hc]; decide) hf34
      rw [wordLen_no f1, numLen_no f2 f3 f4, if_neg (by simp), if_neg (by simp)]
      unfold tokStr
      rw [if_pos hf34, rest_drop]
      have hvd : valid (rest s (i + 1)) = true := by
        rw [← rest_drop]
        refine valid_drop _ 1 hv (by omega) (by rw [rest_len]; omega) ?_
        show nth (rest s i) 0 < 128
        rw [nth_rest s i h, h34]; decide
      rw [strP_strB _ _ (Nat.le_refl _) hvd]
      cases hb : strB (rest s (i + 1)) with
      | none =>
        refine (refNext_34 s i h h34 ⟨#[]⟩ 0 (Lib.hid (fun w => by
          have := refQuoted_any s i h hs w
          rw [hb] at this
          exact this)) w).mono ?_
        rintro e w' ⟨rfl, hb⟩
        exact ⟨⟨_, _, _, rfl⟩, hb⟩
      | some y =>
        obtain ⟨x, n⟩ := y
        refine (refNext_34 s i h h34 (txt x) ((i + (n + 1) : Nat) : Int) (Lib.hid (fun w => by
          have := refQuoted_any s i h hs w
          rw [hb] at this
          have e : strS (i + 1) (some (x, n)) = .tuple #[.string (txt x), .int .i64 ((i + (n + 1) : Nat) : Int)] := by
            show Value.tuple #[.string ⟨x.toArray⟩, .int .i64 ((i + 1 + n : Nat) : Int)] = _
            rw [show i + 1 + n = i + (n + 1) by omega]; rfl
          rw [e] at this
          exact this)) w).mono ?_
        rintro e w' ⟨rfl, hb⟩
        exact ⟨rfl, hb⟩
    · have hts : tokStr (rest s i) = none := by
        unfold tokStr
        rw [if_neg]
        rw [fst_at _ s i h, is1_eq, decide_eq_true_eq]
        exact h34
      rw [hts]
      exact refNext_other s i h hs ⟨fun e => hx (.inl e), fun e => hx (.inr (.inl e)), fun e => hx (.inr (.inr (.inl e))), fun e => hx (.inr (.inr (.inr (.inl e)))), fun e => hx (.inr (.inr (.inr (.inr (.inl e))))), fun e => hx (.inr (.inr (.inr (.inr (.inr e))))), h34⟩ w
end Go.Proofs.YtmkjoonbjmieoaaGreatDoor
