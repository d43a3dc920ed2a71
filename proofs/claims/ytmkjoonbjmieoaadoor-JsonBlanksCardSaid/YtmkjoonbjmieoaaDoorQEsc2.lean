/-
  jtext's escapeAt, pointWithin AT EVERY TEXT of at most 1000000 bytes, from every place of it: what they return; no memory that was there turns. Conditions: the text's length; the variables that are read hold what their text lays (Facts).
-/
import Derived.Test.YtmkjoonbjmieoaaDoorQEsc
namespace Go.Proofs.YtmkjoonbjmieoaaDoor
open Go.RowKit

theorem unitB_at (s : ByteArray) (k : Nat) (h : fst (is1 92) (rest s k) = true) : unitB (rest s k) = unitU (rest s (k + 1)) := by
  unfold unitB; rw [if_pos h, rest_drop]
theorem escP_short (l : List UInt8) (h : unitU l = none) : escP l = shortP l := by
  unfold escP shortP
  by_cases hl : l = []
  · rw [if_pos hl, if_pos hl]
  · rw [if_neg hl, if_neg hl]
    cases short (nth l 0) with
    | none => simp only [h, Option.map_none]
    | some p => rfl
theorem unitU_head {l : List UInt8} {a : Nat} (h : unitU l = some a) : l ≠ [] ∧ nth l 0 = 117 := by
  unfold unitU at h
  split at h
  · rename_i h1
    cases l with
    | nil => cases h1
    | cons c l =>
      have h2 : is1 117 c = true := h1
      rw [is1_iff, beq_iff_eq] at h2
      subst h2
      exact ⟨by simp, rfl⟩
  · cases h
theorem escP_unit (l : List UInt8) (a : Nat) (h : unitU l = some a) : escP l = if a < 55296 ∨ 57343 < a then some (a, 5)
      else if 56320 ≤ a then none
      else match unitB (l.drop 5) with
        | none => none
        | some b => if b < 56320 ∨ 57343 < b then none else some (65536 + (a - 55296) * 1024 + (b - 56320), 11) := by
  obtain ⟨hl, h0⟩ := unitU_head h
  unfold escP
  rw [if_neg hl, h0]
  have hs : short 117 = none := by decide
  rw [hs]
  simp only [h]
  unfold unitB
  rw [List.drop_drop]
  by_cases h5 : fst (is1 92) (l.drop 5) = true
  · simp only [h5, if_true]
    rfl
  · simp only [h5]
    rfl
theorem win_map (k : Nat) (o : Option (Nat × Nat)) (p n : Nat) (h : o = some (p, n)) : winV k (o.map (fun x => (x.1, x.2 + 1))) = .tuple #[.int .i32 (p : Int), .int .i64 ((k + (n + 1) : Nat) : Int)] := by subst h; rfl
theorem win_none (k : Nat) (o : Option (Nat × Nat)) (h : o = none) : winV k (o.map (fun x => (x.1, x.2 + 1))) = .tuple #[.int .i32 0, .int .i64 (k : Int)] := by subst h; rfl
theorem winV_shape (k : Nat) (o : Option (Nat × Nat)) : ∃ x y, winV k o = .tuple #[.int .i32 x, .int .i64 y] := by
  cases o with
  | none => exact ⟨_, _, rfl⟩
  | some p => exact ⟨_, _, rfl⟩
set_option maxRecDepth 100000 in
set_option maxHeartbeats 4000000 in
theorem escapeAt_any (s : ByteArray) (k : Nat) (hk : k < s.size) (hs : s.size ≤ 1000000) (h92 : fst (is1 92) (rest s k) = true) (w : World) (hF : Facts w) :
    Calls Tryd.prog 69 #[.string s, .int .i64 k] w fun e w' => e = .returned (winV k ((escP (rest s (k + 1))).map (fun x => (x.1, x.2 + 1)))) ∧ Below w.heap.size w w' := by
  have HU := Lib.hid (unitAt_any s k (by omega) hs w hF)
  rw [unitB_at s k h92] at HU
  have HF := Lib.hid hF
  cases hu : unitU (rest s (k + 1)) with
  | none =>
    rw [hu] at HU
    rw [escP_short _ hu]
    have HS := Lib.hid (fun (W : World) (hT : Lib.Utf8Tabs 0 1 W) => shortEscapeAt_any s k hk hs W hT)
    obtain ⟨x, y, hxy⟩ := winV_shape k ((shortP (rest s (k + 1))).map (fun x => (x.1, x.2 + 1)))
    rw [hxy] at HS ⊢
    clear hxy
    unfold unitV at HU
    clear hu h92 hF
    go_enter Tryd.func69, Tryd.ntmps69
    go_wp2_with fail
    refine HU.out.mono ?_
    rintro e w1 ⟨rfl, hb⟩
    have HB := Lib.hid hb
    have HF1 := Lib.hid (HF.out.below hb)
    clear hb
    go_wp2_with fail
    refine (HS.out _ HF1.out.tabs).mono ?_
    rintro e w2 ⟨rfl, hb⟩
    have HB2 := Lib.hid (HB.out.trans (hb.mono HB.out.size))
    clear hb
    go_wp2_with fail
    go_ret2
    exact ⟨rfl, HB2.out⟩
  | some a =>
    rw [hu] at HU
    have hb1 := unitU_lt hu
    rw [rest_len] at hb1
    have he := escP_unit _ a hu
    rw [rest_drop] at he
    rw [unitV_some] at HU
    clear hu h92 hF
    obtain ⟨z, hz⟩ : ∃ z : Int, z = (a : Int) := ⟨_, rfl⟩
    rw [← hz] at HU
    by_cases g1 : a < 55296
    · rw [if_pos (Or.inl g1)] at he
      rw [he]
      show Calls _ _ _ _ fun e w' => e = .returned (.tuple #[.int .i32 (a : Int), .int .i64 ((k + 6 : Nat) : Int)]) ∧ _
      rw [← hz]
      have d1 : decide (56320 ≤ z) = false := by simp; omega
      have d2 : decide (z < 55296) = true := by simp; omega
      clear he g1 hz
      go_enter Tryd.func69, Tryd.ntmps69
      go_wp2_with fail
      refine HU.out.mono ?_
      rintro e w1 ⟨rfl, hb⟩
      have HB := Lib.hid hb
      have HF1 := Lib.hid (HF.out.below hb)
      clear hb
      go_wp2_with fail
      go_ret2
      exact ⟨rfl, HB.out⟩
    by_cases g2 : 57343 < a
    · rw [if_pos (Or.inr g2)] at he
      rw [he]
      show Calls _ _ _ _ fun e w' => e = .returned (.tuple #[.int .i32 (a : Int), .int .i64 ((k + 6 : Nat) : Int)]) ∧ _
      rw [← hz]
      have d1 : decide (56320 ≤ z) = true := by simp; omega
      have d3 : decide (z ≤ 57343) = false := by simp; omega
      have d2 : decide (z < 55296) = false := by simp; omega
      have d4 : decide (57343 < z) = true := by simp; omega
      clear he g1 g2 hz
      go_enter Tryd.func69, Tryd.ntmps69
      go_wp2_with fail
      refine HU.out.mono ?_
      rintro e w1 ⟨rfl, hb⟩
      have HB := Lib.hid hb
      have HF1 := Lib.hid (HF.out.below hb)
      clear hb
      go_wp2_with fail
      go_ret2
      exact ⟨rfl, HB.out⟩
    rw [if_neg (by omega)] at he
    by_cases g3 : 56320 ≤ a
    · rw [if_pos g3] at he
      rw [he]
      show Calls _ _ _ _ fun e w' => e = .returned (.tuple #[.int .i32 0, .int .i64 (k : Int)]) ∧ _
      have d1 : decide (56320 ≤ z) = true := by simp; omega
      have d3 : decide (z ≤ 57343) = true := by simp; omega
      clear he g1 g2 g3 hz
      go_enter Tryd.func69, Tryd.ntmps69
      go_wp2_with fail
      refine HU.out.mono ?_
      rintro e w1 ⟨rfl, hb⟩
      have HB := Lib.hid hb
      have HF1 := Lib.hid (HF.out.below hb)
      clear hb
      go_wp2_with fail
      go_ret2
      exact ⟨rfl, HB.out⟩
    rw [if_neg g3] at he
    have d1 : decide (56320 ≤ z) = false := by simp; omega
    have d2 : decide (z < 55296) = false := by simp; omega
    have d4 : decide (57343 < z) = false := by simp; omega
    have H2 : Hid (∀ w, Facts w → Calls Tryd.prog 72 #[.string s, .int .i64 ((k : Int) + 6)] w fun e w' => e = .returned (unitV (unitB (rest s (k + 1 + 5)))) ∧ Below w.heap.size w w') := Lib.hid (fun w hF => unitAt_any s (k + 6) (by omega) hs w hF)
    have hk6 : (k : Int) + 6 ≤ 1000000 := by omega
    have hz0 : 55296 ≤ z := by omega
    have hz1 : z ≤ 56319 := by omega
    rw [he]
    clear he
    cases hu2 : unitB (rest s (k + 1 + 5)) with
    | none =>
      rw [hu2] at H2
      unfold unitV at H2
      show Calls _ _ _ _ fun e w' => e = .returned (.tuple #[.int .i32 0, .int .i64 (k : Int)]) ∧ _
      clear hu2 g1 g2 g3 hz hb1
      go_enter Tryd.func69, Tryd.ntmps69
      go_wp2_with fail
      refine HU.out.mono ?_
      rintro e w1 ⟨rfl, hb⟩
      have HB := Lib.hid hb
      have HF1 := Lib.hid (HF.out.below hb)
      clear hb
      go_wp2_with fail
      refine (H2.out _ HF1.out).mono ?_
      rintro e w2 ⟨rfl, hb⟩
      have HB2 := Lib.hid (HB.out.trans (hb.mono HB.out.size))
      clear hb
      go_wp2_with fail
      go_ret2
      exact ⟨rfl, HB2.out⟩
    | some b =>
      rw [hu2, unitV_some] at H2
      have hb2 : b < 65536 := by
        unfold unitB at hu2
        split at hu2
        · exact (unitU_lt hu2).1
        · cases hu2
      obtain ⟨y, hy⟩ : ∃ y : Int, y = (b : Int) := ⟨_, rfl⟩
      rw [← hy] at H2
      by_cases g4 : b < 56320
      · simp only [if_pos (Or.inl g4 : b < 56320 ∨ 57343 < b)]
        show Calls _ _ _ _ fun e w' => e = .returned (.tuple #[.int .i32 0, .int .i64 (k : Int)]) ∧ _
        have e1 : decide (y < 56320) = true := by simp; omega
        clear hu2 g1 g2 g3 g4 hz hy hb1
        go_enter Tryd.func69, Tryd.ntmps69
        go_wp2_with fail
        refine HU.out.mono ?_
        rintro e w1 ⟨rfl, hb⟩
        have HB := Lib.hid hb
        have HF1 := Lib.hid (HF.out.below hb)
        clear hb
        go_wp2_with fail
        refine (H2.out _ HF1.out).mono ?_
        rintro e w2 ⟨rfl, hb⟩
        have HB2 := Lib.hid (HB.out.trans (hb.mono HB.out.size))
        clear hb
        go_wp2_with fail
        go_ret2
        exact ⟨rfl, HB2.out⟩
      by_cases g5 : 57343 < b
      · simp only [if_pos (Or.inr g5 : b < 56320 ∨ 57343 < b)]
        show Calls _ _ _ _ fun e w' => e = .returned (.tuple #[.int .i32 0, .int .i64 (k : Int)]) ∧ _
        have e1 : decide (y < 56320) = false := by simp; omega
        have e2 : decide (57343 < y) = true := by simp; omega
        clear hu2 g1 g2 g3 g4 g5 hz hy hb1
        go_enter Tryd.func69, Tryd.ntmps69
        go_wp2_with fail
        refine HU.out.mono ?_
        rintro e w1 ⟨rfl, hb⟩
        have HB := Lib.hid hb
        have HF1 := Lib.hid (HF.out.below hb)
        clear hb
        go_wp2_with fail
        refine (H2.out _ HF1.out).mono ?_
        rintro e w2 ⟨rfl, hb⟩
        have HB2 := Lib.hid (HB.out.trans (hb.mono HB.out.size))
        clear hb
        go_wp2_with fail
        go_ret2
        exact ⟨rfl, HB2.out⟩
      simp only [if_neg (by omega : ¬ (b < 56320 ∨ 57343 < b))]
      show Calls _ _ _ _ fun e w' => e = .returned (.tuple #[.int .i32 ((65536 + (a - 55296) * 1024 + (b - 56320) : Nat) : Int), .int .i64 ((k + 12 : Nat) : Int)]) ∧ _
      have e1 : decide (y < 56320) = false := by simp; omega
      have e2 : decide (57343 < y) = false := by simp; omega
      have hy0 : 56320 ≤ y := by omega
      have hy1 : y ≤ 57343 := by omega
      have HV : Hid (((65536 + (a - 55296) * 1024 + (b - 56320) : Nat) : Int) = 65536 + (z - 55296) * 1024 + (y - 56320)) := Lib.hid (by omega)
      rw [HV.out]
      clear hu2 g1 g2 g3 g4 g5 hz hy hb1 hb2 HV
      go_enter Tryd.func69, Tryd.ntmps69
      go_wp2_with fail
      refine HU.out.mono ?_
      rintro e w1 ⟨rfl, hb⟩
      have HB := Lib.hid hb
      have HF1 := Lib.hid (HF.out.below hb)
      clear hb
      go_wp2_with fail
      refine (H2.out _ HF1.out).mono ?_
      rintro e w2 ⟨rfl, hb⟩
      have HB2 := Lib.hid (HB.out.trans (hb.mono HB.out.size))
      clear hb
      go_wp2_with fail
      go_ret2
      exact ⟨ret_ri rfl (by omega), HB2.out⟩
/-- A point within a string, as it is or as an escape, and how many bytes it has there. -/
def withinP (l : List UInt8) : Option (Nat × Nat) :=
  if nth l 0 = 92 then (escP (l.drop 1)).map (fun x => (x.1, x.2 + 1))
  else if ptR l < 32 then none else some ((ptR l).toNat, wd l)
theorem fst_92 (s : ByteArray) (k : Nat) (h : k < s.size) (h2 : s[k].toNat = 92) : fst (is1 92) (rest s k) = true := by
  rw [fst_at _ s k h, is1_iff, beq_iff_eq]; exact UInt8.toNat_inj.1 h2
set_option maxRecDepth 100000 in
set_option maxHeartbeats 4000000 in
theorem pointWithin_any (s : ByteArray) (k : Nat) (hk : k < s.size) (hs : s.size ≤ 1000000) (w : World) (hF : Facts w) :
    Calls Tryd.prog 62 #[.string s, .int .i64 k] w fun e w' => e = .returned (winV k (withinP (rest s k))) ∧ Below w.heap.size w w' := by
  have h0 := nth_rest s k hk
  unfold withinP
  rw [h0, rest_drop]
  by_cases h92 : s[k].toNat = 92
  · rw [if_pos h92]
    have HE := Lib.hid (escapeAt_any s k hk hs (fst_92 s k hk h92) w hF)
    obtain ⟨x, y, hxy⟩ := winV_shape k ((escP (rest s (k + 1))).map (fun x => (x.1, x.2 + 1)))
    rw [hxy] at HE ⊢
    have e1 : (((s[k].toNat : Nat) : Int) == 92) = true := by simp [h92]
    clear hxy h92 h0 hF
    go_enter Tryd.func62, Tryd.ntmps62
    go_wp2_with fail
    refine HE.out.mono ?_
    rintro e w1 ⟨rfl, hb⟩
    have HB := Lib.hid hb
    clear hb
    go_wp2_with fail
    go_ret2
    exact ⟨rfl, HB.out⟩
  · rw [if_neg h92]
    have HD := Lib.hid (dec_at s k hk w hF.tabs)
    have hb := ptR_bounds (rest s k)
    have hw4 := wd_le4 (rest s k)
    have e1 : (((s[k].toNat : Nat) : Int) == 92) = false := by simp; omega
    clear h92 h0 hF
    by_cases h32 : ptR (rest s k) < 32
    · rw [if_pos h32]
      unfold winV
      generalize ptR (rest s k) = p at *
      generalize wd (rest s k) = m at *
      go_enter Tryd.func62, Tryd.ntmps62
      go_wp2_with fail
      refine HD.out.mono ?_
      rintro e w1 ⟨rfl, hb⟩
      have HB := Lib.hid hb
      clear hb
      go_wp2_with fail
      go_ret2
      exact ⟨rfl, HB.out⟩
    · rw [if_neg h32]
      unfold winV
      generalize ptR (rest s k) = p at *
      generalize wd (rest s k) = m at *
      have d1 : decide (p < 32) = false := by simp; omega
      go_enter Tryd.func62, Tryd.ntmps62
      go_wp2_with fail
      refine HD.out.mono ?_
      rintro e w1 ⟨rfl, hb⟩
      have HB := Lib.hid hb
      clear hb
      go_wp2_with fail
      go_ret2
      exact ⟨ret_ri (by omega) (by omega), HB.out⟩
end Go.Proofs.YtmkjoonbjmieoaaDoor
