/-
  JtextKnown (the examples of the chapter): the law returns true and leaves all memory that was there as it was. Condition: the variables that are read hold what their text lays (Facts).
-/
import Derived.Test.YtagpdaaebjljeaaDoorAwake
import Derived.Test.YtagpdaaebjljeaaDoorQuo
namespace Go.Proofs.YtagpdaaebjljeaaDoor
open Go.RowKit

/-- Texts that are no tokens, and where. -/
def badL : List (List UInt8 × Nat) := [([49, 46], 1), ([45], 0), ([116, 114, 117], 0), ([34, 97], 0), ([34, 92, 117, 100, 56, 48, 48, 34], 0), ([34, 92, 117, 100, 101, 48, 48, 92, 117, 100, 56, 51, 100, 34], 0), ([34, 92, 117, 100, 56, 51, 100, 92, 117, 100, 56, 51, 100, 34], 0), ([34, 92, 120, 34], 0), ([34, 9, 34], 0), ([34, 92, 117, 49, 50, 34], 0), ([116, 114, 117, 101, 102, 97, 108, 115, 101], 0), ([78, 117, 108, 108], 0), ([43, 49], 0), ([34, 92], 0)]
theorem bad_all : (badL.all fun x => match tokensR x.1 with | .error y => y.1 == x.2 && y.2 == 4 | .ok _ => false) = true := by kernel_rfl
theorem bad_at (i : Nat) (h : i < 14) : ∃ x : List UInt8 × Nat, badL[i]? = some x ∧ tokensR x.1 = .error (x.2, 4) ∧ x.1.length ≤ 20 := by
  have hl : i < badL.length := h
  refine ⟨badL[i], List.getElem?_eq_getElem hl, ?_, ?_⟩
  · have := List.all_eq_true.1 bad_all badL[i] (List.getElem_mem hl)
    revert this
    cases tokensR badL[i].1 with
    | ok l => intro h; cases h
    | error y =>
      intro h
      simp only [Bool.and_eq_true, beq_iff_eq] at h
      rw [← h.1, ← h.2]
  · have h20 : (badL.all fun x => decide (x.1.length ≤ 20)) = true := by kernel_rfl
    exact of_decide_eq_true (List.all_eq_true.1 h20 badL[i] (List.getElem_mem hl))
def badC : Array Value := #[.string ⟨#[49, 46]⟩, .string ⟨#[45]⟩, .string ⟨#[116, 114, 117]⟩, .string ⟨#[34, 97]⟩, .string ⟨#[34, 92, 117, 100, 56, 48, 48, 34]⟩, .string ⟨#[34, 92, 117, 100, 101, 48, 48, 92, 117, 100, 56, 51, 100, 34]⟩, .string ⟨#[34, 92, 117, 100, 56, 51, 100, 92, 117, 100, 56, 51, 100, 34]⟩, .string ⟨#[34, 92, 120, 34]⟩, .string ⟨#[34, 9, 34]⟩, .string ⟨#[34, 92, 117, 49, 50, 34]⟩, .string ⟨#[116, 114, 117, 101, 102, 97, 108, 115, 101]⟩, .string ⟨#[78, 117, 108, 108]⟩, .string ⟨#[43, 49]⟩, .string ⟨#[34, 92]⟩]
def plcC : Array Value := #[.int .i64 1, .int .i64 0, .int .i64 0, .int .i64 0, .int .i64 0, .int .i64 0, .int .i64 0, .int .i64 0, .int .i64 0, .int .i64 0, .int .i64 0, .int .i64 0, .int .i64 0, .int .i64 0]
theorem heap_new (w : World) (x : Obj) : (w.alloc x).heap[w.heap.size]? = some x := by
  unfold World.alloc
  exact Array.getElem?_push_size
theorem heap_alloc2_first (w : World) (a b : Array Value) {t u : TypeId} : ((w.alloc (.cells a t)).alloc (.cells b u)).heap[w.heap.size]? = some (.cells a t (0, 0)) :=
  heap_keep ((Below.refl _ _).alloc (Nat.le_refl _) _) (heap_new w _)
theorem badC_is : badC = (badL.map fun x => Value.string (txt x.1)).toArray := rfl
theorem plcC_is : plcC = (badL.map fun x => Value.int .i64 (x.2 : Int)).toArray := rfl
theorem t1_any (w : World) (hF : Facts w) : Calls Tryd.prog 10 #[.string ⟨#[34, 92, 117, 48, 48, 101, 57, 92, 117, 100, 56, 51, 100, 92, 117, 100, 101, 48, 48, 34]⟩] w fun e w' => ∃ A cap, e = .returned (.tuple #[.slice A 1 cap, .int .i64 0, .int .i64 0]) ∧ TReads w' A [(4, [195, 169, 240, 159, 152, 128], 0, 20)] ∧ Below w.heap.size w w' :=
  tokens_ok ⟨#[34, 92, 117, 48, 48, 101, 57, 92, 117, 100, 56, 51, 100, 92, 117, 100, 101, 48, 48, 34]⟩ (by decide) [(4, [195, 169, 240, 159, 152, 128], 0, 20)] (by kernel_rfl) w hF
theorem t2_any (w : World) (hF : Facts w) : Calls Tryd.prog 10 #[.string ⟨#[48, 49]⟩] w fun e w' => ∃ A cap, e = .returned (.tuple #[.slice A 2 cap, .int .i64 0, .int .i64 0]) ∧ TReads w' A [(3, [48], 0, 1), (3, [49], 1, 2)] ∧ Below w.heap.size w w' :=
  tokens_ok ⟨#[48, 49]⟩ (by decide) [(3, [48], 0, 1), (3, [49], 1, 2)] (by kernel_rfl) w hF
theorem t5_any (w : World) (hF : Facts w) : Calls Tryd.prog 10 #[.string ⟨#[32, 9, 13, 10]⟩] w fun e w' => ∃ A cap, e = .returned (.tuple #[.slice A 0 cap, .int .i64 0, .int .i64 0]) ∧ TReads w' A [] ∧ Below w.heap.size w w' :=
  tokens_ok ⟨#[32, 9, 13, 10]⟩ (by decide) [] (by kernel_rfl) w hF
theorem t6_any (w : World) (hF : Facts w) : Calls Tryd.prog 10 #[.string ⟨#[49, 101, 53, 45, 50, 69, 43, 48, 55, 32, 48, 46, 53, 48]⟩] w fun e w' => ∃ A cap, e = .returned (.tuple #[.slice A 3 cap, .int .i64 0, .int .i64 0]) ∧ TReads w' A [(3, [49, 101, 53], 0, 3), (3, [45, 50, 69, 43, 48, 55], 3, 9), (3, [48, 46, 53, 48], 10, 14)] ∧ Below w.heap.size w w' :=
  tokens_ok ⟨#[49, 101, 53, 45, 50, 69, 43, 48, 55, 32, 48, 46, 53, 48]⟩ (by decide) [(3, [49, 101, 53], 0, 3), (3, [45, 50, 69, 43, 48, 55], 3, 9), (3, [48, 46, 53, 48], 10, 14)] (by kernel_rfl) w hF
theorem t3_any (w : World) (hF : Facts w) : Calls Tryd.prog 10 #[.string ⟨#[91, 255]⟩] w fun e w' => ∃ A cap, e = .returned (.tuple #[.slice A 0 cap, .int .i64 1, .int .i64 8]) ∧ Below w.heap.size w w' :=
  tokens_no ⟨#[91, 255]⟩ (by decide) 1 8 (by kernel_rfl) w hF
theorem q1_any (w : World) (hF : Facts w) : Calls Tryd.prog 13 #[.string ⟨#[97, 10, 1, 34]⟩] w fun e w' => e = .returned (.tuple #[.string ⟨#[34, 97, 92, 110, 92, 117, 48, 48, 48, 49, 92, 34, 34]⟩, .int .i64 0]) ∧ Below w.heap.size w w' := by
  have h := quote_any ⟨#[97, 10, 1, 34]⟩ (by decide) w hF
  rw [show quoteV (⟨#[97, 10, 1, 34]⟩ : ByteArray).data.toList = .tuple #[.string ⟨#[34, 97, 92, 110, 92, 117, 48, 48, 48, 49, 92, 34, 34]⟩, .int .i64 0] by kernel_rfl] at h
  exact h
theorem q2_any (w : World) (hF : Facts w) : Calls Tryd.prog 13 #[.string ⟨#[237, 160, 128]⟩] w fun e w' => e = .returned (.tuple #[.string ⟨#[]⟩, .int .i64 8]) ∧ Below w.heap.size w w' := by
  have h := quote_any ⟨#[237, 160, 128]⟩ (by decide) w hF
  rw [show quoteV (⟨#[237, 160, 128]⟩ : ByteArray).data.toList = .tuple #[.string ⟨#[]⟩, .int .i64 8] by kernel_rfl] at h
  exact h
set_option maxRecDepth 100000 in
set_option maxHeartbeats 2000000 in
theorem known_walk (w : World) (hF : Facts w) : Calls Tryd.prog 5 #[] w fun e w' => e = .returned (.bool true) ∧ Below w.heap.size w w' := by
  have F0 := Lib.hid hF
  clear hF
  go_enter Tryd.func5, Tryd.ntmps5
  go_wp2_with fail
  refine (t1_any _ F0.out).mono ?_
  rintro e w1 ⟨A, cap, rfl, hr, hb⟩
  have B1 := Lib.hid hb
  have F1 := Lib.hid (F0.out.below hb)
  obtain ⟨g, rfl, hc⟩ := hr (by decide)
  obtain ⟨a0, a1, a2, a3⟩ := hc 0 _ rfl
  have q1 : ((txt [195, 169, 240, 159, 152, 128]).toList == [195, 169, 240, 159, 152, 128]) = true := by rw [txt_list]; rfl
  have A1 := Lib.hid a1
  have A3 := Lib.hid a3
  clear hb hr hc a0 a1 a2 a3
  go_wp2_with fail
  refine (t2_any _ F1.out).mono ?_
  rintro e w2 ⟨A2, cap2, rfl, hr, hb⟩
  have B2 := Lib.hid (B1.out.trans (hb.mono B1.out.size))
  have F2 := Lib.hid (F1.out.below hb)
  have a1 := cell_keep2 hb A1.out
  have a3 := cell_keep2 hb A3.out
  obtain ⟨g2, rfl, hc⟩ := hr (by decide)
  obtain ⟨b0, b1, b2, b3⟩ := hc 0 _ rfl
  obtain ⟨c0, c1, c2, c3⟩ := hc 1 _ rfl
  have q2 : ((txt [48]).toList == [48]) = true := by rw [txt_list]; rfl
  have q3 : ((txt [49]).toList == [49]) = true := by rw [txt_list]; rfl
  clear hb hr hc
  go_wp2_with fail
  have h1 := (World.cell?_alloc_at (w := w2.alloc (.cells badC 9)) plcC 3 (w2.heap.size + 1) 0 (World.size_alloc _ _).symm)
  have hp : ((w2.alloc (.cells badC 9)).alloc (.cells plcC 3)).heap[w2.heap.size + 1]? = some (.cells plcC 3 (0, 0)) := heap_alloc2_new w2 _ _
  have hq : ((w2.alloc (.cells badC 9)).alloc (.cells plcC 3)).heap[w2.heap.size]? = some (.cells badC 9 (0, 0)) := heap_alloc2_first w2 _ _
  have hs1 : (w2.alloc (.cells badC 9)).heap.size = w2.heap.size + 1 := World.size_alloc _ _
  have hB : Below w2.heap.size w2 ((w2.alloc (.cells badC 9)).alloc (.cells plcC 3)) := ((Below.refl _ _).alloc (Nat.le_refl _) _).alloc (by rw [hs1]; omega) _
  have BW := Lib.hid (B2.out.trans (hB.mono B2.out.size))
  have FW := Lib.hid (F2.out.below hB)
  unfold badC plcC at hp hq BW FW
  clear h1 hB hs1 q1 q2 q3 a1 a3 b0 b1 b2 b3 c0 c1 c2 c3
  generalize ((w2.alloc (.cells _ 9)).alloc (.cells _ 3)) = wf at *
  have HP := Lib.hid hp
  have HQ := Lib.hid hq
  clear hp hq
  generalize w2.heap.size = N at *
  go_loopw [9] (fun u wr => ∃ i : Nat, i ≤ 14 ∧ u = .int .i64 i ∧ Hid (wr.heap[N]? = some (.cells badC 9 (0, 0))) ∧ Hid (wr.heap[N + 1]? = some (.cells plcC 3 (0, 0))) ∧ Hid (Facts wr) ∧ Hid (Below w.heap.size w wr)) (fun u _ => 14 - (intOf u).toNat)
  case atStart => exact ⟨0, by omega, rfl, HQ, HP, FW, BW⟩
  case round =>
    obtain ⟨i, hi, rfl, hq, hp, hf, hb⟩ := hrel
    by_cases hlt : i < 14
    · obtain ⟨x, hx, hr, hl⟩ := bad_at i hlt
      have c1 : wr.cell? ⟨N, i, none⟩ = some (.string (txt x.1)) := by
        rw [cell_at hq.out, badC_is, List.getElem?_toArray, List.getElem?_map, hx]; rfl
      have c2 : wr.cell? ⟨N + 1, i, none⟩ = some (.int .i64 (x.2 : Int)) := by
        rw [cell_at hp.out, plcC_is, List.getElem?_toArray, List.getElem?_map, hx]; rfl
      have HT := Lib.hid (fun (w : World) (hF : Facts w) => tokens_no (txt x.1) (by rw [show (txt x.1).size = x.1.length from rfl]; omega) x.2 4 hr w hF)
      have C2 := Lib.hid c2
      clear hx hr hl c2
      generalize txt x.1 = t at *
      generalize x.2 = p at *
      go_wp2_with fail
      refine (HT.out _ hf.out).mono ?_
      rintro e w3 ⟨A3, cap3, rfl, hb3⟩
      have HB3 := Lib.hid (hb.out.trans (hb3.mono hb.out.size))
      have HF3 := Lib.hid (hf.out.below hb3)
      have HQ3 := Lib.hid (heap_keep hb3 hq.out)
      have HP3 := Lib.hid (heap_keep hb3 hp.out)
      have c3 := cell_keep2 hb3 C2.out
      have ep : (((p : Nat) : Int) != ((p : Nat) : Int)) = false := by simp
      clear hb3 c1
      go_wp2_with fail
      refine ⟨⟨i + 1, by omega, by go_num, HQ3, HP3, HF3, HB3⟩, ?_⟩
      simp [RowKit.intOf]; omega
    · clear hq hp HP HQ FW BW
      go_wp2_with fail
      refine (t3_any _ hf.out).mono ?_
      rintro e w3 ⟨A3, cap3, rfl, hb3⟩
      have B3 := Lib.hid (hb.out.trans (hb3.mono hb.out.size))
      have F3 := Lib.hid (hf.out.below hb3)
      clear hb3
      go_wp2_with fail
      refine (q1_any _ F3.out).mono ?_
      rintro e w4 ⟨rfl, hb4⟩
      have B4 := Lib.hid (B3.out.trans (hb4.mono B3.out.size))
      have F4 := Lib.hid (F3.out.below hb4)
      clear hb4
      go_wp2_with fail
      refine (q2_any _ F4.out).mono ?_
      rintro e w5 ⟨rfl, hb5⟩
      have B5 := Lib.hid (B4.out.trans (hb5.mono B4.out.size))
      have F5 := Lib.hid (F4.out.below hb5)
      clear hb5
      go_wp2_with fail
      refine (t5_any _ F5.out).mono ?_
      rintro e w6 ⟨A6, cap6, rfl, _, hb6⟩
      have B6 := Lib.hid (B5.out.trans (hb6.mono B5.out.size))
      have F6 := Lib.hid (F5.out.below hb6)
      clear hb6
      go_wp2_with fail
      refine (t6_any _ F6.out).mono ?_
      rintro e w7 ⟨A7, cap7, rfl, hr, hb7⟩
      have B7 := Lib.hid (B6.out.trans (hb7.mono B6.out.size))
      have F7 := Lib.hid (F6.out.below hb7)
      obtain ⟨g7, rfl, hc⟩ := hr (by decide)
      obtain ⟨a0, a1, a2, a3⟩ := hc 0 _ rfl
      obtain ⟨b0, b1, b2, b3⟩ := hc 1 _ rfl
      obtain ⟨c0, c1, c2, c3⟩ := hc 2 _ rfl
      have q1 : ((txt [49, 101, 53]).toList == [49, 101, 53]) = true := by rw [txt_list]; rfl
      have q2 : ((txt [45, 50, 69, 43, 48, 55]).toList == [45, 50, 69, 43, 48, 55]) = true := by rw [txt_list]; rfl
      have q3 : ((txt [48, 46, 53, 48]).toList == [48, 46, 53, 48]) = true := by rw [txt_list]; rfl
      clear hb7 hr hc
      go_wp2_with fail
      refine (awake_any _ F7.out).mono ?_
      rintro e w8 ⟨rfl, hb8⟩
      have B8 := Lib.hid (B7.out.trans (hb8.mono B7.out.size))
      clear hb8
      go_wp2_with fail
      go_ret
      exact ⟨rfl, B8.out⟩
end Go.Proofs.YtagpdaaebjljeaaDoor
