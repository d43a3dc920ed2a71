/-
  emendlaw04.works is true. Condition: the variables that are read hold what their text lays (Facts).
  The walk of emendlaw04.JsonSays: of any text of at most 5000 bytes, what it says may be, and its own text says the same. Condition: the variables that are read hold what their text lays (Facts).
-/
import Derived.Test.YtmkjoonbjmieoaaDoorQField
namespace Go.Proofs.YtmkjoonbjmieoaaDoor
open Go.RowKit

/-- The chapter's first text. -/
def firstL : List UInt8 := [123, 34, 98, 34, 58, 91, 49, 44, 116, 114, 117, 101, 93, 44, 34, 97, 34, 58, 110, 117, 108, 108, 125]
def firstJ : J := .mk 6 [] [[98], [97]] [.mk 5 [] [] [.mk 3 [49] [] [], .mk 2 [] [] []], .mk 0 [] [] []]
set_option maxRecDepth 100000 in
theorem first_parse : parseR firstL = .ok firstJ := by kernel_rfl
set_option maxRecDepth 100000 in
theorem first_text : textJ firstJ = firstL := by rfl
theorem first_put : putJ firstJ = (firstL, 0) := by
  unfold putJ
  rw [parse_may first_parse, if_pos rfl, first_text]
set_option maxRecDepth 100000 in
theorem first_field : fieldJ firstJ ⟨#[98]⟩ = some (.mk 5 [] [] [.mk 3 [49] [] [], .mk 2 [] [] []]) := by rfl
theorem jparse_yes (s : ByteArray) (hs : s.size ≤ 1000000) {j : J} (h : parseR s.data.toList = .ok j) (w : World) (hF : Facts w) : Calls Tryd.prog 6 #[.string s] w fun e w' => ∃ v, e = .returned (.tuple #[v, .int .i64 0]) ∧ JIn w' (fun k => w.heap.size ≤ k) j v ∧ Below w.heap.size w w' := by
  refine (parse_any s hs w hF).mono ?_
  intro e w' he
  unfold ParseEnd at he
  rw [h] at he
  exact he
theorem jparse_not (s : ByteArray) (hs : s.size ≤ 1000000) {k : Nat} (h : parseR s.data.toList = .error k) (w : World) (hF : Facts w) : Calls Tryd.prog 6 #[.string s] w fun e w' => e = .returned (.tuple #[zeroJ, .int .i64 (k : Int)]) ∧ Below w.heap.size w w' := by
  refine (parse_any s hs w hF).mono ?_
  intro e w' he
  unfold ParseEnd at he
  rw [h] at he
  exact he
theorem putJ_ok {j : J} (h : checkJ j = 0) : putJ j = (textJ j, 0) := by unfold putJ; rw [if_pos h]
set_option maxRecDepth 100000 in
theorem first_any (w : World) : Calls Tryd.prog 11 #[] w fun e w' => e = .returned (.string (txt firstL)) ∧ w = w' := by
  go_enter Tryd.func11, Tryd.ntmps11
  go_wp2_with fail
  go_ret
  exact ⟨rfl, rfl⟩
set_option maxRecDepth 100000 in
set_option maxHeartbeats 4000000 in
theorem works_any (w : World) (hF : Facts w) : Calls Tryd.prog 5 #[] w fun e w' => e = .returned (.bool true) ∧ Below w.heap.size w w' := by
  have HF := Lib.hid hF
  have HFI := Lib.hid (fun (W : World) => first_any W)
  have HP := Lib.hid (jparse_yes (txt firstL) (by rw [txt_size]; decide) (by rw [txt_data]; exact first_parse) w hF)
  have HFL := Lib.hid (show (txt firstL).toList = firstL from txt_list _)
  have HPT := Lib.hid (fun (W : World) (hW : Facts W) (v : Value) (P : Nat → Prop) (hj : JIn W P firstJ v) => put_any P firstJ v W (by decide) hj hW)
  rw [first_put] at HPT
  have HFD := Lib.hid (fun (W : World) (v : Value) (P : Nat → Prop) (hj : JIn W P firstJ v) => field_any P firstJ v ⟨#[98]⟩ W (by decide) hj)
  rw [first_field] at HFD
  generalize txt firstL = T at *
  clear hF
  go_enter Tryd.func5, Tryd.ntmps5
  go_wp2_with fail
  refine (HFI.out _).mono ?_
  rintro e w1 ⟨rfl, rfl⟩
  go_wp2_with fail
  refine HP.out.mono ?_
  rintro e w2 ⟨v, rfl, hj, hb⟩
  obtain ⟨k1, s1, A1, n1, c1, B1, m1, e1, rfl⟩ := jin_form hj
  have hb2 := alloc_below w2 (.cells #[.int .i64 k1, .string s1, .slice A1 n1 c1, .slice B1 m1 e1] 26)
  have HB2 := Lib.hid (hb.trans (hb2.mono hb.size))
  have HT2 := Lib.hid (alloc_top w2 #[.int .i64 k1, .string s1, .slice A1 n1 c1, .slice B1 m1 e1] 26)
  have HJ2 := Lib.hid (hj.below hb2)
  obtain ⟨x0, x1, x2, x3⟩ := tok_cells HT2.out
  clear hj hb hb2
  go_wp2_with fail
  refine (HPT.out _ (HF.out.below HB2.out) _ _ HJ2.out).mono ?_
  rintro e w3 ⟨rfl, hb⟩
  have HB3 := Lib.hid (HB2.out.trans (hb.mono HB2.out.size))
  have HT3 := Lib.hid (heap_keep hb HT2.out)
  have HJ3 := Lib.hid (HJ2.out.below hb)
  clear hb x0 x1 x2 x3
  obtain ⟨x0, x1, x2, x3⟩ := tok_cells HT3.out
  go_wp2_with fail
  refine (HFD.out _ _ _ HJ3.out).mono ?_
  rintro e w4 ⟨v, rfl, hj, hb⟩
  obtain ⟨ka, kc, ia, ic, rfl, -, hl⟩ := hj.open
  obtain ⟨ib, io, rfl, -, hrow⟩ := hl (by decide)
  have hb5 := alloc_below w4 (.cells #[.int .i64 5, .string (txt []), .slice ka 0 kc, .slice (some ⟨ib, io, none⟩) 2 ic] 26)
  obtain ⟨v0, v1, v2, v3, d0, d1, d2, d3, hj1⟩ := hrow.at (i := 0) rfl
  obtain ⟨_, _, _, _, he, _⟩ := hj1.open
  simp only [Value.agg.injEq, Array.mk.injEq, List.cons.injEq, and_true] at he
  obtain ⟨rfl, rfl, _, _⟩ := he
  have D1 := Lib.hid (cell_keep2 hb5 d1)
  have HB5 := Lib.hid (HB3.out.trans ((hb.trans (hb5.mono hb.size)).mono HB3.out.size))
  have HT5 := Lib.hid (alloc_top w4 #[.int .i64 5, .string (txt []), .slice ka 0 kc, .slice (some ⟨ib, io, none⟩) 2 ic] 26)
  clear hj hl hrow hb hb5 hj1 d0 d1 d2 d3 x0 x1 x2 x3
  obtain ⟨y0, y1, y2, y3⟩ := tok_cells HT5.out
  have d1 := D1.out
  go_wp2_with fail
  refine (HFI.out _).mono ?_
  rintro e w5 ⟨rfl, rfl⟩
  have h49 : (txt [49]).toList = [49] := txt_list _
  go_wp2_with fail
  go_ret
  exact ⟨rfl, HB5.out⟩
end Go.Proofs.YtmkjoonbjmieoaaDoor
namespace Go.Proofs.YtmkjoonbjmieoaaDoor
open Go.RowKit

theorem parseR_err {l : List UInt8} {k : Nat} (h : parseR l = .error k) : k ≠ 0 ∧ k < 1000 := by
  unfold parseR at h
  cases hT : tokensR l with
  | error y =>
    obtain ⟨a, e⟩ := y
    rw [hT] at h
    have := (tokensR_err hT).2
    simp only [Except.error.injEq] at h
    omega
  | ok ts =>
    rw [hT] at h
    simp only at h
    split at h
    · simp only [Except.error.injEq] at h; omega
    · cases hp : pv (2 * ts.length + 1) ts false with
      | none => rw [hp] at h; simp only [Except.error.injEq] at h; omega
      | some r =>
        obtain ⟨j', R, tw⟩ := r
        rw [hp] at h
        simp only at h
        split at h
        · cases tw with
          | true => simp only [if_true, Except.error.injEq] at h; omega
          | false => simp at h
        · simp only [Except.error.injEq] at h; omega
set_option maxRecDepth 100000 in
set_option maxHeartbeats 4000000 in
theorem jsonSays_walk (s : ByteArray) (w : World) (hF : Facts w) : Calls Tryd.prog 3 #[.string s] w fun e w' => e = .returned (.bool true) ∧ Below w.heap.size w w' := by
  have HF := Lib.hid hF
  have HW := Lib.hid (fun (W : World) (hb : Below w.heap.size w W) => works_any W (hF.below hb))
  by_cases hlen : 5000 < s.size
  · have hlz : (5000 : Int) < (s.size : Int) := by omega
    clear hF hlen
    go_enter Tryd.func3, Tryd.ntmps3
    go_wp2_with fail
    refine (HW.out _ (Below.refl _ _)).mono ?_
    rintro e w1 ⟨rfl, hb⟩
    have HB := Lib.hid hb
    clear hb
    go_wp2_with fail
    go_ret
    exact ⟨rfl, HB.out⟩
  · have hlz : ¬ (5000 : Int) < (s.size : Int) := by omega
    have hs1 : s.size ≤ 1000000 := by omega
    cases hR : parseR s.data.toList with
    | error k =>
      have HP := Lib.hid (jparse_not s hs1 hR w hF)
      have hk := parseR_err hR
      have hne : ((k : Int) != 0) = true := by simp only [bne_iff_ne, ne_eq]; omega
      clear hF hlen hs1 hR hk
      go_enter Tryd.func3, Tryd.ntmps3
      go_wp2_with fail
      refine HP.out.mono ?_
      rintro e w1 ⟨rfl, hb⟩
      unfold zeroJ
      have hb2 := alloc_below w1 (.cells #[.int .i64 0, .string ⟨#[]⟩, .slice none 0 0, .slice none 0 0] 26)
      have HB2 := Lib.hid (hb.trans (hb2.mono hb.size))
      clear hb hb2
      go_wp2_with fail
      refine (HW.out _ HB2.out).mono ?_
      rintro e w3 ⟨rfl, hb⟩
      have HB3 := Lib.hid (HB2.out.trans (hb.mono HB2.out.size))
      clear hb
      go_wp2_with fail
      go_ret
      exact ⟨rfl, HB3.out⟩
    | ok j =>
      have HP := Lib.hid (jparse_yes s hs1 hR w hF)
      have hchk := parse_may hR
      have hsz := parse_sz hR
      have hsl : s.data.toList.length = s.size := rfl
      have htl := textJ_len j
      have hszj : szJ j ≤ 1000000 := by omega
      have hpt := parse_text j hchk
      have HC := Lib.hid (fun (W : World) (hW : Facts W) (v : Value) (P : Nat → Prop) (hj : JIn W P j v) => check_any P j v W hszj hj hW)
      rw [hchk] at HC
      have HPT := Lib.hid (fun (W : World) (hW : Facts W) (v : Value) (P : Nat → Prop) (hj : JIn W P j v) => put_any P j v W hszj hj hW)
      rw [putJ_ok hchk] at HPT
      have HP2 := Lib.hid (fun (W : World) (hb : Below w.heap.size w W) => jparse_yes (txt (textJ j)) (by rw [txt_size]; omega) (by rw [txt_data]; exact hpt) W (hF.below hb))
      have HE := Lib.hid (equalJ_any 1000000 j hszj (Nat.le_refl _))
      generalize txt (textJ j) = T at *
      clear hF hlen hs1 hR hchk hsz hsl htl hszj hpt
      go_enter Tryd.func3, Tryd.ntmps3
      go_wp2_with fail
      refine HP.out.mono ?_
      rintro e w1 ⟨v, rfl, hj, hb⟩
      obtain ⟨k1, s1, A1, n1, c1, B1, m1, e1, rfl⟩ := jin_form hj
      have hb2 := alloc_below w1 (.cells #[.int .i64 k1, .string s1, .slice A1 n1 c1, .slice B1 m1 e1] 26)
      have HB2 := Lib.hid (hb.trans (hb2.mono hb.size))
      have HT2 := Lib.hid (alloc_top w1 #[.int .i64 k1, .string s1, .slice A1 n1 c1, .slice B1 m1 e1] 26)
      have HJ2 := Lib.hid (hj.below hb2)
      obtain ⟨x0, x1, x2, x3⟩ := tok_cells HT2.out
      clear hj hb hb2
      go_wp2_with fail
      refine (HPT.out _ (HF.out.below HB2.out) _ _ HJ2.out).mono ?_
      rintro e w3 ⟨rfl, hb⟩
      have HB3 := Lib.hid (HB2.out.trans (hb.mono HB2.out.size))
      have HT3 := Lib.hid (heap_keep hb HT2.out)
      have HJ3 := Lib.hid (HJ2.out.below hb)
      clear hb x0 x1 x2 x3
      go_wp2_with fail
      refine (HP2.out _ HB3.out).mono ?_
      rintro e w4 ⟨v, rfl, hj, hb⟩
      obtain ⟨k2, s2, A2, n2, c2, B2, m2, e2, rfl⟩ := jin_form hj
      have hb5 := alloc_below w4 (.cells #[.int .i64 k2, .string s2, .slice A2 n2 c2, .slice B2 m2 e2] 26)
      have HB5 := Lib.hid (HB3.out.trans ((hb.trans (hb5.mono hb.size)).mono HB3.out.size))
      have HT5 := Lib.hid (alloc_top w4 #[.int .i64 k2, .string s2, .slice A2 n2 c2, .slice B2 m2 e2] 26)
      have HU5 := Lib.hid (heap_keep hb5 (heap_keep hb HT3.out))
      have HJ5 := Lib.hid ((HJ3.out.below hb).below hb5)
      have HQ5 := Lib.hid (hj.below hb5)
      obtain ⟨y0, y1, y2, y3⟩ := tok_cells HT5.out
      clear hj hb hb5
      go_wp2_with fail
      refine (HPT.out _ (HF.out.below HB5.out) _ _ HQ5.out).mono ?_
      rintro e w6 ⟨rfl, hb⟩
      have HB6 := Lib.hid (HB5.out.trans (hb.mono HB5.out.size))
      have HT6 := Lib.hid (heap_keep hb HT5.out)
      have HU6 := Lib.hid (heap_keep hb HU5.out)
      have HJ6 := Lib.hid (HJ5.out.below hb)
      have HQ6 := Lib.hid (HQ5.out.below hb)
      clear hb y0 y1 y2 y3
      obtain ⟨x0, x1, x2, x3⟩ := tok_cells HU6.out
      go_wp2_with fail
      refine (HC.out _ (HF.out.below HB6.out) _ _ HJ6.out).mono ?_
      rintro e w7 ⟨rfl, hb⟩
      have HB7 := Lib.hid (HB6.out.trans (hb.mono HB6.out.size))
      have HT7 := Lib.hid (heap_keep hb HT6.out)
      have HU7 := Lib.hid (heap_keep hb HU6.out)
      have HJ7 := Lib.hid (HJ6.out.below hb)
      have HQ7 := Lib.hid (HQ6.out.below hb)
      clear hb x0 x1 x2 x3
      obtain ⟨x0, x1, x2, x3⟩ := tok_cells HU7.out
      obtain ⟨y0, y1, y2, y3⟩ := tok_cells HT7.out
      go_wp2_with fail
      refine (HE.out _ _ _ _ _ HJ7.out HQ7.out).mono ?_
      rintro e w8 ⟨rfl, hb⟩
      have HB8 := Lib.hid (HB7.out.trans (hb.mono HB7.out.size))
      clear hb x0 x1 x2 x3 y0 y1 y2 y3
      go_wp2_with fail
      refine (HW.out _ HB8.out).mono ?_
      rintro e w9 ⟨rfl, hb⟩
      have HB9 := Lib.hid (HB8.out.trans (hb.mono HB8.out.size))
      clear hb
      go_wp2_with fail
      go_ret
      exact ⟨rfl, HB9.out⟩
end Go.Proofs.YtmkjoonbjmieoaaDoor
