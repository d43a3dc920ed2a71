/-
  FOR CARDS: an argument of type api.JValue opened: a value in memory (open_jval). No condition but those that the theorem says.
  The walk of emendlaw04.JsonBack: a value that may be is told by its text as itself; one that may not be has none. Condition: the variables that are read hold what their text lays (Facts); no length in the value is beyond Go's own (LimJ).
  The walk of emendlaw04.JsonBack, for its card. Condition: the variables that are read hold what their text lays.
-/
import Derived.Test.YtmkjoonbjmieoaaGreatDoorQAlike
import Derived.Test.YtmkjoonbjmieoaaGreatDoorQJFew
import Derived.Lib.SmallJoins
import Derived.Deep.SlicePairs
import Derived.Deep.Strs
import Derived.OpenShut
namespace Go.Proofs.YtmkjoonbjmieoaaGreatDoor
open Go.ChangeShapes Go.WideShapes Go.RowKit

instance : Inhabited J := ⟨.mk 0 [] [] []⟩
abbrev TJ : Nat → Prop := fun _ => True
theorem limL_of : ∀ l : List J, (∀ t ∈ l, LimJ t) → LimL l
  | [], _ => by rw [LimL]; trivial
  | j :: l, h => by
    rw [LimL]
    exact ⟨h j List.mem_cons_self, limL_of l fun t ht => h t (List.mem_cons_of_mem _ ht)⟩
section
variable {H : Type} {enc : TypeId × Value → H} {w : World} {base : Nat} {sp : Nat → Bool} {held : Bool}
theorem txt_of (s : ByteArray) : txt s.data.toList = s := by unfold txt; simp
set_option maxRecDepth 100000 in
theorem open_jvalL : ∀ (f : Nat) (fuel : Nat) (cs : List Value) (x : DataW H × List MemPlace), fuel ≤ f → DataW.trod enc Tryz.prog w base sp held fuel 25 cs = some x →
    ∃ (j : J) (v0 v1 v2 v3 : Value), cs = [v0, v1, v2, v3] ∧ JIn w TJ j (.agg #[v0, v1, v2, v3]) ∧ LimJ j := by
  have c3 : Tryz.prog.cellsOf 3 = 1 := by kernel_rfl
  have c9 : Tryz.prog.cellsOf 9 = 1 := by kernel_rfl
  have c22 : Tryz.prog.cellsOf 23 = 1 := by kernel_rfl
  have c23 : Tryz.prog.cellsOf 22 = 1 := by kernel_rfl
  have c24 : Tryz.prog.cellsOf 25 = 4 := by kernel_rfl
  intro f
  induction f with
  | zero =>
    intro fuel cs x hf h
    obtain rfl : fuel = 0 := by omega
    simp [DataW.trod] at h
  | succ f ih =>
    intro fuel cs x hf h
    obtain ⟨xs, n, rfl, -, hl, hxl, hfd⟩ := DataW.trod_struct Tryz.underlying25 h
    rw [c24] at hl
    match cs, hl, xs, hxl with
    | [v0, v1, v2, v3], _, [y0, y1, y2, y3], _ =>
      have g0 := hfd 0 _ rfl
      have g1 := hfd 1 _ rfl
      have g2 := hfd 2 _ rfl
      have g3 := hfd 3 _ rfl
      simp [c3, c9, c22, c23] at g0 g1 g2 g3
      obtain ⟨z0, e0, -, -⟩ := DataW.trod_int Tryz.underlying3 g0
      obtain ⟨s, e1, -, hs⟩ := DataW.trod_string Tryz.underlying9 g1
      simp only [List.cons.injEq, and_true] at e0 e1
      subst e0 e1
      have hs' : s.data.toList.length ≤ 9223372036854775807 := by
        have : s.data.toList.length = s.size := rfl
        unfold maxLen at hs; omega
      obtain ⟨ka, kn, kc, ks, e2, hkn, hkl, hkx, hkin⟩ : ∃ (ka : Option Addr) (kn kc : Nat) (ks : List (List UInt8)), v2 = .slice ka kn kc ∧ kn = ks.length ∧ ks.length ≤ 9223372036854775807 ∧ (∀ x ∈ ks, x.length ≤ 9223372036854775807) ∧ KIn w TJ ka ks := by
        rcases DataW.trod_slice Tryz.underlying22 g2 with ⟨e5, -⟩ | ⟨a, len, cap, elems, rest, m, rfl, e5, -, -, hlc, hcm, hel, hx, -, -⟩
        · simp only [List.cons.injEq, and_true] at e5
          exact ⟨none, 0, 0, [], e5, rfl, by simp, fun x hx => (by cases hx), fun h => absurd h (Nat.lt_irrefl 0)⟩
        · simp only [List.cons.injEq, and_true] at e5
          have each : ∀ i, i < len → ∃ t : List UInt8, w.cell? (a.add i) = some (.string (txt t)) ∧ t.length ≤ 9223372036854775807 := by
            intro i hi
            have h1 := hx i hi
            rw [c9, List.getElem?_eq_getElem (by omega)] at h1
            obtain ⟨ds, h2, h3⟩ := Option.bind_eq_some_iff.1 h1
            obtain ⟨-, hlen, hcell⟩ := World.cells?_some h2
            obtain ⟨t, e, -, ht⟩ := DataW.trod_string Tryz.underlying9 h3
            subst e
            have k0 := hcell 0 (by omega)
            rw [Deep.add_add] at k0
            refine ⟨t.data.toList, ?_, ?_⟩
            · rw [txt_of]; simpa using k0
            · have : t.data.toList.length = t.size := rfl
              unfold maxLen at ht; omega
          obtain ⟨Sx, hS⟩ := Deep.choose_lt each
          have hll : ((List.range len).map Sx).length = len := by simp
          refine ⟨some a, len, cap, (List.range len).map Sx, e5, hll.symm, by rw [hll]; unfold maxLen at hcm; omega, fun x hx => ?_, fun hp => ?_⟩
          · obtain ⟨i, hi, rfl⟩ := List.mem_map.1 hx
            exact (hS i (List.mem_range.1 hi)).2
          · obtain ⟨b, o, p⟩ := a
            obtain ⟨h0, _⟩ := hS 0 (by omega)
            have hs0 : p = none := by simpa [Addr.add] using World.cell?_spot h0
            subst hs0
            refine ⟨b, o, rfl, trivial, fun i x hi => ?_⟩
            rw [List.getElem?_map] at hi
            by_cases hjl : i < len
            · rw [List.getElem?_range hjl] at hi
              obtain rfl : Sx i = x := by simpa using hi
              have := (hS i hjl).1
              rwa [Addr.add_lit] at this
            · rw [List.getElem?_eq_none (by simp; omega)] at hi
              cases hi
      obtain ⟨ia, il, ic, l, e3, hil, hll0, hlim, hsj⟩ : ∃ (ia : Option Addr) (il ic : Nat) (l : List J), v3 = .slice ia il ic ∧ il = l.length ∧ l.length ≤ 9223372036854775807 ∧ LimL l ∧ (0 < l.length → ∃ b o, ia = some ⟨b, o, none⟩ ∧ TJ b ∧ LIn w TJ b o l) := by
        rcases DataW.trod_slice Tryz.underlying23 g3 with ⟨e5, -⟩ | ⟨a, len, cap, elems, rest, m, rfl, e5, -, -, hlc, hcm, hel, hx, -, -⟩
        · simp only [List.cons.injEq, and_true] at e5
          exact ⟨none, 0, 0, [], e5, rfl, by simp, limL_of [] (fun t ht => (by cases ht)), fun h => absurd h (Nat.lt_irrefl 0)⟩
        · simp only [List.cons.injEq, and_true] at e5
          have each : ∀ i, i < len → ∃ T : J, ∃ v0 v1 v2 v3, w.cell? (a.add (i * 4)) = some v0 ∧ w.cell? (a.add (i * 4 + 1)) = some v1 ∧ w.cell? (a.add (i * 4 + 2)) = some v2 ∧ w.cell? (a.add (i * 4 + 3)) = some v3 ∧ JIn w TJ T (.agg #[v0, v1, v2, v3]) ∧ LimJ T := by
            intro i hi
            have h1 := hx i hi
            rw [c24, List.getElem?_eq_getElem (by omega)] at h1
            obtain ⟨ds, h2, h3⟩ := Option.bind_eq_some_iff.1 h1
            obtain ⟨-, hlen, hcell⟩ := World.cells?_some h2
            obtain ⟨T, u0, u1, u2, u3, rfl, hn, hL⟩ := ih _ _ _ (by omega) h3
            have k0 := hcell 0 (by omega)
            have k1 := hcell 1 (by omega)
            have k2 := hcell 2 (by omega)
            have k3 := hcell 3 (by omega)
            rw [Deep.add_add] at k0 k1 k2 k3
            exact ⟨T, u0, u1, u2, u3, by simpa using k0, by simpa using k1, by simpa using k2, by simpa using k3, hn, hL⟩
          obtain ⟨Sx, hS⟩ := Deep.choose_lt each
          have hll : ((List.range len).map Sx).length = len := by simp
          refine ⟨some a, len, cap, (List.range len).map Sx, e5, hll.symm, by rw [hll]; unfold maxLen at hcm; omega, limL_of _ (fun t ht => ?_), fun hp => ?_⟩
          · obtain ⟨i, hi, rfl⟩ := List.mem_map.1 ht
            obtain ⟨_, _, _, _, _, _, _, _, _, hL⟩ := hS i (List.mem_range.1 hi)
            exact hL
          · obtain ⟨b, o, p⟩ := a
            obtain ⟨_, _, _, _, h0, _⟩ := hS 0 (by omega)
            have hs0 : p = none := by simpa [Addr.add] using World.cell?_spot h0
            subst hs0
            refine ⟨b, o, rfl, trivial, lin_of_row _ o fun i T hi => ?_⟩
            rw [List.getElem?_map] at hi
            by_cases hjl : i < len
            · rw [List.getElem?_range hjl] at hi
              obtain rfl : Sx i = T := by simpa using hi
              obtain ⟨u0, u1, u2, u3, h0, h1, h2, h3, hn, -⟩ := hS i hjl
              rw [Addr.add_lit] at h0 h1 h2 h3
              exact ⟨u0, u1, u2, u3, h0, h1, h2, h3, hn⟩
            · rw [List.getElem?_eq_none (by simp; omega)] at hi
              cases hi
      subst e2 e3 hkn hil
      refine ⟨.mk z0 s.data.toList ks l, _, _, _, _, rfl, ?_, ?_⟩
      · have := JIn.shut (k := z0) (s := s.data.toList) (kc := kc) (ic := ic) hkin hsj
        rwa [txt_of] at this
      · rw [LimJ]
        exact ⟨hs', hkl, hkx, hll0, hlim⟩
set_option maxRecDepth 100000 in
/-- An argument of type api.JValue: a value. -/
theorem open_jval {r : Reach} {b0 : Nat} {v : Value} {d : DataW H} {p : List MemPlace} (hv : Value.okWide Tryz.prog w r b0 25 v) (h : DataW.Trod enc Tryz.prog w base sp held 25 v d p) : ∃ j : J, LimJ j ∧ JIn w TJ j v := by
  obtain ⟨cs, rfl, -⟩ := okWide_struct Tryz.underlying25 hv
  obtain ⟨fuel, hf⟩ := h
  obtain ⟨j, v0, v1, v2, v3, e, hn, hL⟩ := open_jvalL fuel fuel _ _ (Nat.le_refl _) hf
  have hcs : cs = #[v0, v1, v2, v3] := by
    have : cs.toList = [v0, v1, v2, v3] := by simpa [Value.cells] using e
    rw [← Array.toArray_toList (xs := cs), this]
  exact ⟨j, hL, by rw [hcs]; exact hn⟩
end
end Go.Proofs.YtmkjoonbjmieoaaGreatDoor
namespace Go.Proofs.YtmkjoonbjmieoaaGreatDoor
open Go.RowKit

set_option maxRecDepth 100000 in
set_option maxHeartbeats 4000000 in
theorem jsonBack_walk (P : Nat → Prop) (j : J) (v : Value) (w : World) (hl : LimJ j) (hj : JIn w P j v) (hF : Facts w) : Calls Tryz.prog 6 #[v] w fun e w' => e = .returned (.bool true) ∧ Below w.heap.size w w' := by
  have HF := Lib.hid hF
  have HW := Lib.hid (fun (W : World) (hb : Below w.heap.size w W) => works_any W (hF.below hb))
  obtain ⟨k1, s1, A1, n1, c1, B1, m1, e1, rfl⟩ := jin_form hj
  have HB := Lib.hid (BJ.new w #[.int .i64 k1, .string s1, .slice A1 n1 c1, .slice B1 m1 e1])
  have HJ := Lib.hid hj
  have HFW := Lib.hid (few_any P j _ _ (hj.below HB.out.below) hl)
  obtain ⟨x0, x1, x2, x3⟩ := tok_cells HB.out.cell
  have HPT := Lib.hid (fun (hs : szJ j ≤ 1000000) (W : World) (hW : Facts W) (v : Value) (P : Nat → Prop) (hj : JIn W P j v) => put_any P j v W hs hj hW)
  have HC := Lib.hid (fun (hs : szJ j ≤ 1000000) (W : World) (hW : Facts W) (v : Value) (P : Nat → Prop) (hj : JIn W P j v) => check_any P j v W hs hj hW)
  clear hl hj hF
  go_enter Tryz.func6, Tryz.ntmps6
  go_wp2_with fail
  refine HFW.out.mono ?_
  rintro e w1 ⟨b, rfl, hsm, hb⟩
  have HB1 := Lib.hid (HB.out.step hb)
  have HSM := Lib.hid hsm
  clear hb hsm x0 x1 x2 x3 HFW
  obtain ⟨x0, x1, x2, x3⟩ := tok_cells HB1.out.cell
  cases b with
  | false =>
    clear HSM HPT HC
    go_wp2_with fail
    refine (HW.out _ HB1.out.below).mono ?_
    rintro e w2 ⟨rfl, hb⟩
    have HB2 := Lib.hid (HB1.out.below.trans (hb.mono HB1.out.below.size))
    clear hb
    go_wp2_with fail
    go_ret
    exact ⟨rfl, HB2.out⟩
  | true =>
    have hs : szJ j ≤ 1000000 := Nat.le_trans (HSM.out rfl) (by decide)
    have HSZ : Hid (szJ j ≤ 4500) := Lib.hid (HSM.out rfl)
    have HPT1 := Lib.hid (HPT.out hs)
    have HC1 := Lib.hid (HC.out hs)
    have HE := Lib.hid (equalJ_any 1000000 j hs (Nat.le_refl _))
    have HSA := Lib.hid (fun (hc : checkJ j = 0) (P Q : Nat → Prop) => same_refl P Q j hs hc)
    clear HSM HPT HC hs
    by_cases h0 : checkJ j = 0
    · rw [putJ_ok h0] at HPT1
      rw [h0] at HC1
      have HS1 := Lib.hid (HSA.out h0)
      have HP2 := Lib.hid (fun (W : World) (hb : Below w.heap.size w W) => jparse_yes (txt (textJ j)) (by have := textJ_len j; have := HSZ.out; rw [txt_size]; omega) (by rw [txt_data]; exact parse_text j h0) W (HF.out.below hb))
      generalize txt (textJ j) = T at *
      clear h0 HSA
      go_wp2_with fail
      refine (HPT1.out _ (HF.out.below HB1.out.below) _ _ (HJ.out.below HB1.out.below)).mono ?_
      rintro e w2 ⟨rfl, hb⟩
      have HB2 := Lib.hid (HB1.out.step hb)
      clear hb x0 x1 x2 x3
      go_wp2_with fail
      refine (HP2.out _ HB2.out.below).mono ?_
      rintro e w3 ⟨v, rfl, hj, hb⟩
      obtain ⟨k2, s2, A2, n2, c2, B2, m2, e2, rfl⟩ := jin_form hj
      have hb5 := alloc_below w3 (.cells #[.int .i64 k2, .string s2, .slice A2 n2 c2, .slice B2 m2 e2] 25)
      have HB5 := Lib.hid ((HB2.out.step hb).step hb5)
      have HT5 := Lib.hid (alloc_top w3 #[.int .i64 k2, .string s2, .slice A2 n2 c2, .slice B2 m2 e2] 25)
      have HQ5 := Lib.hid (hj.below hb5)
      obtain ⟨x0, x1, x2, x3⟩ := tok_cells HB5.out.cell
      obtain ⟨y0, y1, y2, y3⟩ := tok_cells HT5.out
      clear hj hb hb5
      go_wp2_with fail
      refine (HE.out _ _ _ _ _ (HJ.out.below HB5.out.below) HQ5.out).mono ?_
      rintro e w6 ⟨rfl, hb⟩
      have HB6 := Lib.hid (HB5.out.step hb)
      have HT6 := Lib.hid (heap_keep hb HT5.out)
      have HQ6 := Lib.hid (HQ5.out.below hb)
      clear hb x0 x1 x2 x3 y0 y1 y2 y3
      obtain ⟨x0, x1, x2, x3⟩ := tok_cells HB6.out.cell
      go_wp2_with fail
      refine (HC1.out _ (HF.out.below HB6.out.below) _ _ (HJ.out.below HB6.out.below)).mono ?_
      rintro e w7 ⟨rfl, hb⟩
      have HB7 := Lib.hid (HB6.out.step hb)
      have HT7 := Lib.hid (heap_keep hb HT6.out)
      have HQ7 := Lib.hid (HQ6.out.below hb)
      clear hb x0 x1 x2 x3
      obtain ⟨x0, x1, x2, x3⟩ := tok_cells HB7.out.cell
      obtain ⟨y0, y1, y2, y3⟩ := tok_cells HT7.out
      go_wp2_with fail
      refine (HS1.out _ _ _ _ _ (HJ.out.below HB7.out.below) HQ7.out (HF.out.below HB7.out.below)).mono ?_
      rintro e w8 ⟨rfl, hb⟩
      have HB8 := Lib.hid (HB7.out.step hb)
      clear hb x0 x1 x2 x3 y0 y1 y2 y3
      go_wp2_with fail
      refine (HW.out _ HB8.out.below).mono ?_
      rintro e w9 ⟨rfl, hb⟩
      have HB9 := Lib.hid (HB8.out.below.trans (hb.mono HB8.out.below.size))
      clear hb
      go_wp2_with fail
      go_ret
      exact ⟨rfl, HB9.out⟩
    · have hne : (((checkJ j : Nat) : Int) != 0) = true := by simp only [bne_iff_ne, ne_eq]; omega
      have hpj : putJ j = ([], checkJ j) := by unfold putJ; rw [if_neg h0]
      rw [hpj] at HPT1
      have hempty : (txt []).toList = [] := txt_list []
      generalize checkJ j = cj at *
      clear h0 HSA HE hpj
      go_wp2_with fail
      refine (HPT1.out _ (HF.out.below HB1.out.below) _ _ (HJ.out.below HB1.out.below)).mono ?_
      rintro e w2 ⟨rfl, hb⟩
      have HB2 := Lib.hid (HB1.out.step hb)
      clear hb x0 x1 x2 x3
      obtain ⟨x0, x1, x2, x3⟩ := tok_cells HB2.out.cell
      go_wp2_with fail
      refine (HC1.out _ (HF.out.below HB2.out.below) _ _ (HJ.out.below HB2.out.below)).mono ?_
      rintro e w3 ⟨rfl, hb⟩
      have HB3 := Lib.hid (HB2.out.step hb)
      clear hb x0 x1 x2 x3
      go_wp2_with fail
      refine (HW.out _ HB3.out.below).mono ?_
      rintro e w4 ⟨rfl, hb⟩
      have HB4 := Lib.hid (HB3.out.below.trans (hb.mono HB3.out.below.size))
      clear hb
      go_wp2_with fail
      go_ret
      exact ⟨rfl, HB4.out⟩
end Go.Proofs.YtmkjoonbjmieoaaGreatDoor
namespace Go.Proofs.YtmkjoonbjmieoaaGreatDoor
open Go.RowKit

theorem jsonBack_law (v : Value) (j : J) (w : World) (h0 : LimJ j ∧ JIn w TJ j v) (hF : Facts w) : Calls Tryz.prog 6 #[v] w fun e w' => e = .returned (.bool true) ∧ Below w.heap.size w w' := jsonBack_walk TJ j v w h0.1 h0.2 hF
end Go.Proofs.YtmkjoonbjmieoaaGreatDoor
