/-
  emendlaw10.AstKnown: true, in every world that its lexer works in. (Written by a program.)
  The walk of emendlaw10.AstKnown, for its card. Condition: the variables that are read hold what their text lays.
-/
import Derived.Test.YtcbfohokigamfaaGreatDoorNLeaf3
namespace Go.Proofs.YtcbfohokigamfaaGreatDoor
open Go.RowKit
variable {FW : World → Prop} {ff : List UInt8 → Nat} {OK : List UInt8 → Prop}

def tMinus : Nd := nt 30 ⟨#[45]⟩ [tName ⟨#[120]⟩]
def tNought : Nd := nt 21 ⟨#[48, 49]⟩ []
theorem nin_f (W : World) : NIn W TT tF (.agg #[.int .i64 1, .int .i64 0, .int .i64 9, .int .i64 0, .string ⟨#[112]⟩, .slice none 0 0]) := by
  unfold tF
  rw [NIn]
  exact ⟨none, 0, rfl, Nat.le_refl _, fun h => by cases h⟩
def LeafRow (w : World) (v : Value) : Prop := ∃ g cap, v = .slice (some ⟨g, 0, none⟩) 1 cap ∧ (w.cell? ⟨g, 0, none⟩ = some (.int .i64 1) ∧ w.cell? ⟨g, 1, none⟩ = some (.int .i64 0) ∧ w.cell? ⟨g, 2, none⟩ = some (.int .i64 9) ∧ w.cell? ⟨g, 3, none⟩ = some (.int .i64 0) ∧ w.cell? ⟨g, 4, none⟩ = some (.string ⟨#[112]⟩) ∧ w.cell? ⟨g, 5, none⟩ = some (.slice none 0 0))
inductive Sq where
  | c (v : Value) | tree (T : Nd) | trow (T : Nd) | leafrow | any
def Sq.holds : Sq → World → Value → Prop
  | .c v, _, u => u = v
  | .tree T, w, u => NIn w TT T u
  | .trow T, w, u => ∃ A, u = .slice A 1 1 ∧ SIn w TT [T] A
  | .leafrow, w, u => LeafRow w u
  | .any, _, _ => True
theorem Sq.mono (s : Sq) {w w' : World} {v : Value} (h : s.holds w v) (hb : Below w.heap.size w w') : s.holds w' v := by
  cases s with
  | c u => exact h
  | tree T => exact NIn.below h hb
  | trow T => obtain ⟨A, e, h⟩ := h; exact ⟨A, e, h.below hb⟩
  | leafrow => obtain ⟨g, cap, e, h⟩ := h; exact ⟨g, cap, e, six_keep h hb⟩
  | any => trivial
theorem trow_one {w : World} {T : Nd} {v0 v1 v2 v3 v4 v5 : Value} {t : TypeId} (hn : NIn w TT T (.agg #[v0, v1, v2, v3, v4, v5])) : SIn (w.alloc (.cells #[v0, v1, v2, v3, v4, v5] t)) TT [T] (some ⟨w.heap.size, 0, none⟩) := by
  have h := alloc_top w #[v0, v1, v2, v3, v4, v5] t
  exact fun _ => ⟨_, 0, rfl, trivial, nln_cons (cellA h (i := 0) rfl) (cellA h (i := 1) rfl) (cellA h (i := 2) rfl) (cellA h (i := 3) rfl) (cellA h (i := 4) rfl) (cellA h (i := 5) rfl) (hn.below (alloc_below w _)) nln_nil⟩
set_option maxRecDepth 100000 in
set_option maxHeartbeats 8000000 in
theorem known_any (hS : FSpec FW ff OK) (w : World) (hF : Facts w) (hW : FW w) : Calls Tryz.prog 9 #[] w fun e w' => e = .returned (.bool true) ∧ Below w.heap.size w w' := by
  have HR := Lib.hid (ready_of hS)
  have HO := Lib.hid (small_tok OK)
  have HNV := Lib.hid (name_val ⟨#[120]⟩ w)
  have HW : Hid (TokW FW w) := Lib.hid ⟨hF, hW⟩
  have HWK : Hid (∀ W, TokW FW W → Calls Tryz.prog 15 #[] W fun e w' => e = .returned (.bool true) ∧ Below W.heap.size W w') := Lib.hid (fun W h => works_tok hS W h.1 h.2)
  have HC1 : Hid (∀ W, TokW FW W → Calls Tryz.prog 16 #[.agg #[.int .i64 1, .int .i64 0, .int .i64 9, .int .i64 0, .string ⟨#[112]⟩, .slice none 0 0]] W fun e w' => e = .returned (.int .i64 0) ∧ Below W.heap.size W w') := Lib.hid (fun W hW => (check_any HR.out.keepF HR.out.tok 600 tF _ W hW (fit_of HO.out (by kernel_rfl)) (nin_f W)).mono (by rintro e w' ⟨rfl, hb⟩; exact ⟨by rw [show chk (tokT ff) 600 tF = 0 from by kernel_rfl], hb⟩))
  have HC2 : Hid (∀ W, TokW FW W → Calls Tryz.prog 16 #[.agg #[.int .i64 25, .int .i64 0, .int .i64 0, .int .i64 0, .string ⟨#[120]⟩, .slice none 0 0]] W fun e w' => e = .returned (.int .i64 4) ∧ Below W.heap.size W w') := Lib.hid (fun W hW => (check_any HR.out.keepF HR.out.tok 600 (tName ⟨#[120]⟩) _ W hW (fit_of HO.out (by kernel_rfl)) (nin_leaf W 25 ⟨#[120]⟩)).mono (by rintro e w' ⟨rfl, hb⟩; exact ⟨by rw [show chk (tokT ff) 600 (tName ⟨#[120]⟩) = 4 from by kernel_rfl], hb⟩))
  have HC3 : Hid (∀ W, TokW FW W → Calls Tryz.prog 16 #[.agg #[.int .i64 1, .int .i64 0, .int .i64 0, .int .i64 0, .string ⟨#[102, 111, 114]⟩, .slice none 0 0]] W fun e w' => e = .returned (.int .i64 4) ∧ Below W.heap.size W w') := Lib.hid (fun W hW => (check_any HR.out.keepF HR.out.tok 600 (nt 1 ⟨#[102, 111, 114]⟩ []) _ W hW (fit_of HO.out (by kernel_rfl)) (nin_leaf W 1 ⟨#[102, 111, 114]⟩)).mono (by rintro e w' ⟨rfl, hb⟩; exact ⟨by rw [show chk (tokT ff) 600 (nt 1 ⟨#[102, 111, 114]⟩ []) = 4 from by kernel_rfl], hb⟩))
  have HD1 : Hid (∀ W, TokW FW W → Calls Tryz.prog 17 #[.agg #[.int .i64 1, .int .i64 0, .int .i64 9, .int .i64 0, .string ⟨#[112]⟩, .slice none 0 0]] W fun e w' => e = .returned (.int .i64 1) ∧ Below W.heap.size W w') := Lib.hid (fun W hW => (depth_any 100 tF _ W (by decide) (by decide) (nin_f W)).mono (by rintro e w' ⟨rfl, hb⟩; exact ⟨by rw [show (depth tF : Int) = 1 from by kernel_rfl], hb⟩))
  have HD2 : Hid (∀ W, TokW FW W → Calls Tryz.prog 17 #[.agg #[.int .i64 0, .int .i64 0, .int .i64 0, .int .i64 0, .string ⟨#[]⟩, .slice none 0 0]] W fun e w' => e = .returned (.int .i64 0) ∧ Below W.heap.size W w') := Lib.hid (fun W hW => (depth_any 100 (nt 0 ⟨#[]⟩ []) _ W (by decide) (by decide) (nin_leaf W 0 ⟨#[]⟩)).mono (by rintro e w' ⟨rfl, hb⟩; exact ⟨by rw [show (depth (nt 0 ⟨#[]⟩ []) : Int) = 0 from by kernel_rfl], hb⟩))
  clear hF hW hS
  go_enter Tryz.func9, Tryz.ntmps9
  go_wp2_with fail
  refine HNV.out.mono ?_
  rintro e w0 ⟨rfl, hb⟩
  have HB0 := Lib.hid hb
  clear hb HNV
  go_wp2_with fail
  obtain ⟨B1, T1, Z1, K1⟩ := one_more HB0.out HB0.out.size #[.int .i64 25, .int .i64 0, .int .i64 0, .int .i64 0, .string ⟨#[120]⟩, .slice none 0 0] 24
  obtain ⟨B2, T2, Z2, K2⟩ := one_more B1 B1.size #[.int .i64 1, .int .i64 0, .int .i64 9, .int .i64 0, .string ⟨#[112]⟩, .slice none 0 0] 24
  rw [Z1] at T2 Z2
  replace T1 := (K2.block _ (Array.getElem?_eq_some_iff.1 T1).1).trans T1
  obtain ⟨B3, T3, Z3, K3⟩ := one_more B2 B2.size #[.int .i64 0, .int .i64 0, .int .i64 0, .int .i64 0, .string ⟨#[]⟩, .slice none 0 0] 24
  rw [Z2] at T3 Z3
  replace T1 := (K3.block _ (Array.getElem?_eq_some_iff.1 T1).1).trans T1
  replace T2 := (K3.block _ (Array.getElem?_eq_some_iff.1 T2).1).trans T2
  have HX := Lib.hid (six_cells T1)
  have HF := Lib.hid (six_cells T2)
  have HZ := Lib.hid (six_cells T3)
  have HB3 := Lib.hid B3
  clear B1 B2 B3 T1 T2 T3 Z1 Z2 Z3 K1 K2 K3 HB0
  generalize ((w0.alloc (.cells #[.int .i64 25, .int .i64 0, .int .i64 0, .int .i64 0, .string ⟨#[120]⟩, .slice none 0 0] 24)).alloc (.cells #[.int .i64 1, .int .i64 0, .int .i64 9, .int .i64 0, .string ⟨#[112]⟩, .slice none 0 0] 24)).alloc (.cells #[.int .i64 0, .int .i64 0, .int .i64 0, .int .i64 0, .string ⟨#[]⟩, .slice none 0 0] 24) = w3 at *
  generalize w0.heap.size = N at *
  have HQ0 := Lib.hid (Below.refl w3.heap.size w3)
  refine (HWK.out _ (HR.out.keepF _ _ HW.out (HB3.out.trans (HQ0.out.mono HB3.out.size)))).mono ?_
  rintro e w' ⟨rfl, hb⟩
  have HQ1 := Lib.hid (HQ0.out.trans (hb.mono HQ0.out.size))
  clear hb
  obtain ⟨a0, a1, a2, a3, a4, a5⟩ := six_keep HX.out HQ1.out
  obtain ⟨b0, b1, b2, b3, b4, b5⟩ := six_keep HF.out HQ1.out
  obtain ⟨c0, c1, c2, c3, c4, c5⟩ := six_keep HZ.out HQ1.out
  go_wp2_with fail
  clear a0 a1 a2 a3 a4 a5 b0 b1 b2 b3 b4 b5 c0 c1 c2 c3 c4 c5
  refine (HC1.out _ (HR.out.keepF _ _ HW.out (HB3.out.trans (HQ1.out.mono HB3.out.size)))).mono ?_
  rintro e w' ⟨rfl, hb⟩
  have HQ2 := Lib.hid (HQ1.out.trans (hb.mono HQ1.out.size))
  clear hb
  obtain ⟨a0, a1, a2, a3, a4, a5⟩ := six_keep HX.out HQ2.out
  obtain ⟨b0, b1, b2, b3, b4, b5⟩ := six_keep HF.out HQ2.out
  obtain ⟨c0, c1, c2, c3, c4, c5⟩ := six_keep HZ.out HQ2.out
  go_wp2_with fail
  clear a0 a1 a2 a3 a4 a5 b0 b1 b2 b3 b4 b5 c0 c1 c2 c3 c4 c5
  refine (HC2.out _ (HR.out.keepF _ _ HW.out (HB3.out.trans (HQ2.out.mono HB3.out.size)))).mono ?_
  rintro e w' ⟨rfl, hb⟩
  have HQ3 := Lib.hid (HQ2.out.trans (hb.mono HQ2.out.size))
  clear hb
  obtain ⟨a0, a1, a2, a3, a4, a5⟩ := six_keep HX.out HQ3.out
  obtain ⟨b0, b1, b2, b3, b4, b5⟩ := six_keep HF.out HQ3.out
  obtain ⟨c0, c1, c2, c3, c4, c5⟩ := six_keep HZ.out HQ3.out
  go_wp2_with fail
  clear a0 a1 a2 a3 a4 a5 b0 b1 b2 b3 b4 b5 c0 c1 c2 c3 c4 c5
  refine (HC3.out _ (HR.out.keepF _ _ HW.out (HB3.out.trans (HQ3.out.mono HB3.out.size)))).mono ?_
  rintro e w' ⟨rfl, hb⟩
  have HQ4 := Lib.hid (HQ3.out.trans (hb.mono HQ3.out.size))
  clear hb
  obtain ⟨a0, a1, a2, a3, a4, a5⟩ := six_keep HX.out HQ4.out
  obtain ⟨b0, b1, b2, b3, b4, b5⟩ := six_keep HF.out HQ4.out
  obtain ⟨c0, c1, c2, c3, c4, c5⟩ := six_keep HZ.out HQ4.out
  go_wp2_with fail
  clear a0 a1 a2 a3 a4 a5 b0 b1 b2 b3 b4 b5 c0 c1 c2 c3 c4 c5
  refine (HD1.out _ (HR.out.keepF _ _ HW.out (HB3.out.trans (HQ4.out.mono HB3.out.size)))).mono ?_
  rintro e w' ⟨rfl, hb⟩
  have HQ5 := Lib.hid (HQ4.out.trans (hb.mono HQ4.out.size))
  clear hb
  obtain ⟨a0, a1, a2, a3, a4, a5⟩ := six_keep HX.out HQ5.out
  obtain ⟨b0, b1, b2, b3, b4, b5⟩ := six_keep HF.out HQ5.out
  obtain ⟨c0, c1, c2, c3, c4, c5⟩ := six_keep HZ.out HQ5.out
  go_wp2_with fail
  clear a0 a1 a2 a3 a4 a5 b0 b1 b2 b3 b4 b5 c0 c1 c2 c3 c4 c5
  refine (HD2.out _ (HR.out.keepF _ _ HW.out (HB3.out.trans (HQ5.out.mono HB3.out.size)))).mono ?_
  rintro e w' ⟨rfl, hb⟩
  have HQ6 := Lib.hid (HQ5.out.trans (hb.mono HQ5.out.size))
  clear hb
  obtain ⟨a0, a1, a2, a3, a4, a5⟩ := six_keep HX.out HQ6.out
  obtain ⟨b0, b1, b2, b3, b4, b5⟩ := six_keep HF.out HQ6.out
  obtain ⟨c0, c1, c2, c3, c4, c5⟩ := six_keep HZ.out HQ6.out
  go_wp2_with fail
  clear a0 a1 a2 a3 a4 a5 b0 b1 b2 b3 b4 b5 c0 c1 c2 c3 c4 c5
  obtain ⟨w9, hw9⟩ : ∃ W, W = w' := ⟨_, rfl⟩
  rw [← hw9]
  rw [← hw9] at HQ6
  clear hw9
  have HB9 := Lib.hid (HB3.out.trans (HQ6.out.mono HB3.out.size))
  obtain ⟨B1, T1, Z1, K1⟩ := one_more HB9.out HB9.out.size #[.int .i64 25, .int .i64 0, .int .i64 0, .int .i64 0, .string ⟨#[120]⟩, .slice none 0 0] 24
  generalize hK : w9.heap.size = K at *
  obtain ⟨B2, T2, Z2, K2⟩ := one_more B1 B1.size #[.int .i64 30, .int .i64 0, .int .i64 0, .int .i64 0, .string ⟨#[45]⟩, .slice (some ⟨K, 0, none⟩) 1 1] 24
  rw [Z1] at T2 Z2
  replace T1 := (K2.block _ (Array.getElem?_eq_some_iff.1 T1).1).trans T1
  obtain ⟨B3, T3, Z3, K3⟩ := one_more B2 B2.size #[.int .i64 21, .int .i64 0, .int .i64 0, .int .i64 0, .string ⟨#[48, 49]⟩, .slice none 0 0] 24
  rw [Z2] at T3 Z3
  replace T1 := (K3.block _ (Array.getElem?_eq_some_iff.1 T1).1).trans T1
  replace T2 := (K3.block _ (Array.getElem?_eq_some_iff.1 T2).1).trans T2
  have HQ10 : Hid (Below w3.heap.size w3 (((w9.alloc (.cells #[.int .i64 25, .int .i64 0, .int .i64 0, .int .i64 0, .string ⟨#[120]⟩, .slice none 0 0] 24)).alloc (.cells #[.int .i64 30, .int .i64 0, .int .i64 0, .int .i64 0, .string ⟨#[45]⟩, .slice (some ⟨K, 0, none⟩) 1 1] 24)).alloc (.cells #[.int .i64 21, .int .i64 0, .int .i64 0, .int .i64 0, .string ⟨#[48, 49]⟩, .slice none 0 0] 24))) := Lib.hid (((HQ6.out.alloc HQ6.out.size _).alloc (by rw [World.size_alloc]; exact Nat.le_succ_of_le HQ6.out.size) _).alloc (by rw [World.size_alloc, World.size_alloc]; exact Nat.le_succ_of_le (Nat.le_succ_of_le HQ6.out.size)) _)
  have HX8 := Lib.hid (six_keep HX.out HQ10.out)
  have HF8 := Lib.hid (six_keep HF.out HQ10.out)
  have HM8 := Lib.hid (six_cells T2)
  have HU8 := Lib.hid (six_cells T3)
  have HB8 := Lib.hid B3
  have HNM : Hid (NIn (((w9.alloc (.cells #[.int .i64 25, .int .i64 0, .int .i64 0, .int .i64 0, .string ⟨#[120]⟩, .slice none 0 0] 24)).alloc (.cells #[.int .i64 30, .int .i64 0, .int .i64 0, .int .i64 0, .string ⟨#[45]⟩, .slice (some ⟨K, 0, none⟩) 1 1] 24)).alloc (.cells #[.int .i64 21, .int .i64 0, .int .i64 0, .int .i64 0, .string ⟨#[48, 49]⟩, .slice none 0 0] 24)) TT tMinus (.agg #[.int .i64 30, .int .i64 0, .int .i64 0, .int .i64 0, .string ⟨#[45]⟩, .slice (some ⟨K, 0, none⟩) 1 1])) := Lib.hid (nin_kids (l := [tName ⟨#[120]⟩]) 30 ⟨#[45]⟩ (Nat.le_refl _) (nln_cons (cellA T1 (i := 0) rfl) (cellA T1 (i := 1) rfl) (cellA T1 (i := 2) rfl) (cellA T1 (i := 3) rfl) (cellA T1 (i := 4) rfl) (cellA T1 (i := 5) rfl) (nin_leaf _ 25 ⟨#[120]⟩) nln_nil))
  clear B1 B2 B3 T1 T2 T3 Z1 Z2 Z3 K1 K2 K3 hK HX HF HZ HQ10 HB9 HB3 HQ0 HQ1 HQ2 HQ3 HQ4 HQ5 HQ6 HC1 HC2 HC3 HD1 HD2
  generalize ((w9.alloc (.cells #[.int .i64 25, .int .i64 0, .int .i64 0, .int .i64 0, .string ⟨#[120]⟩, .slice none 0 0] 24)).alloc (.cells #[.int .i64 30, .int .i64 0, .int .i64 0, .int .i64 0, .string ⟨#[45]⟩, .slice (some ⟨K, 0, none⟩) 1 1] 24)).alloc (.cells #[.int .i64 21, .int .i64 0, .int .i64 0, .int .i64 0, .string ⟨#[48, 49]⟩, .slice none 0 0] 24) = w10 at *
  generalize hN4 : K + 1 = N4 at *
  clear hN4
  refine wp_region_held_drew (S := fun w' => w'.cell? ⟨N, 0, none⟩ = some (.int .i64 25) ∧ w'.cell? ⟨N, 1, none⟩ = some (.int .i64 0) ∧ w'.cell? ⟨N, 2, none⟩ = some (.int .i64 0) ∧ w'.cell? ⟨N, 3, none⟩ = some (.int .i64 0) ∧ w'.cell? ⟨N, 4, none⟩ = some (.string ⟨#[120]⟩) ∧ w'.cell? ⟨N, 5, none⟩ = some (.slice none 0 0)) (by kernel_rfl) HX8.out (fun hHeld => ?_)
  refine wpAnyH_take (i := 0) (oi := ⟨some 42, _, _, _, _, _⟩) (v := ?_) rfl (by kernel_rfl) (by kernel_rfl) (by kernel_rfl) (fun _ _ _ h => h) (Or.inl ⟨by rfl, ?_⟩) hHeld ?_
  rotate_left
  · (intro W hSW; (try dsimp only at hSW); go_simp; first | done | with_reducible rfl)
  try simp only [Act.put, List.setIfInBounds_toArray, List.set_cons_zero, List.set_cons_succ]
  refine wpAnyH_take (i := 1) (oi := ⟨some 43, _, _, _, _, _⟩) (v := ?_) rfl (by kernel_rfl) (by kernel_rfl) (by kernel_rfl) (fun _ _ _ h => h) (Or.inl ⟨by rfl, ?_⟩) hHeld ?_
  rotate_left
  · (intro W hSW; (try dsimp only at hSW); go_simp; first | done | with_reducible rfl)
  try simp only [Act.put, List.setIfInBounds_toArray, List.set_cons_zero, List.set_cons_succ]
  refine wpAnyH_take (i := 2) (oi := ⟨some 44, _, _, _, _, _⟩) (v := ?_) rfl (by kernel_rfl) (by kernel_rfl) (by kernel_rfl) (fun _ _ _ h => h) (Or.inl ⟨by rfl, ?_⟩) hHeld ?_
  rotate_left
  · (intro W hSW; (try dsimp only at hSW); go_simp; first | done | with_reducible rfl)
  try simp only [Act.put, List.setIfInBounds_toArray, List.set_cons_zero, List.set_cons_succ]
  refine region_left (todo := [3, 4, 5, 6, 7, 8, 9, 10, 11, 12, 13, 14, 15, 16, 17, 18, 19, 20, 21, 22, 23, 24, 25, 26, 27, 28]) (φ := fun i => Sq.holds (match i with | 3 => .tree (tTwo (ByteArray.mk #[38, 38]) (tName ⟨#[120]⟩) (tName ⟨#[120]⟩)) | 4 => .tree (tTwo (ByteArray.mk #[124, 124]) (tName ⟨#[120]⟩) (tTwo (ByteArray.mk #[38, 38]) (tName ⟨#[120]⟩) (tName ⟨#[120]⟩))) | 5 => .tree (tBack (tTwo (ByteArray.mk #[124, 124]) (tName ⟨#[120]⟩) (tTwo (ByteArray.mk #[38, 38]) (tName ⟨#[120]⟩) (tName ⟨#[120]⟩)))) | 6 => .c (.bool true) | 7 => .c (.bool false) | 8 => .c (.bool false) | 9 => .c (.agg #[.int .i64 30, .int .i64 0, .int .i64 0, .int .i64 0, .string ⟨#[45]⟩, .slice (some ⟨K, 0, none⟩) 1 1]) | 10 => .tree (tBack tMinus) | 11 => .c (.bool true) | 12 => .c (.bool false) | 13 => .c (.bool false) | 14 => .c (.bool false) | 15 => .c (.agg #[.int .i64 21, .int .i64 0, .int .i64 0, .int .i64 0, .string ⟨#[48, 49]⟩, .slice none 0 0]) | 16 => .tree (tBack tNought) | 17 => .c (.bool true) | 18 => .c (.bool false) | 19 => .c (.bool false) | 20 => .c (.bool false) | 21 => .tree (tName (ByteArray.mk #[102])) | 22 => .tree tLit | 23 => .trow tLit | 24 => .tree (tCall (tName (ByteArray.mk #[102])) [tLit]) | 25 => .tree (tBranch (tCall (tName (ByteArray.mk #[102])) [tLit])) | 26 => .c (.bool true) | 27 => .c (.bool false) | 28 => .c (.bool false) | _ => .any)) (by kernel_rfl) (fun i w w' v h hb => Sq.mono _ h hb) ?_ ⟨?_, ?_, ?_, ?_, ?_, ?_, ?_, ?_, ?_, ?_, ?_, ?_, ?_, ?_, ?_, ?_, ?_, ?_, ?_, ?_, ?_, ?_, ?_, ?_, ?_, ?_, trivial⟩ ?_
  · exact fun w' hb => six_keep hHeld hb
  · intro a w' hb hr hd
    clear hHeld
    have e43 : a.tmps.getD 43 undef = .agg #[.int .i64 25, .int .i64 0, .int .i64 0, .int .i64 0, .string ⟨#[120]⟩, .slice none 0 0] := hr 43 (by kernel_rfl)
    have p43 : NIn w' TT (tName ⟨#[120]⟩) (.agg #[.int .i64 25, .int .i64 0, .int .i64 0, .int .i64 0, .string ⟨#[120]⟩, .slice none 0 0]) := nin_leaf w' 25 ⟨#[120]⟩
    have e43' := getD_q e43
    have e44 : a.tmps.getD 44 undef = .agg #[.int .i64 25, .int .i64 0, .int .i64 0, .int .i64 0, .string ⟨#[120]⟩, .slice none 0 0] := hr 44 (by kernel_rfl)
    have p44 : NIn w' TT (tName ⟨#[120]⟩) (.agg #[.int .i64 25, .int .i64 0, .int .i64 0, .int .i64 0, .string ⟨#[120]⟩, .slice none 0 0]) := nin_leaf w' 25 ⟨#[120]⟩
    have e44' := getD_q e44
    refine rop_call (d := 45) (o := _) rfl rfl rfl (f := 33) (args := #[.string (ByteArray.mk #[38, 38]), .agg #[.int .i64 25, .int .i64 0, .int .i64 0, .int .i64 0, .string ⟨#[120]⟩, .slice none 0 0], .agg #[.int .i64 25, .int .i64 0, .int .i64 0, .int .i64 0, .string ⟨#[120]⟩, .slice none 0 0]]) (by go_simp) ?_
    exact two_tree (ByteArray.mk #[38, 38]) (tName ⟨#[120]⟩) (tName ⟨#[120]⟩) _ _ w' p43 p44
  · intro a w' hb hr hd
    clear hHeld
    have e42 : a.tmps.getD 42 undef = .agg #[.int .i64 25, .int .i64 0, .int .i64 0, .int .i64 0, .string ⟨#[120]⟩, .slice none 0 0] := hr 42 (by kernel_rfl)
    have p42 : NIn w' TT (tName ⟨#[120]⟩) (.agg #[.int .i64 25, .int .i64 0, .int .i64 0, .int .i64 0, .string ⟨#[120]⟩, .slice none 0 0]) := nin_leaf w' 25 ⟨#[120]⟩
    have e42' := getD_q e42
    have p45 : NIn w' TT (tTwo (ByteArray.mk #[38, 38]) (tName ⟨#[120]⟩) (tName ⟨#[120]⟩)) (a.tmps.getD 45 undef) := hd 3 (by kernel_rfl)
    obtain ⟨v45, e45⟩ : ∃ v, a.tmps.getD 45 undef = v := ⟨_, rfl⟩
    rw [e45] at p45
    have e45' := getD_q e45
    refine rop_call (d := 46) (o := _) rfl rfl rfl (f := 33) (args := #[.string (ByteArray.mk #[124, 124]), .agg #[.int .i64 25, .int .i64 0, .int .i64 0, .int .i64 0, .string ⟨#[120]⟩, .slice none 0 0], v45]) (by go_simp) ?_
    exact two_tree (ByteArray.mk #[124, 124]) (tName ⟨#[120]⟩) (tTwo (ByteArray.mk #[38, 38]) (tName ⟨#[120]⟩) (tName ⟨#[120]⟩)) _ _ w' p42 p45
  · intro a w' hb hr hd
    clear hHeld
    have p46 : NIn w' TT (tTwo (ByteArray.mk #[124, 124]) (tName ⟨#[120]⟩) (tTwo (ByteArray.mk #[38, 38]) (tName ⟨#[120]⟩) (tName ⟨#[120]⟩))) (a.tmps.getD 46 undef) := hd 4 (by kernel_rfl)
    obtain ⟨v46, e46⟩ : ∃ v, a.tmps.getD 46 undef = v := ⟨_, rfl⟩
    rw [e46] at p46
    have e46' := getD_q e46
    refine rop_call (d := 47) (o := _) rfl rfl rfl (f := 32) (args := #[v46]) (by go_simp) ?_
    exact back_tree (tTwo (ByteArray.mk #[124, 124]) (tName ⟨#[120]⟩) (tTwo (ByteArray.mk #[38, 38]) (tName ⟨#[120]⟩) (tName ⟨#[120]⟩))) _ w' p46
  · intro a w' hb hr hd
    clear hHeld
    have p47 : NIn w' TT (tBack (tTwo (ByteArray.mk #[124, 124]) (tName ⟨#[120]⟩) (tTwo (ByteArray.mk #[38, 38]) (tName ⟨#[120]⟩) (tName ⟨#[120]⟩)))) (a.tmps.getD 47 undef) := hd 5 (by kernel_rfl)
    obtain ⟨v47, e47⟩ : ∃ v, a.tmps.getD 47 undef = v := ⟨_, rfl⟩
    rw [e47] at p47
    have e47' := getD_q e47
    refine rop_call (d := 48) (o := _) rfl rfl rfl (f := 31) (args := #[v47]) (by go_simp) ?_
    refine (may_any HR.out 600 (tBack (tTwo (ByteArray.mk #[124, 124]) (tName ⟨#[120]⟩) (tTwo (ByteArray.mk #[38, 38]) (tName ⟨#[120]⟩) (tName ⟨#[120]⟩)))) _ w' (HR.out.keepF _ _ HW.out (HB8.out.trans ((below_drew hb).mono HB8.out.size))) (fit_of HO.out (by kernel_rfl)) p47 true (by kernel_rfl)).mono ?_
    rintro e w'' ⟨rfl, hb'⟩
    exact ⟨_, rfl, rfl, hb'⟩
  · intro a w' hb hr hd
    clear hHeld
    have e48 : a.tmps.getD 48 undef = .bool true := hd 6 (by kernel_rfl)
    have e48' := getD_q e48
    exact rop_val (d := 49) (o := _) rfl rfl rfl (v := .bool false) (w' := w') (by go_simp) rfl (Below.refl _ _)
  · intro a w' hb hr hd
    clear hHeld
    have e49 : a.tmps.getD 49 undef = .bool false := hd 7 (by kernel_rfl)
    have e49' := getD_q e49
    exact rop_val (d := 50) (o := _) rfl rfl rfl (v := .bool false) (w' := w') (by go_simp) rfl (Below.refl _ _)
  · intro a w' hb hr hd
    clear hHeld
    have hg : a.tmps.getD 50 undef = .bool false := hd 8 (by kernel_rfl)
    have e4 : a.tmps.getD 4 undef = .pointer (some ⟨N4, 0, none⟩) := hr 4 (by kernel_rfl)
    have e4' := getD_q e4
    obtain ⟨c0, c1, c2, c3, c4, c5⟩ := six_keep HM8.out (below_drew hb)
    exact rop_val (d := 51) (o := _) rfl rfl (wanted_of rfl rfl hg) (v := .agg #[.int .i64 30, .int .i64 0, .int .i64 0, .int .i64 0, .string ⟨#[45]⟩, .slice (some ⟨K, 0, none⟩) 1 1]) (w' := w') (by go_simp) rfl (Below.refl _ _)
  · intro a w' hb hr hd
    clear hHeld
    have hg : a.tmps.getD 50 undef = .bool false := hd 8 (by kernel_rfl)
    have e51 : a.tmps.getD 51 undef = .agg #[.int .i64 30, .int .i64 0, .int .i64 0, .int .i64 0, .string ⟨#[45]⟩, .slice (some ⟨K, 0, none⟩) 1 1] := hd 9 (by kernel_rfl)
    have p51 : NIn w' TT tMinus (.agg #[.int .i64 30, .int .i64 0, .int .i64 0, .int .i64 0, .string ⟨#[45]⟩, .slice (some ⟨K, 0, none⟩) 1 1]) := HNM.out.below (below_drew hb)
    have e51' := getD_q e51
    refine rop_call (d := 52) (o := _) rfl rfl (wanted_of rfl rfl hg) (f := 32) (args := #[.agg #[.int .i64 30, .int .i64 0, .int .i64 0, .int .i64 0, .string ⟨#[45]⟩, .slice (some ⟨K, 0, none⟩) 1 1]]) (by go_simp) ?_
    exact back_tree tMinus _ w' p51
  · intro a w' hb hr hd
    clear hHeld
    have hg : a.tmps.getD 50 undef = .bool false := hd 8 (by kernel_rfl)
    have p52 : NIn w' TT (tBack tMinus) (a.tmps.getD 52 undef) := hd 10 (by kernel_rfl)
    obtain ⟨v52, e52⟩ : ∃ v, a.tmps.getD 52 undef = v := ⟨_, rfl⟩
    rw [e52] at p52
    have e52' := getD_q e52
    refine rop_call (d := 53) (o := _) rfl rfl (wanted_of rfl rfl hg) (f := 31) (args := #[v52]) (by go_simp) ?_
    refine (may_any HR.out 600 (tBack tMinus) _ w' (HR.out.keepF _ _ HW.out (HB8.out.trans ((below_drew hb).mono HB8.out.size))) (fit_of HO.out (by kernel_rfl)) p52 true (by kernel_rfl)).mono ?_
    rintro e w'' ⟨rfl, hb'⟩
    exact ⟨_, rfl, rfl, hb'⟩
  · intro a w' hb hr hd
    clear hHeld
    have hg : a.tmps.getD 50 undef = .bool false := hd 8 (by kernel_rfl)
    have e53 : a.tmps.getD 53 undef = .bool true := hd 11 (by kernel_rfl)
    have e53' := getD_q e53
    exact rop_val (d := 54) (o := _) rfl rfl (wanted_of rfl rfl hg) (v := .bool false) (w' := w') (by go_simp) rfl (Below.refl _ _)
  · intro a w' hb hr hd
    clear hHeld
    have e50 : a.tmps.getD 50 undef = .bool false := hd 8 (by kernel_rfl)
    have e50' := getD_q e50
    have e54 : a.tmps.getD 54 undef = .bool false := hd 12 (by kernel_rfl)
    have e54' := getD_q e54
    exact rop_val (d := 55) (o := _) rfl rfl rfl (v := .bool false) (w' := w') (by go_simp) rfl (Below.refl _ _)
  · intro a w' hb hr hd
    clear hHeld
    have e55 : a.tmps.getD 55 undef = .bool false := hd 13 (by kernel_rfl)
    have e55' := getD_q e55
    exact rop_val (d := 56) (o := _) rfl rfl rfl (v := .bool false) (w' := w') (by go_simp) rfl (Below.refl _ _)
  · intro a w' hb hr hd
    clear hHeld
    have hg : a.tmps.getD 56 undef = .bool false := hd 14 (by kernel_rfl)
    have e5 : a.tmps.getD 5 undef = .pointer (some ⟨N4 + 1, 0, none⟩) := hr 5 (by kernel_rfl)
    have e5' := getD_q e5
    obtain ⟨c0, c1, c2, c3, c4, c5⟩ := six_keep HU8.out (below_drew hb)
    exact rop_val (d := 57) (o := _) rfl rfl (wanted_of rfl rfl hg) (v := .agg #[.int .i64 21, .int .i64 0, .int .i64 0, .int .i64 0, .string ⟨#[48, 49]⟩, .slice none 0 0]) (w' := w') (by go_simp) rfl (Below.refl _ _)
  · intro a w' hb hr hd
    clear hHeld
    have hg : a.tmps.getD 56 undef = .bool false := hd 14 (by kernel_rfl)
    have e57 : a.tmps.getD 57 undef = .agg #[.int .i64 21, .int .i64 0, .int .i64 0, .int .i64 0, .string ⟨#[48, 49]⟩, .slice none 0 0] := hd 15 (by kernel_rfl)
    have p57 : NIn w' TT tNought (.agg #[.int .i64 21, .int .i64 0, .int .i64 0, .int .i64 0, .string ⟨#[48, 49]⟩, .slice none 0 0]) := nin_leaf w' 21 ⟨#[48, 49]⟩
    have e57' := getD_q e57
    refine rop_call (d := 58) (o := _) rfl rfl (wanted_of rfl rfl hg) (f := 32) (args := #[.agg #[.int .i64 21, .int .i64 0, .int .i64 0, .int .i64 0, .string ⟨#[48, 49]⟩, .slice none 0 0]]) (by go_simp) ?_
    exact back_tree tNought _ w' p57
  · intro a w' hb hr hd
    clear hHeld
    have hg : a.tmps.getD 56 undef = .bool false := hd 14 (by kernel_rfl)
    have p58 : NIn w' TT (tBack tNought) (a.tmps.getD 58 undef) := hd 16 (by kernel_rfl)
    obtain ⟨v58, e58⟩ : ∃ v, a.tmps.getD 58 undef = v := ⟨_, rfl⟩
    rw [e58] at p58
    have e58' := getD_q e58
    refine rop_call (d := 59) (o := _) rfl rfl (wanted_of rfl rfl hg) (f := 34) (args := #[v58]) (by go_simp) ?_
    refine (no_any HR.out 600 (tBack tNought) _ w' (HR.out.keepF _ _ HW.out (HB8.out.trans ((below_drew hb).mono HB8.out.size))) (fit_of HO.out (by kernel_rfl)) p58 true (by kernel_rfl)).mono ?_
    rintro e w'' ⟨rfl, hb'⟩
    exact ⟨_, rfl, rfl, hb'⟩
  · intro a w' hb hr hd
    clear hHeld
    have hg : a.tmps.getD 56 undef = .bool false := hd 14 (by kernel_rfl)
    have e59 : a.tmps.getD 59 undef = .bool true := hd 17 (by kernel_rfl)
    have e59' := getD_q e59
    exact rop_val (d := 60) (o := _) rfl rfl (wanted_of rfl rfl hg) (v := .bool false) (w' := w') (by go_simp) rfl (Below.refl _ _)
  · intro a w' hb hr hd
    clear hHeld
    have e56 : a.tmps.getD 56 undef = .bool false := hd 14 (by kernel_rfl)
    have e56' := getD_q e56
    have e60 : a.tmps.getD 60 undef = .bool false := hd 18 (by kernel_rfl)
    have e60' := getD_q e60
    exact rop_val (d := 61) (o := _) rfl rfl rfl (v := .bool false) (w' := w') (by go_simp) rfl (Below.refl _ _)
  · intro a w' hb hr hd
    clear hHeld
    have e61 : a.tmps.getD 61 undef = .bool false := hd 19 (by kernel_rfl)
    have e61' := getD_q e61
    exact rop_val (d := 62) (o := _) rfl rfl rfl (v := .bool false) (w' := w') (by go_simp) rfl (Below.refl _ _)
  · intro a w' hb hr hd
    clear hHeld
    have hg : a.tmps.getD 62 undef = .bool false := hd 20 (by kernel_rfl)
    refine rop_call (d := 63) (o := _) rfl rfl (wanted_of rfl rfl hg) (f := 30) (args := #[.string (ByteArray.mk #[102])]) (by go_simp) ?_
    exact name_tree (ByteArray.mk #[102]) w'
  · intro a w' hb hr hd
    clear hHeld
    have hg : a.tmps.getD 62 undef = .bool false := hd 20 (by kernel_rfl)
    refine rop_call (d := 64) (o := _) rfl rfl (wanted_of rfl rfl hg) (f := 37) (args := #[]) (by go_simp) ?_
    exact lit_tree w'
  · intro a w' hb hr hd
    clear hHeld
    have hg : a.tmps.getD 62 undef = .bool false := hd 20 (by kernel_rfl)
    have p64 : NIn w' TT tLit (a.tmps.getD 64 undef) := hd 22 (by kernel_rfl)
    obtain ⟨v64, e64⟩ : ∃ v, a.tmps.getD 64 undef = v := ⟨_, rfl⟩
    rw [e64] at p64
    have e64' := getD_q e64
    obtain ⟨ia, ic, rfl, hcc, hk⟩ := p64.open
    have q64 := NIn.shut hcc hk
    exact rop_val (d := 65) (o := _) rfl rfl (wanted_of rfl rfl hg) (v := .slice (some ⟨w'.heap.size, 0, none⟩) 1 1) (w' := w'.alloc (.cells #[.int .i64 (Nd.kind tLit), .int .i64 (Nd.fro tLit), .int .i64 (Nd.till tLit), .int .i64 (Nd.at' tLit), .string (Nd.name tLit), .slice ia (Nd.kids tLit).length ic] 24)) (by go_simp) ⟨_, rfl, trow_one q64⟩ (alloc_below _ _)
  · intro a w' hb hr hd
    clear hHeld
    have hg : a.tmps.getD 62 undef = .bool false := hd 20 (by kernel_rfl)
    have p63 : NIn w' TT (tName (ByteArray.mk #[102])) (a.tmps.getD 63 undef) := hd 21 (by kernel_rfl)
    obtain ⟨v63, e63⟩ : ∃ v, a.tmps.getD 63 undef = v := ⟨_, rfl⟩
    rw [e63] at p63
    have e63' := getD_q e63
    obtain ⟨A65, e65, p65⟩ : ∃ A, a.tmps.getD 65 undef = .slice A 1 1 ∧ SIn w' TT [tLit] A := hd 23 (by kernel_rfl)
    have e65' := getD_q e65
    refine rop_call (d := 66) (o := _) rfl rfl (wanted_of rfl rfl hg) (f := 36) (args := #[v63, .slice A65 1 1]) (by go_simp) ?_
    exact call_tree (tName (ByteArray.mk #[102])) tLit _ _ w' p63 p65
  · intro a w' hb hr hd
    clear hHeld
    have hg : a.tmps.getD 62 undef = .bool false := hd 20 (by kernel_rfl)
    have p66 : NIn w' TT (tCall (tName (ByteArray.mk #[102])) [tLit]) (a.tmps.getD 66 undef) := hd 24 (by kernel_rfl)
    obtain ⟨v66, e66⟩ : ∃ v, a.tmps.getD 66 undef = v := ⟨_, rfl⟩
    rw [e66] at p66
    have e66' := getD_q e66
    refine rop_call (d := 67) (o := _) rfl rfl (wanted_of rfl rfl hg) (f := 35) (args := #[v66]) (by go_simp) ?_
    exact branch_tree (tCall (tName (ByteArray.mk #[102])) [tLit]) _ w' p66
  · intro a w' hb hr hd
    clear hHeld
    have hg : a.tmps.getD 62 undef = .bool false := hd 20 (by kernel_rfl)
    have p67 : NIn w' TT (tBranch (tCall (tName (ByteArray.mk #[102])) [tLit])) (a.tmps.getD 67 undef) := hd 25 (by kernel_rfl)
    obtain ⟨v67, e67⟩ : ∃ v, a.tmps.getD 67 undef = v := ⟨_, rfl⟩
    rw [e67] at p67
    have e67' := getD_q e67
    refine rop_call (d := 68) (o := _) rfl rfl (wanted_of rfl rfl hg) (f := 31) (args := #[v67]) (by go_simp) ?_
    refine (may_any HR.out 600 (tBranch (tCall (tName (ByteArray.mk #[102])) [tLit])) _ w' (HR.out.keepF _ _ HW.out (HB8.out.trans ((below_drew hb).mono HB8.out.size))) (fit_of HO.out (by kernel_rfl)) p67 true (by kernel_rfl)).mono ?_
    rintro e w'' ⟨rfl, hb'⟩
    exact ⟨_, rfl, rfl, hb'⟩
  · intro a w' hb hr hd
    clear hHeld
    have hg : a.tmps.getD 62 undef = .bool false := hd 20 (by kernel_rfl)
    have e68 : a.tmps.getD 68 undef = .bool true := hd 26 (by kernel_rfl)
    have e68' := getD_q e68
    exact rop_val (d := 69) (o := _) rfl rfl (wanted_of rfl rfl hg) (v := .bool false) (w' := w') (by go_simp) rfl (Below.refl _ _)
  · intro a w' hb hr hd
    clear hHeld
    have e62 : a.tmps.getD 62 undef = .bool false := hd 20 (by kernel_rfl)
    have e62' := getD_q e62
    have e69 : a.tmps.getD 69 undef = .bool false := hd 27 (by kernel_rfl)
    have e69' := getD_q e69
    exact rop_val (d := 70) (o := _) rfl rfl rfl (v := .bool false) (w' := w') (by go_simp) rfl (Below.refl _ _)
  · intro vs w' hb hφ
    have vl : vs 28 = .bool false := hφ.2.2.2.2.2.2.2.2.2.2.2.2.2.2.2.2.2.2.2.2.2.2.2.2.2.1
    have HB10 := Lib.hid (HB8.out.trans ((below_drew hb).mono HB8.out.size))
    have HX10 := Lib.hid (six_keep HX8.out (below_drew hb))
    have HF10 := Lib.hid (six_keep HF8.out (below_drew hb))
    clear hb hφ hHeld HM8 HU8 HNM HX8 HF8 HB8
    simp only [setAll, dstOf, List.getElem?_toArray, List.getElem?_cons_zero, List.getElem?_cons_succ, Option.bind_some, Option.getD_some, List.setIfInBounds_toArray, List.set_cons_zero, List.set_cons_succ]
    rw [vl]
    go_wp2_with fail
    refine wp_region_held_drew (S := fun w' => w'.cell? ⟨N, 0, none⟩ = some (.int .i64 25) ∧ w'.cell? ⟨N, 1, none⟩ = some (.int .i64 0) ∧ w'.cell? ⟨N, 2, none⟩ = some (.int .i64 0) ∧ w'.cell? ⟨N, 3, none⟩ = some (.int .i64 0) ∧ w'.cell? ⟨N, 4, none⟩ = some (.string ⟨#[120]⟩) ∧ w'.cell? ⟨N, 5, none⟩ = some (.slice none 0 0)) (by kernel_rfl) HX10.out (fun hHeld => ?_)
    refine wpAnyH_take (i := 0) (oi := ⟨some 71, _, _, _, _, _⟩) (v := ?_) rfl (by kernel_rfl) (by kernel_rfl) (by kernel_rfl) (fun _ _ _ h => h) (Or.inl ⟨by rfl, ?_⟩) hHeld ?_
    rotate_left
    · (intro W hSW; (try dsimp only at hSW); go_simp; first | done | with_reducible rfl)
    try simp only [Act.put, List.setIfInBounds_toArray, List.set_cons_zero, List.set_cons_succ]
    refine region_left (todo := [1, 2, 3, 4, 5, 6, 7, 8, 9, 10, 11, 12, 13, 14, 15, 16, 17, 18, 19, 20, 21, 22, 23, 24, 25, 26, 27, 28, 29, 30, 31, 32, 33, 34, 35, 36, 37, 38, 39, 40]) (φ := fun i => Sq.holds (match i with | 1 => .trow (tName ⟨#[120]⟩) | 2 => .tree (nt 12 ⟨#[120]⟩ [(tName ⟨#[120]⟩)]) | 3 => .tree (tLoop (nt 12 ⟨#[120]⟩ [(tName ⟨#[120]⟩)])) | 4 => .c (.bool true) | 5 => .c (.bool false) | 6 => .c (.bool false) | 7 => .c (.agg #[.int .i64 25, .int .i64 0, .int .i64 0, .int .i64 0, .string ⟨#[120]⟩, .slice none 0 0]) | 8 => .tree (tSaid (tName ⟨#[120]⟩)) | 9 => .c (.bool true) | 10 => .c (.bool false) | 11 => .c (.bool false) | 12 => .c (.bool false) | 13 => .tree (tName (ByteArray.mk #[102])) | 14 => .c (.agg #[.int .i64 25, .int .i64 0, .int .i64 0, .int .i64 0, .string ⟨#[120]⟩, .slice none 0 0]) | 15 => .trow (tName ⟨#[120]⟩) | 16 => .tree (tCall (tName (ByteArray.mk #[102])) [(tName ⟨#[120]⟩)]) | 17 => .tree (tSaid (tCall (tName (ByteArray.mk #[102])) [(tName ⟨#[120]⟩)])) | 18 => .c (.bool true) | 19 => .c (.bool false) | 20 => .c (.bool false) | 21 => .c (.bool false) | 22 => .c (.agg #[.int .i64 25, .int .i64 0, .int .i64 0, .int .i64 0, .string ⟨#[120]⟩, .slice none 0 0]) | 23 => .trow (tName ⟨#[120]⟩) | 24 => .tree (nt 32 ⟨#[108, 101, 110]⟩ [(tName ⟨#[120]⟩)]) | 25 => .tree (tSaid (nt 32 ⟨#[108, 101, 110]⟩ [(tName ⟨#[120]⟩)])) | 26 => .c (.bool true) | 27 => .c (.bool false) | 28 => .c (.bool false) | 29 => .c (.bool false) | 30 => .tree (tName (ByteArray.mk #[102])) | 31 => .c (.agg #[.int .i64 25, .int .i64 0, .int .i64 0, .int .i64 0, .string ⟨#[120]⟩, .slice none 0 0]) | 32 => .trow (tName ⟨#[120]⟩) | 33 => .tree (tCall (tName (ByteArray.mk #[102])) [(tName ⟨#[120]⟩)]) | 34 => .c (.agg #[.int .i64 25, .int .i64 0, .int .i64 0, .int .i64 0, .string ⟨#[120]⟩, .slice none 0 0]) | 35 => .trow (tName ⟨#[120]⟩) | 36 => .tree (tCall (tCall (tName (ByteArray.mk #[102])) [(tName ⟨#[120]⟩)]) [(tName ⟨#[120]⟩)]) | 37 => .tree (tSaid (tCall (tCall (tName (ByteArray.mk #[102])) [(tName ⟨#[120]⟩)]) [(tName ⟨#[120]⟩)])) | 38 => .c (.bool true) | 39 => .c (.bool false) | 40 => .c (.bool false) | _ => .any)) (by kernel_rfl) (fun i w w' v h hb => Sq.mono _ h hb) ?_ ⟨?_, ?_, ?_, ?_, ?_, ?_, ?_, ?_, ?_, ?_, ?_, ?_, ?_, ?_, ?_, ?_, ?_, ?_, ?_, ?_, ?_, ?_, ?_, ?_, ?_, ?_, ?_, ?_, ?_, ?_, ?_, ?_, ?_, ?_, ?_, ?_, ?_, ?_, ?_, ?_, trivial⟩ ?_
    · exact fun w' hb => six_keep hHeld hb
    · intro a w' hb hr hd
      clear hHeld
      have e71 : a.tmps.getD 71 undef = .agg #[.int .i64 25, .int .i64 0, .int .i64 0, .int .i64 0, .string ⟨#[120]⟩, .slice none 0 0] := hr 71 (by kernel_rfl)
      have p71 : NIn w' TT (tName ⟨#[120]⟩) (.agg #[.int .i64 25, .int .i64 0, .int .i64 0, .int .i64 0, .string ⟨#[120]⟩, .slice none 0 0]) := nin_leaf w' 25 ⟨#[120]⟩
      have e71' := getD_q e71
      have q71 := p71
      exact rop_val (d := 72) (o := _) rfl rfl rfl (v := .slice (some ⟨w'.heap.size, 0, none⟩) 1 1) (w' := w'.alloc (.cells #[.int .i64 25, .int .i64 0, .int .i64 0, .int .i64 0, .string ⟨#[120]⟩, .slice none 0 0] 24)) (by go_simp) ⟨_, rfl, trow_one q71⟩ (alloc_below _ _)
    · intro a w' hb hr hd
      clear hHeld
      obtain ⟨A72, e72, p72⟩ : ∃ A, a.tmps.getD 72 undef = .slice A 1 1 ∧ SIn w' TT [(tName ⟨#[120]⟩)] A := hd 1 (by kernel_rfl)
      have e72' := getD_q e72
      exact rop_val (d := 73) (o := _) rfl rfl rfl (v := .agg #[.int .i64 12, .int .i64 0, .int .i64 0, .int .i64 0, .string ⟨#[120]⟩, .slice A72 1 1]) (w' := w') (by go_simp) (nin_row (l := [(tName ⟨#[120]⟩)]) 12 ⟨#[120]⟩ (Nat.le_refl _) p72) (Below.refl _ _)
    · intro a w' hb hr hd
      clear hHeld
      have p73 : NIn w' TT (nt 12 ⟨#[120]⟩ [(tName ⟨#[120]⟩)]) (a.tmps.getD 73 undef) := hd 2 (by kernel_rfl)
      obtain ⟨v73, e73⟩ : ∃ v, a.tmps.getD 73 undef = v := ⟨_, rfl⟩
      rw [e73] at p73
      have e73' := getD_q e73
      refine rop_call (d := 74) (o := _) rfl rfl rfl (f := 38) (args := #[v73]) (by go_simp) ?_
      exact loop_tree (nt 12 ⟨#[120]⟩ [(tName ⟨#[120]⟩)]) _ w' p73
    · intro a w' hb hr hd
      clear hHeld
      have p74 : NIn w' TT (tLoop (nt 12 ⟨#[120]⟩ [(tName ⟨#[120]⟩)])) (a.tmps.getD 74 undef) := hd 3 (by kernel_rfl)
      obtain ⟨v74, e74⟩ : ∃ v, a.tmps.getD 74 undef = v := ⟨_, rfl⟩
      rw [e74] at p74
      have e74' := getD_q e74
      refine rop_call (d := 75) (o := _) rfl rfl rfl (f := 34) (args := #[v74]) (by go_simp) ?_
      refine (no_any HR.out 600 (tLoop (nt 12 ⟨#[120]⟩ [(tName ⟨#[120]⟩)])) _ w' (HR.out.keepF _ _ HW.out (HB10.out.trans ((below_drew hb).mono HB10.out.size))) (fit_of HO.out (by kernel_rfl)) p74 true (by kernel_rfl)).mono ?_
      rintro e w'' ⟨rfl, hb'⟩
      exact ⟨_, rfl, rfl, hb'⟩
    · intro a w' hb hr hd
      clear hHeld
      have e75 : a.tmps.getD 75 undef = .bool true := hd 4 (by kernel_rfl)
      have e75' := getD_q e75
      exact rop_val (d := 76) (o := _) rfl rfl rfl (v := .bool false) (w' := w') (by go_simp) rfl (Below.refl _ _)
    · intro a w' hb hr hd
      clear hHeld
      have e76 : a.tmps.getD 76 undef = .bool false := hd 5 (by kernel_rfl)
      have e76' := getD_q e76
      exact rop_val (d := 77) (o := _) rfl rfl rfl (v := .bool false) (w' := w') (by go_simp) rfl (Below.refl _ _)
    · intro a w' hb hr hd
      clear hHeld
      have hg : a.tmps.getD 77 undef = .bool false := hd 6 (by kernel_rfl)
      have e1 : a.tmps.getD 1 undef = .pointer (some ⟨N, 0, none⟩) := hr 1 (by kernel_rfl)
      have e1' := getD_q e1
      obtain ⟨c0, c1, c2, c3, c4, c5⟩ := six_keep HX10.out (below_drew hb)
      exact rop_val (d := 78) (o := _) rfl rfl (wanted_of rfl rfl hg) (v := .agg #[.int .i64 25, .int .i64 0, .int .i64 0, .int .i64 0, .string ⟨#[120]⟩, .slice none 0 0]) (w' := w') (by go_simp) rfl (Below.refl _ _)
    · intro a w' hb hr hd
      clear hHeld
      have hg : a.tmps.getD 77 undef = .bool false := hd 6 (by kernel_rfl)
      have e78 : a.tmps.getD 78 undef = .agg #[.int .i64 25, .int .i64 0, .int .i64 0, .int .i64 0, .string ⟨#[120]⟩, .slice none 0 0] := hd 7 (by kernel_rfl)
      have p78 : NIn w' TT (tName ⟨#[120]⟩) (.agg #[.int .i64 25, .int .i64 0, .int .i64 0, .int .i64 0, .string ⟨#[120]⟩, .slice none 0 0]) := nin_leaf w' 25 ⟨#[120]⟩
      have e78' := getD_q e78
      refine rop_call (d := 79) (o := _) rfl rfl (wanted_of rfl rfl hg) (f := 39) (args := #[.agg #[.int .i64 25, .int .i64 0, .int .i64 0, .int .i64 0, .string ⟨#[120]⟩, .slice none 0 0]]) (by go_simp) ?_
      exact said_tree (tName ⟨#[120]⟩) _ w' p78
    · intro a w' hb hr hd
      clear hHeld
      have hg : a.tmps.getD 77 undef = .bool false := hd 6 (by kernel_rfl)
      have p79 : NIn w' TT (tSaid (tName ⟨#[120]⟩)) (a.tmps.getD 79 undef) := hd 8 (by kernel_rfl)
      obtain ⟨v79, e79⟩ : ∃ v, a.tmps.getD 79 undef = v := ⟨_, rfl⟩
      rw [e79] at p79
      have e79' := getD_q e79
      refine rop_call (d := 80) (o := _) rfl rfl (wanted_of rfl rfl hg) (f := 34) (args := #[v79]) (by go_simp) ?_
      refine (no_any HR.out 600 (tSaid (tName ⟨#[120]⟩)) _ w' (HR.out.keepF _ _ HW.out (HB10.out.trans ((below_drew hb).mono HB10.out.size))) (fit_of HO.out (by kernel_rfl)) p79 true (by kernel_rfl)).mono ?_
      rintro e w'' ⟨rfl, hb'⟩
      exact ⟨_, rfl, rfl, hb'⟩
    · intro a w' hb hr hd
      clear hHeld
      have hg : a.tmps.getD 77 undef = .bool false := hd 6 (by kernel_rfl)
      have e80 : a.tmps.getD 80 undef = .bool true := hd 9 (by kernel_rfl)
      have e80' := getD_q e80
      exact rop_val (d := 81) (o := _) rfl rfl (wanted_of rfl rfl hg) (v := .bool false) (w' := w') (by go_simp) rfl (Below.refl _ _)
    · intro a w' hb hr hd
      clear hHeld
      have e77 : a.tmps.getD 77 undef = .bool false := hd 6 (by kernel_rfl)
      have e77' := getD_q e77
      have e81 : a.tmps.getD 81 undef = .bool false := hd 10 (by kernel_rfl)
      have e81' := getD_q e81
      exact rop_val (d := 82) (o := _) rfl rfl rfl (v := .bool false) (w' := w') (by go_simp) rfl (Below.refl _ _)
    · intro a w' hb hr hd
      clear hHeld
      have e82 : a.tmps.getD 82 undef = .bool false := hd 11 (by kernel_rfl)
      have e82' := getD_q e82
      exact rop_val (d := 83) (o := _) rfl rfl rfl (v := .bool false) (w' := w') (by go_simp) rfl (Below.refl _ _)
    · intro a w' hb hr hd
      clear hHeld
      have hg : a.tmps.getD 83 undef = .bool false := hd 12 (by kernel_rfl)
      refine rop_call (d := 84) (o := _) rfl rfl (wanted_of rfl rfl hg) (f := 30) (args := #[.string (ByteArray.mk #[102])]) (by go_simp) ?_
      exact name_tree (ByteArray.mk #[102]) w'
    · intro a w' hb hr hd
      clear hHeld
      have hg : a.tmps.getD 83 undef = .bool false := hd 12 (by kernel_rfl)
      have e1 : a.tmps.getD 1 undef = .pointer (some ⟨N, 0, none⟩) := hr 1 (by kernel_rfl)
      have e1' := getD_q e1
      obtain ⟨c0, c1, c2, c3, c4, c5⟩ := six_keep HX10.out (below_drew hb)
      exact rop_val (d := 85) (o := _) rfl rfl (wanted_of rfl rfl hg) (v := .agg #[.int .i64 25, .int .i64 0, .int .i64 0, .int .i64 0, .string ⟨#[120]⟩, .slice none 0 0]) (w' := w') (by go_simp) rfl (Below.refl _ _)
    · intro a w' hb hr hd
      clear hHeld
      have hg : a.tmps.getD 83 undef = .bool false := hd 12 (by kernel_rfl)
      have e85 : a.tmps.getD 85 undef = .agg #[.int .i64 25, .int .i64 0, .int .i64 0, .int .i64 0, .string ⟨#[120]⟩, .slice none 0 0] := hd 14 (by kernel_rfl)
      have p85 : NIn w' TT (tName ⟨#[120]⟩) (.agg #[.int .i64 25, .int .i64 0, .int .i64 0, .int .i64 0, .string ⟨#[120]⟩, .slice none 0 0]) := nin_leaf w' 25 ⟨#[120]⟩
      have e85' := getD_q e85
      have q85 := p85
      exact rop_val (d := 86) (o := _) rfl rfl (wanted_of rfl rfl hg) (v := .slice (some ⟨w'.heap.size, 0, none⟩) 1 1) (w' := w'.alloc (.cells #[.int .i64 25, .int .i64 0, .int .i64 0, .int .i64 0, .string ⟨#[120]⟩, .slice none 0 0] 24)) (by go_simp) ⟨_, rfl, trow_one q85⟩ (alloc_below _ _)
    · intro a w' hb hr hd
      clear hHeld
      have hg : a.tmps.getD 83 undef = .bool false := hd 12 (by kernel_rfl)
      have p84 : NIn w' TT (tName (ByteArray.mk #[102])) (a.tmps.getD 84 undef) := hd 13 (by kernel_rfl)
      obtain ⟨v84, e84⟩ : ∃ v, a.tmps.getD 84 undef = v := ⟨_, rfl⟩
      rw [e84] at p84
      have e84' := getD_q e84
      obtain ⟨A86, e86, p86⟩ : ∃ A, a.tmps.getD 86 undef = .slice A 1 1 ∧ SIn w' TT [(tName ⟨#[120]⟩)] A := hd 15 (by kernel_rfl)
      have e86' := getD_q e86
      refine rop_call (d := 87) (o := _) rfl rfl (wanted_of rfl rfl hg) (f := 36) (args := #[v84, .slice A86 1 1]) (by go_simp) ?_
      exact call_tree (tName (ByteArray.mk #[102])) (tName ⟨#[120]⟩) _ _ w' p84 p86
    · intro a w' hb hr hd
      clear hHeld
      have hg : a.tmps.getD 83 undef = .bool false := hd 12 (by kernel_rfl)
      have p87 : NIn w' TT (tCall (tName (ByteArray.mk #[102])) [(tName ⟨#[120]⟩)]) (a.tmps.getD 87 undef) := hd 16 (by kernel_rfl)
      obtain ⟨v87, e87⟩ : ∃ v, a.tmps.getD 87 undef = v := ⟨_, rfl⟩
      rw [e87] at p87
      have e87' := getD_q e87
      refine rop_call (d := 88) (o := _) rfl rfl (wanted_of rfl rfl hg) (f := 39) (args := #[v87]) (by go_simp) ?_
      exact said_tree (tCall (tName (ByteArray.mk #[102])) [(tName ⟨#[120]⟩)]) _ w' p87
    · intro a w' hb hr hd
      clear hHeld
      have hg : a.tmps.getD 83 undef = .bool false := hd 12 (by kernel_rfl)
      have p88 : NIn w' TT (tSaid (tCall (tName (ByteArray.mk #[102])) [(tName ⟨#[120]⟩)])) (a.tmps.getD 88 undef) := hd 17 (by kernel_rfl)
      obtain ⟨v88, e88⟩ : ∃ v, a.tmps.getD 88 undef = v := ⟨_, rfl⟩
      rw [e88] at p88
      have e88' := getD_q e88
      refine rop_call (d := 89) (o := _) rfl rfl (wanted_of rfl rfl hg) (f := 31) (args := #[v88]) (by go_simp) ?_
      refine (may_any HR.out 600 (tSaid (tCall (tName (ByteArray.mk #[102])) [(tName ⟨#[120]⟩)])) _ w' (HR.out.keepF _ _ HW.out (HB10.out.trans ((below_drew hb).mono HB10.out.size))) (fit_of HO.out (by kernel_rfl)) p88 true (by kernel_rfl)).mono ?_
      rintro e w'' ⟨rfl, hb'⟩
      exact ⟨_, rfl, rfl, hb'⟩
    · intro a w' hb hr hd
      clear hHeld
      have hg : a.tmps.getD 83 undef = .bool false := hd 12 (by kernel_rfl)
      have e89 : a.tmps.getD 89 undef = .bool true := hd 18 (by kernel_rfl)
      have e89' := getD_q e89
      exact rop_val (d := 90) (o := _) rfl rfl (wanted_of rfl rfl hg) (v := .bool false) (w' := w') (by go_simp) rfl (Below.refl _ _)
    · intro a w' hb hr hd
      clear hHeld
      have e83 : a.tmps.getD 83 undef = .bool false := hd 12 (by kernel_rfl)
      have e83' := getD_q e83
      have e90 : a.tmps.getD 90 undef = .bool false := hd 19 (by kernel_rfl)
      have e90' := getD_q e90
      exact rop_val (d := 91) (o := _) rfl rfl rfl (v := .bool false) (w' := w') (by go_simp) rfl (Below.refl _ _)
    · intro a w' hb hr hd
      clear hHeld
      have e91 : a.tmps.getD 91 undef = .bool false := hd 20 (by kernel_rfl)
      have e91' := getD_q e91
      exact rop_val (d := 92) (o := _) rfl rfl rfl (v := .bool false) (w' := w') (by go_simp) rfl (Below.refl _ _)
    · intro a w' hb hr hd
      clear hHeld
      have hg : a.tmps.getD 92 undef = .bool false := hd 21 (by kernel_rfl)
      have e1 : a.tmps.getD 1 undef = .pointer (some ⟨N, 0, none⟩) := hr 1 (by kernel_rfl)
      have e1' := getD_q e1
      obtain ⟨c0, c1, c2, c3, c4, c5⟩ := six_keep HX10.out (below_drew hb)
      exact rop_val (d := 93) (o := _) rfl rfl (wanted_of rfl rfl hg) (v := .agg #[.int .i64 25, .int .i64 0, .int .i64 0, .int .i64 0, .string ⟨#[120]⟩, .slice none 0 0]) (w' := w') (by go_simp) rfl (Below.refl _ _)
    · intro a w' hb hr hd
      clear hHeld
      have hg : a.tmps.getD 92 undef = .bool false := hd 21 (by kernel_rfl)
      have e93 : a.tmps.getD 93 undef = .agg #[.int .i64 25, .int .i64 0, .int .i64 0, .int .i64 0, .string ⟨#[120]⟩, .slice none 0 0] := hd 22 (by kernel_rfl)
      have p93 : NIn w' TT (tName ⟨#[120]⟩) (.agg #[.int .i64 25, .int .i64 0, .int .i64 0, .int .i64 0, .string ⟨#[120]⟩, .slice none 0 0]) := nin_leaf w' 25 ⟨#[120]⟩
      have e93' := getD_q e93
      have q93 := p93
      exact rop_val (d := 94) (o := _) rfl rfl (wanted_of rfl rfl hg) (v := .slice (some ⟨w'.heap.size, 0, none⟩) 1 1) (w' := w'.alloc (.cells #[.int .i64 25, .int .i64 0, .int .i64 0, .int .i64 0, .string ⟨#[120]⟩, .slice none 0 0] 24)) (by go_simp) ⟨_, rfl, trow_one q93⟩ (alloc_below _ _)
    · intro a w' hb hr hd
      clear hHeld
      have hg : a.tmps.getD 92 undef = .bool false := hd 21 (by kernel_rfl)
      obtain ⟨A94, e94, p94⟩ : ∃ A, a.tmps.getD 94 undef = .slice A 1 1 ∧ SIn w' TT [(tName ⟨#[120]⟩)] A := hd 23 (by kernel_rfl)
      have e94' := getD_q e94
      exact rop_val (d := 95) (o := _) rfl rfl (wanted_of rfl rfl hg) (v := .agg #[.int .i64 32, .int .i64 0, .int .i64 0, .int .i64 0, .string ⟨#[108, 101, 110]⟩, .slice A94 1 1]) (w' := w') (by go_simp) (nin_row (l := [(tName ⟨#[120]⟩)]) 32 ⟨#[108, 101, 110]⟩ (Nat.le_refl _) p94) (Below.refl _ _)
    · intro a w' hb hr hd
      clear hHeld
      have hg : a.tmps.getD 92 undef = .bool false := hd 21 (by kernel_rfl)
      have p95 : NIn w' TT (nt 32 ⟨#[108, 101, 110]⟩ [(tName ⟨#[120]⟩)]) (a.tmps.getD 95 undef) := hd 24 (by kernel_rfl)
      obtain ⟨v95, e95⟩ : ∃ v, a.tmps.getD 95 undef = v := ⟨_, rfl⟩
      rw [e95] at p95
      have e95' := getD_q e95
      refine rop_call (d := 96) (o := _) rfl rfl (wanted_of rfl rfl hg) (f := 39) (args := #[v95]) (by go_simp) ?_
      exact said_tree (nt 32 ⟨#[108, 101, 110]⟩ [(tName ⟨#[120]⟩)]) _ w' p95
    · intro a w' hb hr hd
      clear hHeld
      have hg : a.tmps.getD 92 undef = .bool false := hd 21 (by kernel_rfl)
      have p96 : NIn w' TT (tSaid (nt 32 ⟨#[108, 101, 110]⟩ [(tName ⟨#[120]⟩)])) (a.tmps.getD 96 undef) := hd 25 (by kernel_rfl)
      obtain ⟨v96, e96⟩ : ∃ v, a.tmps.getD 96 undef = v := ⟨_, rfl⟩
      rw [e96] at p96
      have e96' := getD_q e96
      refine rop_call (d := 97) (o := _) rfl rfl (wanted_of rfl rfl hg) (f := 34) (args := #[v96]) (by go_simp) ?_
      refine (no_any HR.out 600 (tSaid (nt 32 ⟨#[108, 101, 110]⟩ [(tName ⟨#[120]⟩)])) _ w' (HR.out.keepF _ _ HW.out (HB10.out.trans ((below_drew hb).mono HB10.out.size))) (fit_of HO.out (by kernel_rfl)) p96 true (by kernel_rfl)).mono ?_
      rintro e w'' ⟨rfl, hb'⟩
      exact ⟨_, rfl, rfl, hb'⟩
    · intro a w' hb hr hd
      clear hHeld
      have hg : a.tmps.getD 92 undef = .bool false := hd 21 (by kernel_rfl)
      have e97 : a.tmps.getD 97 undef = .bool true := hd 26 (by kernel_rfl)
      have e97' := getD_q e97
      exact rop_val (d := 98) (o := _) rfl rfl (wanted_of rfl rfl hg) (v := .bool false) (w' := w') (by go_simp) rfl (Below.refl _ _)
    · intro a w' hb hr hd
      clear hHeld
      have e92 : a.tmps.getD 92 undef = .bool false := hd 21 (by kernel_rfl)
      have e92' := getD_q e92
      have e98 : a.tmps.getD 98 undef = .bool false := hd 27 (by kernel_rfl)
      have e98' := getD_q e98
      exact rop_val (d := 99) (o := _) rfl rfl rfl (v := .bool false) (w' := w') (by go_simp) rfl (Below.refl _ _)
    · intro a w' hb hr hd
      clear hHeld
      have e99 : a.tmps.getD 99 undef = .bool false := hd 28 (by kernel_rfl)
      have e99' := getD_q e99
      exact rop_val (d := 100) (o := _) rfl rfl rfl (v := .bool false) (w' := w') (by go_simp) rfl (Below.refl _ _)
    · intro a w' hb hr hd
      clear hHeld
      have hg : a.tmps.getD 100 undef = .bool false := hd 29 (by kernel_rfl)
      refine rop_call (d := 101) (o := _) rfl rfl (wanted_of rfl rfl hg) (f := 30) (args := #[.string (ByteArray.mk #[102])]) (by go_simp) ?_
      exact name_tree (ByteArray.mk #[102]) w'
    · intro a w' hb hr hd
      clear hHeld
      have hg : a.tmps.getD 100 undef = .bool false := hd 29 (by kernel_rfl)
      have e1 : a.tmps.getD 1 undef = .pointer (some ⟨N, 0, none⟩) := hr 1 (by kernel_rfl)
      have e1' := getD_q e1
      obtain ⟨c0, c1, c2, c3, c4, c5⟩ := six_keep HX10.out (below_drew hb)
      exact rop_val (d := 102) (o := _) rfl rfl (wanted_of rfl rfl hg) (v := .agg #[.int .i64 25, .int .i64 0, .int .i64 0, .int .i64 0, .string ⟨#[120]⟩, .slice none 0 0]) (w' := w') (by go_simp) rfl (Below.refl _ _)
    · intro a w' hb hr hd
      clear hHeld
      have hg : a.tmps.getD 100 undef = .bool false := hd 29 (by kernel_rfl)
      have e102 : a.tmps.getD 102 undef = .agg #[.int .i64 25, .int .i64 0, .int .i64 0, .int .i64 0, .string ⟨#[120]⟩, .slice none 0 0] := hd 31 (by kernel_rfl)
      have p102 : NIn w' TT (tName ⟨#[120]⟩) (.agg #[.int .i64 25, .int .i64 0, .int .i64 0, .int .i64 0, .string ⟨#[120]⟩, .slice none 0 0]) := nin_leaf w' 25 ⟨#[120]⟩
      have e102' := getD_q e102
      have q102 := p102
      exact rop_val (d := 103) (o := _) rfl rfl (wanted_of rfl rfl hg) (v := .slice (some ⟨w'.heap.size, 0, none⟩) 1 1) (w' := w'.alloc (.cells #[.int .i64 25, .int .i64 0, .int .i64 0, .int .i64 0, .string ⟨#[120]⟩, .slice none 0 0] 24)) (by go_simp) ⟨_, rfl, trow_one q102⟩ (alloc_below _ _)
    · intro a w' hb hr hd
      clear hHeld
      have hg : a.tmps.getD 100 undef = .bool false := hd 29 (by kernel_rfl)
      have p101 : NIn w' TT (tName (ByteArray.mk #[102])) (a.tmps.getD 101 undef) := hd 30 (by kernel_rfl)
      obtain ⟨v101, e101⟩ : ∃ v, a.tmps.getD 101 undef = v := ⟨_, rfl⟩
      rw [e101] at p101
      have e101' := getD_q e101
      obtain ⟨A103, e103, p103⟩ : ∃ A, a.tmps.getD 103 undef = .slice A 1 1 ∧ SIn w' TT [(tName ⟨#[120]⟩)] A := hd 32 (by kernel_rfl)
      have e103' := getD_q e103
      refine rop_call (d := 104) (o := _) rfl rfl (wanted_of rfl rfl hg) (f := 36) (args := #[v101, .slice A103 1 1]) (by go_simp) ?_
      exact call_tree (tName (ByteArray.mk #[102])) (tName ⟨#[120]⟩) _ _ w' p101 p103
    · intro a w' hb hr hd
      clear hHeld
      have hg : a.tmps.getD 100 undef = .bool false := hd 29 (by kernel_rfl)
      have e1 : a.tmps.getD 1 undef = .pointer (some ⟨N, 0, none⟩) := hr 1 (by kernel_rfl)
      have e1' := getD_q e1
      obtain ⟨c0, c1, c2, c3, c4, c5⟩ := six_keep HX10.out (below_drew hb)
      exact rop_val (d := 105) (o := _) rfl rfl (wanted_of rfl rfl hg) (v := .agg #[.int .i64 25, .int .i64 0, .int .i64 0, .int .i64 0, .string ⟨#[120]⟩, .slice none 0 0]) (w' := w') (by go_simp) rfl (Below.refl _ _)
    · intro a w' hb hr hd
      clear hHeld
      have hg : a.tmps.getD 100 undef = .bool false := hd 29 (by kernel_rfl)
      have e105 : a.tmps.getD 105 undef = .agg #[.int .i64 25, .int .i64 0, .int .i64 0, .int .i64 0, .string ⟨#[120]⟩, .slice none 0 0] := hd 34 (by kernel_rfl)
      have p105 : NIn w' TT (tName ⟨#[120]⟩) (.agg #[.int .i64 25, .int .i64 0, .int .i64 0, .int .i64 0, .string ⟨#[120]⟩, .slice none 0 0]) := nin_leaf w' 25 ⟨#[120]⟩
      have e105' := getD_q e105
      have q105 := p105
      exact rop_val (d := 106) (o := _) rfl rfl (wanted_of rfl rfl hg) (v := .slice (some ⟨w'.heap.size, 0, none⟩) 1 1) (w' := w'.alloc (.cells #[.int .i64 25, .int .i64 0, .int .i64 0, .int .i64 0, .string ⟨#[120]⟩, .slice none 0 0] 24)) (by go_simp) ⟨_, rfl, trow_one q105⟩ (alloc_below _ _)
    · intro a w' hb hr hd
      clear hHeld
      have hg : a.tmps.getD 100 undef = .bool false := hd 29 (by kernel_rfl)
      have p104 : NIn w' TT (tCall (tName (ByteArray.mk #[102])) [(tName ⟨#[120]⟩)]) (a.tmps.getD 104 undef) := hd 33 (by kernel_rfl)
      obtain ⟨v104, e104⟩ : ∃ v, a.tmps.getD 104 undef = v := ⟨_, rfl⟩
      rw [e104] at p104
      have e104' := getD_q e104
      obtain ⟨A106, e106, p106⟩ : ∃ A, a.tmps.getD 106 undef = .slice A 1 1 ∧ SIn w' TT [(tName ⟨#[120]⟩)] A := hd 35 (by kernel_rfl)
      have e106' := getD_q e106
      refine rop_call (d := 107) (o := _) rfl rfl (wanted_of rfl rfl hg) (f := 36) (args := #[v104, .slice A106 1 1]) (by go_simp) ?_
      exact call_tree (tCall (tName (ByteArray.mk #[102])) [(tName ⟨#[120]⟩)]) (tName ⟨#[120]⟩) _ _ w' p104 p106
    · intro a w' hb hr hd
      clear hHeld
      have hg : a.tmps.getD 100 undef = .bool false := hd 29 (by kernel_rfl)
      have p107 : NIn w' TT (tCall (tCall (tName (ByteArray.mk #[102])) [(tName ⟨#[120]⟩)]) [(tName ⟨#[120]⟩)]) (a.tmps.getD 107 undef) := hd 36 (by kernel_rfl)
      obtain ⟨v107, e107⟩ : ∃ v, a.tmps.getD 107 undef = v := ⟨_, rfl⟩
      rw [e107] at p107
      have e107' := getD_q e107
      refine rop_call (d := 108) (o := _) rfl rfl (wanted_of rfl rfl hg) (f := 39) (args := #[v107]) (by go_simp) ?_
      exact said_tree (tCall (tCall (tName (ByteArray.mk #[102])) [(tName ⟨#[120]⟩)]) [(tName ⟨#[120]⟩)]) _ w' p107
    · intro a w' hb hr hd
      clear hHeld
      have hg : a.tmps.getD 100 undef = .bool false := hd 29 (by kernel_rfl)
      have p108 : NIn w' TT (tSaid (tCall (tCall (tName (ByteArray.mk #[102])) [(tName ⟨#[120]⟩)]) [(tName ⟨#[120]⟩)])) (a.tmps.getD 108 undef) := hd 37 (by kernel_rfl)
      obtain ⟨v108, e108⟩ : ∃ v, a.tmps.getD 108 undef = v := ⟨_, rfl⟩
      rw [e108] at p108
      have e108' := getD_q e108
      refine rop_call (d := 109) (o := _) rfl rfl (wanted_of rfl rfl hg) (f := 34) (args := #[v108]) (by go_simp) ?_
      refine (no_any HR.out 600 (tSaid (tCall (tCall (tName (ByteArray.mk #[102])) [(tName ⟨#[120]⟩)]) [(tName ⟨#[120]⟩)])) _ w' (HR.out.keepF _ _ HW.out (HB10.out.trans ((below_drew hb).mono HB10.out.size))) (fit_of HO.out (by kernel_rfl)) p108 true (by kernel_rfl)).mono ?_
      rintro e w'' ⟨rfl, hb'⟩
      exact ⟨_, rfl, rfl, hb'⟩
    · intro a w' hb hr hd
      clear hHeld
      have hg : a.tmps.getD 100 undef = .bool false := hd 29 (by kernel_rfl)
      have e109 : a.tmps.getD 109 undef = .bool true := hd 38 (by kernel_rfl)
      have e109' := getD_q e109
      exact rop_val (d := 110) (o := _) rfl rfl (wanted_of rfl rfl hg) (v := .bool false) (w' := w') (by go_simp) rfl (Below.refl _ _)
    · intro a w' hb hr hd
      clear hHeld
      have e100 : a.tmps.getD 100 undef = .bool false := hd 29 (by kernel_rfl)
      have e100' := getD_q e100
      have e110 : a.tmps.getD 110 undef = .bool false := hd 39 (by kernel_rfl)
      have e110' := getD_q e110
      exact rop_val (d := 111) (o := _) rfl rfl rfl (v := .bool false) (w' := w') (by go_simp) rfl (Below.refl _ _)
    · intro vs w' hb hφ
      have vl2 : vs 40 = .bool false := hφ.2.2.2.2.2.2.2.2.2.2.2.2.2.2.2.2.2.2.2.2.2.2.2.2.2.2.2.2.2.2.2.2.2.2.2.2.2.2.2.1
      have HB12 := Lib.hid (HB10.out.trans ((below_drew hb).mono HB10.out.size))
      have HF12 := Lib.hid (six_keep HF10.out (below_drew hb))
      clear hb hφ hHeld HX10 HF10 HB10
      simp only [setAll, dstOf, List.getElem?_toArray, List.getElem?_cons_zero, List.getElem?_cons_succ, Option.bind_some, Option.getD_some, List.setIfInBounds_toArray, List.set_cons_zero, List.set_cons_succ]
      rw [vl2]
      go_wp2_with fail
      refine wp_region_held_drew (S := fun w' => w'.cell? ⟨N + 1, 0, none⟩ = some (.int .i64 1) ∧ w'.cell? ⟨N + 1, 1, none⟩ = some (.int .i64 0) ∧ w'.cell? ⟨N + 1, 2, none⟩ = some (.int .i64 9) ∧ w'.cell? ⟨N + 1, 3, none⟩ = some (.int .i64 0) ∧ w'.cell? ⟨N + 1, 4, none⟩ = some (.string ⟨#[112]⟩) ∧ w'.cell? ⟨N + 1, 5, none⟩ = some (.slice none 0 0)) (by kernel_rfl) HF12.out (fun hHeld => ?_)
      refine wpAnyH_take (i := 0) (oi := ⟨some 112, _, _, _, _, _⟩) (v := ?_) rfl (by kernel_rfl) (by kernel_rfl) (by kernel_rfl) (fun _ _ _ h => h) (Or.inl ⟨by rfl, ?_⟩) hHeld ?_
      rotate_left
      · (intro W hSW; (try dsimp only at hSW); go_simp; first | done | with_reducible rfl)
      try simp only [Act.put, List.setIfInBounds_toArray, List.set_cons_zero, List.set_cons_succ]
      refine wpAnyH_take (i := 2) (oi := ⟨some 114, _, _, _, _, _⟩) (v := ?_) rfl (by kernel_rfl) (by kernel_rfl) (by kernel_rfl) (fun _ _ _ h => h) (Or.inl ⟨by rfl, ?_⟩) hHeld ?_
      rotate_left
      · (intro W hSW; (try dsimp only at hSW); go_simp; first | done | with_reducible rfl)
      try simp only [Act.put, List.setIfInBounds_toArray, List.set_cons_zero, List.set_cons_succ]
      refine region_left (todo := [1, 3, 4, 5]) (φ := fun i => Sq.holds (match i with | 1 => .leafrow | 3 => .c (.slice none 0 0) | 4 => .leafrow | 5 => .c (.slice none 0 0) | _ => .any)) (by kernel_rfl) (fun i w w' v h hb => Sq.mono _ h hb) ?_ ⟨?_, ?_, ?_, ?_, trivial⟩ ?_
      · exact fun w' hb => six_keep hHeld hb
      · intro a w' hb hr hd
        clear hHeld
        have e112 : a.tmps.getD 112 undef = .agg #[.int .i64 1, .int .i64 0, .int .i64 9, .int .i64 0, .string ⟨#[112]⟩, .slice none 0 0] := hr 112 (by kernel_rfl)
        have p112 : NIn w' TT tF (.agg #[.int .i64 1, .int .i64 0, .int .i64 9, .int .i64 0, .string ⟨#[112]⟩, .slice none 0 0]) := nin_f w'
        have e112' := getD_q e112
        refine rop_call (d := 113) (o := _) rfl rfl rfl (f := 22) (args := #[.agg #[.int .i64 1, .int .i64 0, .int .i64 9, .int .i64 0, .string ⟨#[112]⟩, .slice none 0 0], .int .i64 3, .int .i64 3]) (by go_simp) ?_
        refine (path_in w').mono ?_
        rintro e w'' ⟨g, cap, rfl, hc, hb'⟩
        exact ⟨_, rfl, ⟨g, cap, rfl, hc⟩, hb'⟩
      · intro a w' hb hr hd
        clear hHeld
        have e114 : a.tmps.getD 114 undef = .agg #[.int .i64 1, .int .i64 0, .int .i64 9, .int .i64 0, .string ⟨#[112]⟩, .slice none 0 0] := hr 114 (by kernel_rfl)
        have p114 : NIn w' TT tF (.agg #[.int .i64 1, .int .i64 0, .int .i64 9, .int .i64 0, .string ⟨#[112]⟩, .slice none 0 0]) := nin_f w'
        have e114' := getD_q e114
        refine rop_call (d := 115) (o := _) rfl rfl rfl (f := 22) (args := #[.agg #[.int .i64 1, .int .i64 0, .int .i64 9, .int .i64 0, .string ⟨#[112]⟩, .slice none 0 0], .int .i64 10, .int .i64 10]) (by go_simp) ?_
        refine (path_out w').mono ?_
        rintro e w'' ⟨rfl, hb'⟩
        exact ⟨_, rfl, rfl, hb'⟩
      · intro a w' hb hr hd
        clear hHeld
        obtain ⟨g113, c113, e113, p113⟩ : LeafRow w' (a.tmps.getD 113 undef) := hd 1 (by kernel_rfl)
        have e113' := getD_q e113
        exact rop_val (d := 6) (o := _) rfl rfl rfl (v := .slice (some ⟨g113, 0, none⟩) 1 c113) (w' := w') (by go_simp) ⟨_, _, rfl, p113⟩ (Below.refl _ _)
      · intro a w' hb hr hd
        clear hHeld
        have e115 : a.tmps.getD 115 undef = .slice none 0 0 := hd 3 (by kernel_rfl)
        have e115' := getD_q e115
        exact rop_val (d := 7) (o := _) rfl rfl rfl (v := .slice none 0 0) (w' := w') (by go_simp) rfl (Below.refl _ _)
      · intro vs w' hb hφ
        obtain ⟨g, cap, vg, hg⟩ : LeafRow w' (vs 4) := hφ.2.2.1
        have vn : vs 5 = .slice none 0 0 := hφ.2.2.2.1
        have HB13 := Lib.hid (HB12.out.trans ((below_drew hb).mono HB12.out.size))
        have HF13 := Lib.hid (six_keep HF12.out (below_drew hb))
        have HG13 := Lib.hid hg
        clear hb hφ hHeld HF12 HB12 hg
        simp only [setAll, dstOf, List.getElem?_toArray, List.getElem?_cons_zero, List.getElem?_cons_succ, Option.bind_some, Option.getD_some, List.setIfInBounds_toArray, List.set_cons_zero, List.set_cons_succ]
        rw [vg, vn]
        go_wp2_with fail
        refine wp_region_held_drew (S := fun w' => (w'.cell? ⟨N + 1, 0, none⟩ = some (.int .i64 1) ∧ w'.cell? ⟨N + 1, 1, none⟩ = some (.int .i64 0) ∧ w'.cell? ⟨N + 1, 2, none⟩ = some (.int .i64 9) ∧ w'.cell? ⟨N + 1, 3, none⟩ = some (.int .i64 0) ∧ w'.cell? ⟨N + 1, 4, none⟩ = some (.string ⟨#[112]⟩) ∧ w'.cell? ⟨N + 1, 5, none⟩ = some (.slice none 0 0)) ∧ (w'.cell? ⟨g, 0, none⟩ = some (.int .i64 1) ∧ w'.cell? ⟨g, 1, none⟩ = some (.int .i64 0) ∧ w'.cell? ⟨g, 2, none⟩ = some (.int .i64 9) ∧ w'.cell? ⟨g, 3, none⟩ = some (.int .i64 0) ∧ w'.cell? ⟨g, 4, none⟩ = some (.string ⟨#[112]⟩) ∧ w'.cell? ⟨g, 5, none⟩ = some (.slice none 0 0))) (by kernel_rfl) ⟨HF13.out, HG13.out⟩ (fun hHeld => ?_)
        refine wpAnyH_take (i := 0) (oi := ⟨some 116, _, _, _, _, _⟩) (v := ?_) rfl (by kernel_rfl) (by kernel_rfl) (by kernel_rfl) (fun _ _ _ h => h) (Or.inl ⟨by rfl, ?_⟩) hHeld ?_
        rotate_left
        · (intro W hSW; (try dsimp only at hSW); go_simp; first | done | with_reducible rfl)
        try simp only [Act.put, List.setIfInBounds_toArray, List.set_cons_zero, List.set_cons_succ]
        refine wpAnyH_take (i := 1) (oi := ⟨some 117, _, _, _, _, _⟩) (v := ?_) rfl (by kernel_rfl) (by kernel_rfl) (by kernel_rfl) (fun _ _ _ h => h) (Or.inl ⟨by rfl, ?_⟩) hHeld ?_
        rotate_left
        · (intro W hSW; (try dsimp only at hSW); go_simp; first | done | with_reducible rfl)
        try simp only [Act.put, List.setIfInBounds_toArray, List.set_cons_zero, List.set_cons_succ]
        refine wpAnyH_take (i := 2) (oi := ⟨some 118, _, _, _, _, _⟩) (v := ?_) rfl (by kernel_rfl) (by kernel_rfl) (by kernel_rfl) (fun _ _ _ h => h) (Or.inl ⟨by rfl, ?_⟩) hHeld ?_
        rotate_left
        · (intro W hSW; (try dsimp only at hSW); go_simp; first | done | with_reducible rfl)
        try simp only [Act.put, List.setIfInBounds_toArray, List.set_cons_zero, List.set_cons_succ]
        refine wpAnyH_take (i := 3) (oi := ⟨some 119, _, _, _, _, _⟩) (v := ?_) rfl (by kernel_rfl) (by kernel_rfl) (by kernel_rfl) (fun _ _ _ h => h) (Or.inl ⟨by rfl, ?_⟩) hHeld ?_
        rotate_left
        · (intro W hSW; (try dsimp only at hSW); go_simp; first | done | with_reducible rfl)
        try simp only [Act.put, List.setIfInBounds_toArray, List.set_cons_zero, List.set_cons_succ]
        refine wpAnyH_take (i := 4) (oi := ⟨some 120, _, _, _, _, _⟩) (v := ?_) rfl (by kernel_rfl) (by kernel_rfl) (by kernel_rfl) (fun _ _ _ h => h) (Or.inl ⟨by rfl, ?_⟩) hHeld ?_
        rotate_left
        · (intro W hSW; (try dsimp only at hSW); go_simp; first | done | with_reducible rfl)
        try simp only [Act.put, List.setIfInBounds_toArray, List.set_cons_zero, List.set_cons_succ]
        refine wpAnyH_take (i := 5) (oi := ⟨some 121, _, _, _, _, _⟩) (v := ?_) rfl (by kernel_rfl) (by kernel_rfl) (by kernel_rfl) (fun _ _ _ h => h) (Or.inl ⟨by rfl, ?_⟩) hHeld ?_
        rotate_left
        · (intro W hSW; (try dsimp only at hSW); go_simp; first | done | with_reducible rfl)
        try simp only [Act.put, List.setIfInBounds_toArray, List.set_cons_zero, List.set_cons_succ]
        refine wpAnyH_take (i := 6) (oi := ⟨some 122, _, _, _, _, _⟩) (v := ?_) rfl (by kernel_rfl) (by kernel_rfl) (by kernel_rfl) (fun _ _ _ h => h) (Or.inl ⟨by rfl, ?_⟩) hHeld ?_
        rotate_left
        · (intro W hSW; (try dsimp only at hSW); go_simp; first | done | with_reducible rfl)
        try simp only [Act.put, List.setIfInBounds_toArray, List.set_cons_zero, List.set_cons_succ]
        refine wpAnyH_take (i := 7) (oi := ⟨some 123, _, _, _, _, _⟩) (v := ?_) rfl (by kernel_rfl) (by kernel_rfl) (by kernel_rfl) (fun _ _ _ h => h) (Or.inl ⟨by rfl, ?_⟩) hHeld ?_
        rotate_left
        · (intro W hSW; (try dsimp only at hSW); go_simp; first | done | with_reducible rfl)
        try simp only [Act.put, List.setIfInBounds_toArray, List.set_cons_zero, List.set_cons_succ]
        refine region_left (todo := [8, 9, 10, 11, 12, 13, 14, 15, 16, 17, 18, 19, 20, 21, 22, 23, 24, 25, 26, 27]) (φ := fun i => Sq.holds (match i with | 8 => .c (.bool true) | 9 => .c (.bool true) | 10 => .c (.bool true) | 11 => .c (.slice none 0 0) | 12 => .c (.int .i64 0) | 13 => .c (.bool true) | 14 => .c (.bool true) | 15 => .c (.bool true) | 16 => .c (.agg #[.int .i64 1, .int .i64 0, .int .i64 9, .int .i64 0, .string ⟨#[112]⟩, .slice none 0 0]) | 17 => .c (.bool true) | 18 => .c (.bool true) | 19 => .c (.bool true) | 20 => .c (.agg #[.int .i64 1, .int .i64 0, .int .i64 9, .int .i64 0, .string ⟨#[112]⟩, .slice none 0 0]) | 21 => .c (.bool false) | 22 => .c (.bool true) | 23 => .c (.bool true) | 24 => .c (.bool true) | 25 => .c (.bool true) | 26 => .c (.bool true) | 27 => .c (.bool true) | _ => .any)) (by kernel_rfl) (fun i w w' v h hb => Sq.mono _ h hb) ?_ ⟨?_, ?_, ?_, ?_, ?_, ?_, ?_, ?_, ?_, ?_, ?_, ?_, ?_, ?_, ?_, ?_, ?_, ?_, ?_, ?_, trivial⟩ ?_
        · exact fun w' hb => ⟨six_keep hHeld.1 hb, six_keep hHeld.2 hb⟩
        · intro a w' hb hr hd
          clear hHeld
          have hg : a.tmps.getD 119 undef = .bool true := hr 119 (by kernel_rfl)
          have e122 : a.tmps.getD 122 undef = .agg #[.int .i64 1, .int .i64 0, .int .i64 9, .int .i64 0, .string ⟨#[112]⟩, .slice none 0 0] := hr 122 (by kernel_rfl)
          have p122 : NIn w' TT tF (.agg #[.int .i64 1, .int .i64 0, .int .i64 9, .int .i64 0, .string ⟨#[112]⟩, .slice none 0 0]) := nin_f w'
          have e122' := getD_q e122
          have e123 : a.tmps.getD 123 undef = .agg #[.int .i64 1, .int .i64 0, .int .i64 9, .int .i64 0, .string ⟨#[112]⟩, .slice none 0 0] := hr 123 (by kernel_rfl)
          have p123 : NIn w' TT tF (.agg #[.int .i64 1, .int .i64 0, .int .i64 9, .int .i64 0, .string ⟨#[112]⟩, .slice none 0 0]) := nin_f w'
          have e123' := getD_q e123
          refine rop_call (d := 124) (o := _) rfl rfl (wanted_of rfl rfl hg) (f := 20) (args := #[.agg #[.int .i64 1, .int .i64 0, .int .i64 9, .int .i64 0, .string ⟨#[112]⟩, .slice none 0 0], .agg #[.int .i64 1, .int .i64 0, .int .i64 9, .int .i64 0, .string ⟨#[112]⟩, .slice none 0 0]]) (by go_simp) ?_
          refine (same_any 100 tF tF _ _ w' (by decide) (by decide) (by decide) p122 p123).mono ?_
          rintro e w'' ⟨rfl, hb'⟩
          exact ⟨_, rfl, (by rw [show sameN tF tF = true from by kernel_rfl]; rfl), hb'⟩
        · intro a w' hb hr hd
          clear hHeld
          have e119 : a.tmps.getD 119 undef = .bool true := hr 119 (by kernel_rfl)
          have e119' := getD_q e119
          have e124 : a.tmps.getD 124 undef = .bool true := hd 8 (by kernel_rfl)
          have e124' := getD_q e124
          exact rop_val (d := 125) (o := _) rfl rfl rfl (v := .bool true) (w' := w') (by go_simp) rfl (Below.refl _ _)
        · intro a w' hb hr hd
          clear hHeld
          have e125 : a.tmps.getD 125 undef = .bool true := hd 9 (by kernel_rfl)
          have e125' := getD_q e125
          exact rop_val (d := 126) (o := _) rfl rfl rfl (v := .bool true) (w' := w') (by go_simp) rfl (Below.refl _ _)
        · intro a w' hb hr hd
          clear hHeld
          have hg : a.tmps.getD 126 undef = .bool true := hd 10 (by kernel_rfl)
          have e7 : a.tmps.getD 7 undef = .slice none 0 0 := hr 7 (by kernel_rfl)
          have e7' := getD_q e7
          exact rop_val (d := 127) (o := _) rfl rfl (wanted_of rfl rfl hg) (v := .slice none 0 0) (w' := w') (by go_simp) rfl (Below.refl _ _)
        · intro a w' hb hr hd
          clear hHeld
          have hg : a.tmps.getD 126 undef = .bool true := hd 10 (by kernel_rfl)
          have e127 : a.tmps.getD 127 undef = .slice none 0 0 := hd 11 (by kernel_rfl)
          have e127' := getD_q e127
          exact rop_val (d := 128) (o := _) rfl rfl (wanted_of rfl rfl hg) (v := .int .i64 0) (w' := w') (by go_simp) rfl (Below.refl _ _)
        · intro a w' hb hr hd
          clear hHeld
          have hg : a.tmps.getD 126 undef = .bool true := hd 10 (by kernel_rfl)
          have e128 : a.tmps.getD 128 undef = .int .i64 0 := hd 12 (by kernel_rfl)
          have e128' := getD_q e128
          exact rop_val (d := 129) (o := _) rfl rfl (wanted_of rfl rfl hg) (v := .bool true) (w' := w') (by go_simp) rfl (Below.refl _ _)
        · intro a w' hb hr hd
          clear hHeld
          have e126 : a.tmps.getD 126 undef = .bool true := hd 10 (by kernel_rfl)
          have e126' := getD_q e126
          have e129 : a.tmps.getD 129 undef = .bool true := hd 13 (by kernel_rfl)
          have e129' := getD_q e129
          exact rop_val (d := 130) (o := _) rfl rfl rfl (v := .bool true) (w' := w') (by go_simp) rfl (Below.refl _ _)
        · intro a w' hb hr hd
          clear hHeld
          have e130 : a.tmps.getD 130 undef = .bool true := hd 14 (by kernel_rfl)
          have e130' := getD_q e130
          exact rop_val (d := 131) (o := _) rfl rfl rfl (v := .bool true) (w' := w') (by go_simp) rfl (Below.refl _ _)
        · intro a w' hb hr hd
          clear hHeld
          have hg : a.tmps.getD 131 undef = .bool true := hd 15 (by kernel_rfl)
          have e2 : a.tmps.getD 2 undef = .pointer (some ⟨N + 1, 0, none⟩) := hr 2 (by kernel_rfl)
          have e2' := getD_q e2
          obtain ⟨c0, c1, c2, c3, c4, c5⟩ := six_keep HF13.out (below_drew hb)
          exact rop_val (d := 132) (o := _) rfl rfl (wanted_of rfl rfl hg) (v := .agg #[.int .i64 1, .int .i64 0, .int .i64 9, .int .i64 0, .string ⟨#[112]⟩, .slice none 0 0]) (w' := w') (by go_simp) rfl (Below.refl _ _)
        · intro a w' hb hr hd
          clear hHeld
          have hg : a.tmps.getD 131 undef = .bool true := hd 15 (by kernel_rfl)
          have e132 : a.tmps.getD 132 undef = .agg #[.int .i64 1, .int .i64 0, .int .i64 9, .int .i64 0, .string ⟨#[112]⟩, .slice none 0 0] := hd 16 (by kernel_rfl)
          have p132 : NIn w' TT tF (.agg #[.int .i64 1, .int .i64 0, .int .i64 9, .int .i64 0, .string ⟨#[112]⟩, .slice none 0 0]) := nin_f w'
          have e132' := getD_q e132
          refine rop_call (d := 133) (o := _) rfl rfl (wanted_of rfl rfl hg) (f := 29) (args := #[.agg #[.int .i64 1, .int .i64 0, .int .i64 9, .int .i64 0, .string ⟨#[112]⟩, .slice none 0 0], .int .i64 9]) (by go_simp) ?_
          refine (placed_leaf 9 true (by decide) w').mono ?_
          rintro e w'' ⟨rfl, hb'⟩
          exact ⟨_, rfl, rfl, hb'⟩
        · intro a w' hb hr hd
          clear hHeld
          have e131 : a.tmps.getD 131 undef = .bool true := hd 15 (by kernel_rfl)
          have e131' := getD_q e131
          have e133 : a.tmps.getD 133 undef = .bool true := hd 17 (by kernel_rfl)
          have e133' := getD_q e133
          exact rop_val (d := 134) (o := _) rfl rfl rfl (v := .bool true) (w' := w') (by go_simp) rfl (Below.refl _ _)
        · intro a w' hb hr hd
          clear hHeld
          have e134 : a.tmps.getD 134 undef = .bool true := hd 18 (by kernel_rfl)
          have e134' := getD_q e134
          exact rop_val (d := 135) (o := _) rfl rfl rfl (v := .bool true) (w' := w') (by go_simp) rfl (Below.refl _ _)
        · intro a w' hb hr hd
          clear hHeld
          have hg : a.tmps.getD 135 undef = .bool true := hd 19 (by kernel_rfl)
          have e2 : a.tmps.getD 2 undef = .pointer (some ⟨N + 1, 0, none⟩) := hr 2 (by kernel_rfl)
          have e2' := getD_q e2
          obtain ⟨c0, c1, c2, c3, c4, c5⟩ := six_keep HF13.out (below_drew hb)
          exact rop_val (d := 136) (o := _) rfl rfl (wanted_of rfl rfl hg) (v := .agg #[.int .i64 1, .int .i64 0, .int .i64 9, .int .i64 0, .string ⟨#[112]⟩, .slice none 0 0]) (w' := w') (by go_simp) rfl (Below.refl _ _)
        · intro a w' hb hr hd
          clear hHeld
          have hg : a.tmps.getD 135 undef = .bool true := hd 19 (by kernel_rfl)
          have e136 : a.tmps.getD 136 undef = .agg #[.int .i64 1, .int .i64 0, .int .i64 9, .int .i64 0, .string ⟨#[112]⟩, .slice none 0 0] := hd 20 (by kernel_rfl)
          have p136 : NIn w' TT tF (.agg #[.int .i64 1, .int .i64 0, .int .i64 9, .int .i64 0, .string ⟨#[112]⟩, .slice none 0 0]) := nin_f w'
          have e136' := getD_q e136
          refine rop_call (d := 137) (o := _) rfl rfl (wanted_of rfl rfl hg) (f := 29) (args := #[.agg #[.int .i64 1, .int .i64 0, .int .i64 9, .int .i64 0, .string ⟨#[112]⟩, .slice none 0 0], .int .i64 8]) (by go_simp) ?_
          refine (placed_leaf 8 false (by decide) w').mono ?_
          rintro e w'' ⟨rfl, hb'⟩
          exact ⟨_, rfl, rfl, hb'⟩
        · intro a w' hb hr hd
          clear hHeld
          have hg : a.tmps.getD 135 undef = .bool true := hd 19 (by kernel_rfl)
          have e137 : a.tmps.getD 137 undef = .bool false := hd 21 (by kernel_rfl)
          have e137' := getD_q e137
          exact rop_val (d := 138) (o := _) rfl rfl (wanted_of rfl rfl hg) (v := .bool true) (w' := w') (by go_simp) rfl (Below.refl _ _)
        · intro a w' hb hr hd
          clear hHeld
          have e135 : a.tmps.getD 135 undef = .bool true := hd 19 (by kernel_rfl)
          have e135' := getD_q e135
          have e138 : a.tmps.getD 138 undef = .bool true := hd 22 (by kernel_rfl)
          have e138' := getD_q e138
          exact rop_val (d := 139) (o := _) rfl rfl rfl (v := .bool true) (w' := w') (by go_simp) rfl (Below.refl _ _)
        · intro a w' hb hr hd
          clear hHeld
          have e139 : a.tmps.getD 139 undef = .bool true := hd 23 (by kernel_rfl)
          have e139' := getD_q e139
          exact rop_val (d := 140) (o := _) rfl rfl rfl (v := .bool true) (w' := w') (by go_simp) rfl (Below.refl _ _)
        · intro a w' hb hr hd
          clear hHeld
          have hg : a.tmps.getD 140 undef = .bool true := hd 24 (by kernel_rfl)
          refine rop_call (d := 141) (o := _) rfl rfl (wanted_of rfl rfl hg) (f := 15) (args := #[]) (by go_simp) ?_
          refine (HWK.out w' (HR.out.keepF _ _ HW.out (HB13.out.trans ((below_drew hb).mono HB13.out.size)))).mono ?_
          rintro e w'' ⟨rfl, hb'⟩
          exact ⟨_, rfl, rfl, hb'⟩
        · intro a w' hb hr hd
          clear hHeld
          have e140 : a.tmps.getD 140 undef = .bool true := hd 24 (by kernel_rfl)
          have e140' := getD_q e140
          have e141 : a.tmps.getD 141 undef = .bool true := hd 25 (by kernel_rfl)
          have e141' := getD_q e141
          exact rop_val (d := 142) (o := _) rfl rfl rfl (v := .bool true) (w' := w') (by go_simp) rfl (Below.refl _ _)
        · intro a w' hb hr hd
          clear hHeld
          have e142 : a.tmps.getD 142 undef = .bool true := hd 26 (by kernel_rfl)
          have e142' := getD_q e142
          exact rop_val (d := 0) (o := _) rfl rfl rfl (v := .bool true) (w' := w') (by go_simp) rfl (Below.refl _ _)
        · intro vs w' hb hφ
          have vz : vs 27 = .bool true := hφ.2.2.2.2.2.2.2.2.2.2.2.2.2.2.2.2.2.2.2.1
          have HB14 := Lib.hid (HB13.out.trans ((below_drew hb).mono HB13.out.size))
          clear hb hφ hHeld
          simp only [setAll, dstOf, List.getElem?_toArray, List.getElem?_cons_zero, List.getElem?_cons_succ, Option.bind_some, Option.getD_some, List.setIfInBounds_toArray, List.set_cons_zero, List.set_cons_succ]
          rw [vz]
          go_wp2_with fail
          go_ret
          exact ⟨rfl, HB14.out⟩
end Go.Proofs.YtcbfohokigamfaaGreatDoor
namespace Go.Proofs.YtcbfohokigamfaaGreatDoor
open Go.RowKit
theorem fspec_none : FSpec (fun _ => True) (fun _ => 0) (fun _ => False) := ⟨fun _ _ _ _ => trivial, fun _ h => h.elim⟩
theorem astKnown_law (w : World) (hF : Facts w) : Calls Tryz.prog 9 #[] w fun e w' => e = .returned (.bool true) ∧ Below w.heap.size w w' := known_any fspec_none w hF trivial
end Go.Proofs.YtcbfohokigamfaaGreatDoor
