/-
  emendlaw10.works: true, in every world in which isToken tells what it should. (Written by a program.)
-/
import Derived.Test.YtkpddjbdmjbefaaGreatDoorNMay
namespace Go.Proofs.YtkpddjbdmjbefaaGreatDoor
open Go.RowKit
variable {tk : Int → ByteArray → Bool} {O : ByteArray → Prop} {FAC : World → Prop}

mutual
def allNB (p : ByteArray → Bool) : Nd → Bool
  | .mk _ _ _ _ s l => p s && allLB p l
def allLB (p : ByteArray → Bool) : List Nd → Bool
  | [] => true
  | n :: l => allNB p n && allLB p l
end
mutual
theorem allN_of {p : ByteArray → Bool} (h : ∀ s, p s = true → O s) : ∀ n : Nd, allNB p n = true → allN O n
  | .mk _ _ _ _ s l, hn => by
    rw [allNB, Bool.and_eq_true] at hn
    rw [allN]
    exact ⟨h s hn.1, allL_of h l hn.2⟩
theorem allL_of {p : ByteArray → Bool} (h : ∀ s, p s = true → O s) : ∀ l : List Nd, allLB p l = true → allL O l
  | [], _ => by rw [allL]; trivial
  | n :: l, hn => by
    rw [allLB, Bool.and_eq_true] at hn
    rw [allL]
    exact ⟨allN_of h n hn.1, allL_of h l hn.2⟩
end
/-- The names of the small trees. -/
def smallB (s : ByteArray) : Bool := [[], [112], [102], [43], [42], [120], [84], [97], [102, 111, 114], [124, 124], [38, 38], [45], [48, 49], [108, 101, 110]].contains s.data.toList
def fitB (F : Nat) (T : Nd) : Bool := decide (8 * sz T ≤ F + 1) && decide (sz T ≤ 100000) && allNB smallB T
theorem fit_of {F : Nat} {T : Nd} (hO : ∀ s, smallB s = true → O s) (h : fitB F T = true) : Fit O (F + 1) 0 T := by
  unfold fitB at h
  rw [Bool.and_eq_true, Bool.and_eq_true, decide_eq_true_eq, decide_eq_true_eq] at h
  exact ⟨h.1.1, h.1.2, allN_of hO T h.2⟩

set_option maxRecDepth 100000 in
set_option maxHeartbeats 4000000 in
theorem works_any (R : Ready tk O FAC) (hO : ∀ s, smallB s = true → O s) (w : World) (hW : FAC w) : Calls Tryz.prog 5 #[] w fun e w' => e = .returned (.bool true) ∧ Below w.heap.size w w' := by
  have HNV := Lib.hid (name_val ⟨#[120]⟩ w)
  have HW := Lib.hid hW
  have HR := Lib.hid R
  have HO := Lib.hid hO
  clear hW R hO
  go_enter Tryz.func5, Tryz.ntmps5
  go_wp2_with fail
  refine HNV.out.mono ?_
  rintro e w0 ⟨rfl, hb⟩
  have HB0 := Lib.hid hb
  clear hb HNV
  go_wp2_with fail
  obtain ⟨B1, T1, Z1, K1⟩ := one_more HB0.out HB0.out.size #[.int .i64 25, .int .i64 0, .int .i64 0, .int .i64 0, .string ⟨#[120]⟩, .slice none 0 0] 24
  generalize hw1 : w0.alloc (.cells #[.int .i64 25, .int .i64 0, .int .i64 0, .int .i64 0, .string ⟨#[120]⟩, .slice none 0 0] 24) = w1 at *
  have HS0 := Lib.hid (six_cells T1)
  have HB1 := Lib.hid B1
  clear B1 T1 Z1 K1 hw1
  generalize hN : w0.heap.size = N at *
  refine wp_region_held_drew (S := fun w' => w'.cell? ⟨N, 0, none⟩ = some (.int .i64 25) ∧ w'.cell? ⟨N, 1, none⟩ = some (.int .i64 0) ∧ w'.cell? ⟨N, 2, none⟩ = some (.int .i64 0) ∧ w'.cell? ⟨N, 3, none⟩ = some (.int .i64 0) ∧ w'.cell? ⟨N, 4, none⟩ = some (.string ⟨#[120]⟩) ∧ w'.cell? ⟨N, 5, none⟩ = some (.slice none 0 0)) (by kernel_rfl) HS0.out (fun hHeld => ?_)
  refine wpAnyH_take (i := 0) (oi := ⟨some 3, _, _, _, _, _⟩) (v := ?_) rfl (by kernel_rfl) (by kernel_rfl) (by kernel_rfl) (fun _ _ _ h => h) (Or.inl ⟨by rfl, ?_⟩) hHeld ?_
  rotate_left
  · (intro W hSW; (try dsimp only at hSW); go_simp; first | done | with_reducible rfl)
  try simp only [Act.put, List.setIfInBounds_toArray, List.set_cons_zero, List.set_cons_succ]
  refine wpAnyH_take (i := 1) (oi := ⟨some 4, _, _, _, _, _⟩) (v := ?_) rfl (by kernel_rfl) (by kernel_rfl) (by kernel_rfl) (fun _ _ _ h => h) (Or.inl ⟨by rfl, ?_⟩) hHeld ?_
  rotate_left
  · (intro W hSW; (try dsimp only at hSW); go_simp; first | done | with_reducible rfl)
  try simp only [Act.put, List.setIfInBounds_toArray, List.set_cons_zero, List.set_cons_succ]
  refine wpAnyH_take (i := 2) (oi := ⟨some 5, _, _, _, _, _⟩) (v := ?_) rfl (by kernel_rfl) (by kernel_rfl) (by kernel_rfl) (fun _ _ _ h => h) (Or.inl ⟨by rfl, ?_⟩) hHeld ?_
  rotate_left
  · (intro W hSW; (try dsimp only at hSW); go_simp; first | done | with_reducible rfl)
  try simp only [Act.put, List.setIfInBounds_toArray, List.set_cons_zero, List.set_cons_succ]
  refine region_left (todo := [3, 4, 5, 6, 7, 8, 9, 10, 11, 12, 13, 14, 15, 16, 17, 18, 19, 20, 21, 22, 23, 24, 25, 26, 27, 28, 29, 30, 31, 32, 33, 34, 35, 36, 37, 38, 39]) (φ := fun i => Sp.holds (fun _ => True) O (match i with | 3 => .tree (tTwo (ByteArray.mk #[42]) (tName ⟨#[120]⟩) (tName ⟨#[120]⟩)) | 4 => .tree (tTwo (ByteArray.mk #[43]) (tName ⟨#[120]⟩) (tTwo (ByteArray.mk #[42]) (tName ⟨#[120]⟩) (tName ⟨#[120]⟩))) | 5 => .tree (tBack (tTwo (ByteArray.mk #[43]) (tName ⟨#[120]⟩) (tTwo (ByteArray.mk #[42]) (tName ⟨#[120]⟩) (tName ⟨#[120]⟩)))) | 6 => .c (.bool true) | 7 => .c (.bool true) | 8 => .c (.agg #[.int .i64 25, .int .i64 0, .int .i64 0, .int .i64 0, .string ⟨#[120]⟩, .slice none 0 0]) | 9 => .c (.agg #[.int .i64 25, .int .i64 0, .int .i64 0, .int .i64 0, .string ⟨#[120]⟩, .slice none 0 0]) | 10 => .tree (tTwo (ByteArray.mk #[43]) (tName ⟨#[120]⟩) (tName ⟨#[120]⟩)) | 11 => .c (.agg #[.int .i64 25, .int .i64 0, .int .i64 0, .int .i64 0, .string ⟨#[120]⟩, .slice none 0 0]) | 12 => .tree (tTwo (ByteArray.mk #[42]) (tTwo (ByteArray.mk #[43]) (tName ⟨#[120]⟩) (tName ⟨#[120]⟩)) (tName ⟨#[120]⟩)) | 13 => .tree (tBack (tTwo (ByteArray.mk #[42]) (tTwo (ByteArray.mk #[43]) (tName ⟨#[120]⟩) (tName ⟨#[120]⟩)) (tName ⟨#[120]⟩))) | 14 => .c (.bool true) | 15 => .c (.bool true) | 16 => .c (.bool true) | 17 => .tree tLit | 18 => .tree (tSel tLit (ByteArray.mk #[97])) | 19 => .tree (tBranch (tSel tLit (ByteArray.mk #[97]))) | 20 => .c (.bool true) | 21 => .c (.bool true) | 22 => .c (.bool true) | 23 => .tree tLit | 24 => .tree (tParen tLit) | 25 => .tree (tSel (tParen tLit) (ByteArray.mk #[97])) | 26 => .tree (tBranch (tSel (tParen tLit) (ByteArray.mk #[97]))) | 27 => .c (.bool true) | 28 => .c (.bool true) | 29 => .c (.bool true) | 30 => .tree (tBody []) | 31 => .c (.int .i64 3) | 32 => .c (.bool true) | 33 => .c (.bool true) | 34 => .c (.bool true) | 35 => .c (.agg #[.int .i64 25, .int .i64 0, .int .i64 0, .int .i64 0, .string ⟨#[120]⟩, .slice none 0 0]) | 36 => .c (.agg #[.int .i64 25, .int .i64 0, .int .i64 0, .int .i64 0, .string ⟨#[120]⟩, .slice none 0 0]) | 37 => .c (.bool true) | 38 => .c (.bool true) | 39 => .c (.bool true) | _ => .any)) (by kernel_rfl) (fun i w w' v h hb => Sp.mono _ _ _ h hb) ?_ ⟨?_, ?_, ?_, ?_, ?_, ?_, ?_, ?_, ?_, ?_, ?_, ?_, ?_, ?_, ?_, ?_, ?_, ?_, ?_, ?_, ?_, ?_, ?_, ?_, ?_, ?_, ?_, ?_, ?_, ?_, ?_, ?_, ?_, ?_, ?_, ?_, ?_, trivial⟩ ?_
  · exact fun w' hb => six_keep hHeld hb
  · intro a w' hb hr hd
    clear hHeld
    have e4 : a.tmps.getD 4 undef = .agg #[.int .i64 25, .int .i64 0, .int .i64 0, .int .i64 0, .string ⟨#[120]⟩, .slice none 0 0] := hr 4 (by kernel_rfl)
    have p4 : NIn w' TT (tName ⟨#[120]⟩) (.agg #[.int .i64 25, .int .i64 0, .int .i64 0, .int .i64 0, .string ⟨#[120]⟩, .slice none 0 0]) := nin_leaf w' 25 ⟨#[120]⟩
    have e4' := getD_q e4
    have e5 : a.tmps.getD 5 undef = .agg #[.int .i64 25, .int .i64 0, .int .i64 0, .int .i64 0, .string ⟨#[120]⟩, .slice none 0 0] := hr 5 (by kernel_rfl)
    have p5 : NIn w' TT (tName ⟨#[120]⟩) (.agg #[.int .i64 25, .int .i64 0, .int .i64 0, .int .i64 0, .string ⟨#[120]⟩, .slice none 0 0]) := nin_leaf w' 25 ⟨#[120]⟩
    have e5' := getD_q e5
    refine rop_call (d := 6) (o := _) rfl rfl rfl (f := 14) (args := #[.string (ByteArray.mk #[42]), .agg #[.int .i64 25, .int .i64 0, .int .i64 0, .int .i64 0, .string ⟨#[120]⟩, .slice none 0 0], .agg #[.int .i64 25, .int .i64 0, .int .i64 0, .int .i64 0, .string ⟨#[120]⟩, .slice none 0 0]]) (by go_simp) ?_
    exact two_tree (ByteArray.mk #[42]) (tName ⟨#[120]⟩) (tName ⟨#[120]⟩) _ _ w' p4 p5
  · intro a w' hb hr hd
    clear hHeld
    have e3 : a.tmps.getD 3 undef = .agg #[.int .i64 25, .int .i64 0, .int .i64 0, .int .i64 0, .string ⟨#[120]⟩, .slice none 0 0] := hr 3 (by kernel_rfl)
    have p3 : NIn w' TT (tName ⟨#[120]⟩) (.agg #[.int .i64 25, .int .i64 0, .int .i64 0, .int .i64 0, .string ⟨#[120]⟩, .slice none 0 0]) := nin_leaf w' 25 ⟨#[120]⟩
    have e3' := getD_q e3
    have p6 : NIn w' TT (tTwo (ByteArray.mk #[42]) (tName ⟨#[120]⟩) (tName ⟨#[120]⟩)) (a.tmps.getD 6 undef) := hd 3 (by kernel_rfl)
    obtain ⟨v6, e6⟩ : ∃ v, a.tmps.getD 6 undef = v := ⟨_, rfl⟩
    rw [e6] at p6
    have e6' := getD_q e6
    refine rop_call (d := 7) (o := _) rfl rfl rfl (f := 14) (args := #[.string (ByteArray.mk #[43]), .agg #[.int .i64 25, .int .i64 0, .int .i64 0, .int .i64 0, .string ⟨#[120]⟩, .slice none 0 0], v6]) (by go_simp) ?_
    exact two_tree (ByteArray.mk #[43]) (tName ⟨#[120]⟩) (tTwo (ByteArray.mk #[42]) (tName ⟨#[120]⟩) (tName ⟨#[120]⟩)) _ _ w' p3 p6
  · intro a w' hb hr hd
    clear hHeld
    have p7 : NIn w' TT (tTwo (ByteArray.mk #[43]) (tName ⟨#[120]⟩) (tTwo (ByteArray.mk #[42]) (tName ⟨#[120]⟩) (tName ⟨#[120]⟩))) (a.tmps.getD 7 undef) := hd 4 (by kernel_rfl)
    obtain ⟨v7, e7⟩ : ∃ v, a.tmps.getD 7 undef = v := ⟨_, rfl⟩
    rw [e7] at p7
    have e7' := getD_q e7
    refine rop_call (d := 8) (o := _) rfl rfl rfl (f := 13) (args := #[v7]) (by go_simp) ?_
    exact back_tree (tTwo (ByteArray.mk #[43]) (tName ⟨#[120]⟩) (tTwo (ByteArray.mk #[42]) (tName ⟨#[120]⟩) (tName ⟨#[120]⟩))) _ w' p7
  · intro a w' hb hr hd
    clear hHeld
    have p8 : NIn w' TT (tBack (tTwo (ByteArray.mk #[43]) (tName ⟨#[120]⟩) (tTwo (ByteArray.mk #[42]) (tName ⟨#[120]⟩) (tName ⟨#[120]⟩)))) (a.tmps.getD 8 undef) := hd 5 (by kernel_rfl)
    obtain ⟨v8, e8⟩ : ∃ v, a.tmps.getD 8 undef = v := ⟨_, rfl⟩
    rw [e8] at p8
    have e8' := getD_q e8
    refine rop_call (d := 9) (o := _) rfl rfl rfl (f := 12) (args := #[v8]) (by go_simp) ?_
    refine (may_any HR.out 600 (tBack (tTwo (ByteArray.mk #[43]) (tName ⟨#[120]⟩) (tTwo (ByteArray.mk #[42]) (tName ⟨#[120]⟩) (tName ⟨#[120]⟩)))) _ w' (HR.out.keepF _ _ HW.out (HB1.out.trans ((below_drew hb).mono HB1.out.size))) (fit_of HO.out (by kernel_rfl)) p8 true (by kernel_rfl)).mono ?_
    rintro e w'' ⟨rfl, hb'⟩
    exact ⟨_, rfl, rfl, hb'⟩
  · intro a w' hb hr hd
    clear hHeld
    have e9 : a.tmps.getD 9 undef = .bool true := hd 6 (by kernel_rfl)
    have e9' := getD_q e9
    exact rop_val (d := 10) (o := _) rfl rfl rfl (v := .bool true) (w' := w') (by go_simp) rfl (Below.refl _ _)
  · intro a w' hb hr hd
    have hg : a.tmps.getD 10 undef = .bool true := hd 7 (by kernel_rfl)
    have e1 : a.tmps.getD 1 undef = .pointer (some ⟨N, 0, none⟩) := hr 1 (by kernel_rfl)
    have e1' := getD_q e1
    have hc0 := cell_kept hHeld.1 rfl hb
    have hc1 := cell_kept hHeld.2.1 rfl hb
    have hc2 := cell_kept hHeld.2.2.1 rfl hb
    have hc3 := cell_kept hHeld.2.2.2.1 rfl hb
    have hc4 := cell_kept hHeld.2.2.2.2.1 rfl hb
    have hc5 := cell_kept hHeld.2.2.2.2.2 rfl hb
    exact rop_val (d := 11) (o := _) rfl rfl (wanted_of rfl rfl hg) (v := .agg #[.int .i64 25, .int .i64 0, .int .i64 0, .int .i64 0, .string ⟨#[120]⟩, .slice none 0 0]) (w' := w') (by go_simp) rfl (Below.refl _ _)
  · intro a w' hb hr hd
    have hg : a.tmps.getD 10 undef = .bool true := hd 7 (by kernel_rfl)
    have e1 : a.tmps.getD 1 undef = .pointer (some ⟨N, 0, none⟩) := hr 1 (by kernel_rfl)
    have e1' := getD_q e1
    have hc0 := cell_kept hHeld.1 rfl hb
    have hc1 := cell_kept hHeld.2.1 rfl hb
    have hc2 := cell_kept hHeld.2.2.1 rfl hb
    have hc3 := cell_kept hHeld.2.2.2.1 rfl hb
    have hc4 := cell_kept hHeld.2.2.2.2.1 rfl hb
    have hc5 := cell_kept hHeld.2.2.2.2.2 rfl hb
    exact rop_val (d := 12) (o := _) rfl rfl (wanted_of rfl rfl hg) (v := .agg #[.int .i64 25, .int .i64 0, .int .i64 0, .int .i64 0, .string ⟨#[120]⟩, .slice none 0 0]) (w' := w') (by go_simp) rfl (Below.refl _ _)
  · intro a w' hb hr hd
    clear hHeld
    have hg : a.tmps.getD 10 undef = .bool true := hd 7 (by kernel_rfl)
    have e11 : a.tmps.getD 11 undef = .agg #[.int .i64 25, .int .i64 0, .int .i64 0, .int .i64 0, .string ⟨#[120]⟩, .slice none 0 0] := hd 8 (by kernel_rfl)
    have p11 : NIn w' TT (tName ⟨#[120]⟩) (.agg #[.int .i64 25, .int .i64 0, .int .i64 0, .int .i64 0, .string ⟨#[120]⟩, .slice none 0 0]) := nin_leaf w' 25 ⟨#[120]⟩
    have e11' := getD_q e11
    have e12 : a.tmps.getD 12 undef = .agg #[.int .i64 25, .int .i64 0, .int .i64 0, .int .i64 0, .string ⟨#[120]⟩, .slice none 0 0] := hd 9 (by kernel_rfl)
    have p12 : NIn w' TT (tName ⟨#[120]⟩) (.agg #[.int .i64 25, .int .i64 0, .int .i64 0, .int .i64 0, .string ⟨#[120]⟩, .slice none 0 0]) := nin_leaf w' 25 ⟨#[120]⟩
    have e12' := getD_q e12
    refine rop_call (d := 13) (o := _) rfl rfl (wanted_of rfl rfl hg) (f := 14) (args := #[.string (ByteArray.mk #[43]), .agg #[.int .i64 25, .int .i64 0, .int .i64 0, .int .i64 0, .string ⟨#[120]⟩, .slice none 0 0], .agg #[.int .i64 25, .int .i64 0, .int .i64 0, .int .i64 0, .string ⟨#[120]⟩, .slice none 0 0]]) (by go_simp) ?_
    exact two_tree (ByteArray.mk #[43]) (tName ⟨#[120]⟩) (tName ⟨#[120]⟩) _ _ w' p11 p12
  · intro a w' hb hr hd
    have hg : a.tmps.getD 10 undef = .bool true := hd 7 (by kernel_rfl)
    have e1 : a.tmps.getD 1 undef = .pointer (some ⟨N, 0, none⟩) := hr 1 (by kernel_rfl)
    have e1' := getD_q e1
    have hc0 := cell_kept hHeld.1 rfl hb
    have hc1 := cell_kept hHeld.2.1 rfl hb
    have hc2 := cell_kept hHeld.2.2.1 rfl hb
    have hc3 := cell_kept hHeld.2.2.2.1 rfl hb
    have hc4 := cell_kept hHeld.2.2.2.2.1 rfl hb
    have hc5 := cell_kept hHeld.2.2.2.2.2 rfl hb
    exact rop_val (d := 14) (o := _) rfl rfl (wanted_of rfl rfl hg) (v := .agg #[.int .i64 25, .int .i64 0, .int .i64 0, .int .i64 0, .string ⟨#[120]⟩, .slice none 0 0]) (w' := w') (by go_simp) rfl (Below.refl _ _)
  · intro a w' hb hr hd
    clear hHeld
    have hg : a.tmps.getD 10 undef = .bool true := hd 7 (by kernel_rfl)
    have p13 : NIn w' TT (tTwo (ByteArray.mk #[43]) (tName ⟨#[120]⟩) (tName ⟨#[120]⟩)) (a.tmps.getD 13 undef) := hd 10 (by kernel_rfl)
    obtain ⟨v13, e13⟩ : ∃ v, a.tmps.getD 13 undef = v := ⟨_, rfl⟩
    rw [e13] at p13
    have e13' := getD_q e13
    have e14 : a.tmps.getD 14 undef = .agg #[.int .i64 25, .int .i64 0, .int .i64 0, .int .i64 0, .string ⟨#[120]⟩, .slice none 0 0] := hd 11 (by kernel_rfl)
    have p14 : NIn w' TT (tName ⟨#[120]⟩) (.agg #[.int .i64 25, .int .i64 0, .int .i64 0, .int .i64 0, .string ⟨#[120]⟩, .slice none 0 0]) := nin_leaf w' 25 ⟨#[120]⟩
    have e14' := getD_q e14
    refine rop_call (d := 15) (o := _) rfl rfl (wanted_of rfl rfl hg) (f := 14) (args := #[.string (ByteArray.mk #[42]), v13, .agg #[.int .i64 25, .int .i64 0, .int .i64 0, .int .i64 0, .string ⟨#[120]⟩, .slice none 0 0]]) (by go_simp) ?_
    exact two_tree (ByteArray.mk #[42]) (tTwo (ByteArray.mk #[43]) (tName ⟨#[120]⟩) (tName ⟨#[120]⟩)) (tName ⟨#[120]⟩) _ _ w' p13 p14
  · intro a w' hb hr hd
    clear hHeld
    have hg : a.tmps.getD 10 undef = .bool true := hd 7 (by kernel_rfl)
    have p15 : NIn w' TT (tTwo (ByteArray.mk #[42]) (tTwo (ByteArray.mk #[43]) (tName ⟨#[120]⟩) (tName ⟨#[120]⟩)) (tName ⟨#[120]⟩)) (a.tmps.getD 15 undef) := hd 12 (by kernel_rfl)
    obtain ⟨v15, e15⟩ : ∃ v, a.tmps.getD 15 undef = v := ⟨_, rfl⟩
    rw [e15] at p15
    have e15' := getD_q e15
    refine rop_call (d := 16) (o := _) rfl rfl (wanted_of rfl rfl hg) (f := 13) (args := #[v15]) (by go_simp) ?_
    exact back_tree (tTwo (ByteArray.mk #[42]) (tTwo (ByteArray.mk #[43]) (tName ⟨#[120]⟩) (tName ⟨#[120]⟩)) (tName ⟨#[120]⟩)) _ w' p15
  · intro a w' hb hr hd
    clear hHeld
    have hg : a.tmps.getD 10 undef = .bool true := hd 7 (by kernel_rfl)
    have p16 : NIn w' TT (tBack (tTwo (ByteArray.mk #[42]) (tTwo (ByteArray.mk #[43]) (tName ⟨#[120]⟩) (tName ⟨#[120]⟩)) (tName ⟨#[120]⟩))) (a.tmps.getD 16 undef) := hd 13 (by kernel_rfl)
    obtain ⟨v16, e16⟩ : ∃ v, a.tmps.getD 16 undef = v := ⟨_, rfl⟩
    rw [e16] at p16
    have e16' := getD_q e16
    refine rop_call (d := 17) (o := _) rfl rfl (wanted_of rfl rfl hg) (f := 15) (args := #[v16]) (by go_simp) ?_
    refine (no_any HR.out 600 (tBack (tTwo (ByteArray.mk #[42]) (tTwo (ByteArray.mk #[43]) (tName ⟨#[120]⟩) (tName ⟨#[120]⟩)) (tName ⟨#[120]⟩))) _ w' (HR.out.keepF _ _ HW.out (HB1.out.trans ((below_drew hb).mono HB1.out.size))) (fit_of HO.out (by kernel_rfl)) p16 true (by kernel_rfl)).mono ?_
    rintro e w'' ⟨rfl, hb'⟩
    exact ⟨_, rfl, rfl, hb'⟩
  · intro a w' hb hr hd
    clear hHeld
    have e10 : a.tmps.getD 10 undef = .bool true := hd 7 (by kernel_rfl)
    have e10' := getD_q e10
    have e17 : a.tmps.getD 17 undef = .bool true := hd 14 (by kernel_rfl)
    have e17' := getD_q e17
    exact rop_val (d := 18) (o := _) rfl rfl rfl (v := .bool true) (w' := w') (by go_simp) rfl (Below.refl _ _)
  · intro a w' hb hr hd
    clear hHeld
    have e18 : a.tmps.getD 18 undef = .bool true := hd 15 (by kernel_rfl)
    have e18' := getD_q e18
    exact rop_val (d := 19) (o := _) rfl rfl rfl (v := .bool true) (w' := w') (by go_simp) rfl (Below.refl _ _)
  · intro a w' hb hr hd
    clear hHeld
    have hg : a.tmps.getD 19 undef = .bool true := hd 16 (by kernel_rfl)
    refine rop_call (d := 20) (o := _) rfl rfl (wanted_of rfl rfl hg) (f := 18) (args := #[]) (by go_simp) ?_
    exact lit_tree w'
  · intro a w' hb hr hd
    clear hHeld
    have hg : a.tmps.getD 19 undef = .bool true := hd 16 (by kernel_rfl)
    have p20 : NIn w' TT tLit (a.tmps.getD 20 undef) := hd 17 (by kernel_rfl)
    obtain ⟨v20, e20⟩ : ∃ v, a.tmps.getD 20 undef = v := ⟨_, rfl⟩
    rw [e20] at p20
    have e20' := getD_q e20
    refine rop_call (d := 21) (o := _) rfl rfl (wanted_of rfl rfl hg) (f := 17) (args := #[v20, .string (ByteArray.mk #[97])]) (by go_simp) ?_
    exact sel_tree (ByteArray.mk #[97]) tLit _ w' p20
  · intro a w' hb hr hd
    clear hHeld
    have hg : a.tmps.getD 19 undef = .bool true := hd 16 (by kernel_rfl)
    have p21 : NIn w' TT (tSel tLit (ByteArray.mk #[97])) (a.tmps.getD 21 undef) := hd 18 (by kernel_rfl)
    obtain ⟨v21, e21⟩ : ∃ v, a.tmps.getD 21 undef = v := ⟨_, rfl⟩
    rw [e21] at p21
    have e21' := getD_q e21
    refine rop_call (d := 22) (o := _) rfl rfl (wanted_of rfl rfl hg) (f := 16) (args := #[v21]) (by go_simp) ?_
    exact branch_tree (tSel tLit (ByteArray.mk #[97])) _ w' p21
  · intro a w' hb hr hd
    clear hHeld
    have hg : a.tmps.getD 19 undef = .bool true := hd 16 (by kernel_rfl)
    have p22 : NIn w' TT (tBranch (tSel tLit (ByteArray.mk #[97]))) (a.tmps.getD 22 undef) := hd 19 (by kernel_rfl)
    obtain ⟨v22, e22⟩ : ∃ v, a.tmps.getD 22 undef = v := ⟨_, rfl⟩
    rw [e22] at p22
    have e22' := getD_q e22
    refine rop_call (d := 23) (o := _) rfl rfl (wanted_of rfl rfl hg) (f := 15) (args := #[v22]) (by go_simp) ?_
    refine (no_any HR.out 600 (tBranch (tSel tLit (ByteArray.mk #[97]))) _ w' (HR.out.keepF _ _ HW.out (HB1.out.trans ((below_drew hb).mono HB1.out.size))) (fit_of HO.out (by kernel_rfl)) p22 true (by kernel_rfl)).mono ?_
    rintro e w'' ⟨rfl, hb'⟩
    exact ⟨_, rfl, rfl, hb'⟩
  · intro a w' hb hr hd
    clear hHeld
    have e19 : a.tmps.getD 19 undef = .bool true := hd 16 (by kernel_rfl)
    have e19' := getD_q e19
    have e23 : a.tmps.getD 23 undef = .bool true := hd 20 (by kernel_rfl)
    have e23' := getD_q e23
    exact rop_val (d := 24) (o := _) rfl rfl rfl (v := .bool true) (w' := w') (by go_simp) rfl (Below.refl _ _)
  · intro a w' hb hr hd
    clear hHeld
    have e24 : a.tmps.getD 24 undef = .bool true := hd 21 (by kernel_rfl)
    have e24' := getD_q e24
    exact rop_val (d := 25) (o := _) rfl rfl rfl (v := .bool true) (w' := w') (by go_simp) rfl (Below.refl _ _)
  · intro a w' hb hr hd
    clear hHeld
    have hg : a.tmps.getD 25 undef = .bool true := hd 22 (by kernel_rfl)
    refine rop_call (d := 26) (o := _) rfl rfl (wanted_of rfl rfl hg) (f := 18) (args := #[]) (by go_simp) ?_
    exact lit_tree w'
  · intro a w' hb hr hd
    clear hHeld
    have hg : a.tmps.getD 25 undef = .bool true := hd 22 (by kernel_rfl)
    have p26 : NIn w' TT tLit (a.tmps.getD 26 undef) := hd 23 (by kernel_rfl)
    obtain ⟨v26, e26⟩ : ∃ v, a.tmps.getD 26 undef = v := ⟨_, rfl⟩
    rw [e26] at p26
    have e26' := getD_q e26
    refine rop_call (d := 27) (o := _) rfl rfl (wanted_of rfl rfl hg) (f := 19) (args := #[v26]) (by go_simp) ?_
    exact paren_tree tLit _ w' p26
  · intro a w' hb hr hd
    clear hHeld
    have hg : a.tmps.getD 25 undef = .bool true := hd 22 (by kernel_rfl)
    have p27 : NIn w' TT (tParen tLit) (a.tmps.getD 27 undef) := hd 24 (by kernel_rfl)
    obtain ⟨v27, e27⟩ : ∃ v, a.tmps.getD 27 undef = v := ⟨_, rfl⟩
    rw [e27] at p27
    have e27' := getD_q e27
    refine rop_call (d := 28) (o := _) rfl rfl (wanted_of rfl rfl hg) (f := 17) (args := #[v27, .string (ByteArray.mk #[97])]) (by go_simp) ?_
    exact sel_tree (ByteArray.mk #[97]) (tParen tLit) _ w' p27
  · intro a w' hb hr hd
    clear hHeld
    have hg : a.tmps.getD 25 undef = .bool true := hd 22 (by kernel_rfl)
    have p28 : NIn w' TT (tSel (tParen tLit) (ByteArray.mk #[97])) (a.tmps.getD 28 undef) := hd 25 (by kernel_rfl)
    obtain ⟨v28, e28⟩ : ∃ v, a.tmps.getD 28 undef = v := ⟨_, rfl⟩
    rw [e28] at p28
    have e28' := getD_q e28
    refine rop_call (d := 29) (o := _) rfl rfl (wanted_of rfl rfl hg) (f := 16) (args := #[v28]) (by go_simp) ?_
    exact branch_tree (tSel (tParen tLit) (ByteArray.mk #[97])) _ w' p28
  · intro a w' hb hr hd
    clear hHeld
    have hg : a.tmps.getD 25 undef = .bool true := hd 22 (by kernel_rfl)
    have p29 : NIn w' TT (tBranch (tSel (tParen tLit) (ByteArray.mk #[97]))) (a.tmps.getD 29 undef) := hd 26 (by kernel_rfl)
    obtain ⟨v29, e29⟩ : ∃ v, a.tmps.getD 29 undef = v := ⟨_, rfl⟩
    rw [e29] at p29
    have e29' := getD_q e29
    refine rop_call (d := 30) (o := _) rfl rfl (wanted_of rfl rfl hg) (f := 12) (args := #[v29]) (by go_simp) ?_
    refine (may_any HR.out 600 (tBranch (tSel (tParen tLit) (ByteArray.mk #[97]))) _ w' (HR.out.keepF _ _ HW.out (HB1.out.trans ((below_drew hb).mono HB1.out.size))) (fit_of HO.out (by kernel_rfl)) p29 true (by kernel_rfl)).mono ?_
    rintro e w'' ⟨rfl, hb'⟩
    exact ⟨_, rfl, rfl, hb'⟩
  · intro a w' hb hr hd
    clear hHeld
    have e25 : a.tmps.getD 25 undef = .bool true := hd 22 (by kernel_rfl)
    have e25' := getD_q e25
    have e30 : a.tmps.getD 30 undef = .bool true := hd 27 (by kernel_rfl)
    have e30' := getD_q e30
    exact rop_val (d := 31) (o := _) rfl rfl rfl (v := .bool true) (w' := w') (by go_simp) rfl (Below.refl _ _)
  · intro a w' hb hr hd
    clear hHeld
    have e31 : a.tmps.getD 31 undef = .bool true := hd 28 (by kernel_rfl)
    have e31' := getD_q e31
    exact rop_val (d := 32) (o := _) rfl rfl rfl (v := .bool true) (w' := w') (by go_simp) rfl (Below.refl _ _)
  · intro a w' hb hr hd
    clear hHeld
    have hg : a.tmps.getD 32 undef = .bool true := hd 29 (by kernel_rfl)
    refine rop_call (d := 33) (o := _) rfl rfl (wanted_of rfl rfl hg) (f := 20) (args := #[.slice none 0 0]) (by go_simp) ?_
    exact body_tree [] none 0 w' (fun h => by cases h) (Nat.le_refl _)
  · intro a w' hb hr hd
    clear hHeld
    have hg : a.tmps.getD 32 undef = .bool true := hd 29 (by kernel_rfl)
    have p33 : NIn w' TT (tBody []) (a.tmps.getD 33 undef) := hd 30 (by kernel_rfl)
    obtain ⟨v33, e33⟩ : ∃ v, a.tmps.getD 33 undef = v := ⟨_, rfl⟩
    rw [e33] at p33
    have e33' := getD_q e33
    refine rop_call (d := 34) (o := _) rfl rfl (wanted_of rfl rfl hg) (f := 8) (args := #[v33]) (by go_simp) ?_
    refine (depth_any 100 (tBody []) _ w' (by decide) (by decide) p33).mono ?_
    rintro e w'' ⟨rfl, hb'⟩
    exact ⟨_, rfl, (by rw [show depth (tBody []) = 3 from by kernel_rfl]; rfl), hb'⟩
  · intro a w' hb hr hd
    clear hHeld
    have hg : a.tmps.getD 32 undef = .bool true := hd 29 (by kernel_rfl)
    have e34 : a.tmps.getD 34 undef = .int .i64 3 := hd 31 (by kernel_rfl)
    have e34' := getD_q e34
    exact rop_val (d := 35) (o := _) rfl rfl (wanted_of rfl rfl hg) (v := .bool true) (w' := w') (by go_simp) rfl (Below.refl _ _)
  · intro a w' hb hr hd
    clear hHeld
    have e32 : a.tmps.getD 32 undef = .bool true := hd 29 (by kernel_rfl)
    have e32' := getD_q e32
    have e35 : a.tmps.getD 35 undef = .bool true := hd 32 (by kernel_rfl)
    have e35' := getD_q e35
    exact rop_val (d := 36) (o := _) rfl rfl rfl (v := .bool true) (w' := w') (by go_simp) rfl (Below.refl _ _)
  · intro a w' hb hr hd
    clear hHeld
    have e36 : a.tmps.getD 36 undef = .bool true := hd 33 (by kernel_rfl)
    have e36' := getD_q e36
    exact rop_val (d := 37) (o := _) rfl rfl rfl (v := .bool true) (w' := w') (by go_simp) rfl (Below.refl _ _)
  · intro a w' hb hr hd
    have hg : a.tmps.getD 37 undef = .bool true := hd 34 (by kernel_rfl)
    have e1 : a.tmps.getD 1 undef = .pointer (some ⟨N, 0, none⟩) := hr 1 (by kernel_rfl)
    have e1' := getD_q e1
    have hc0 := cell_kept hHeld.1 rfl hb
    have hc1 := cell_kept hHeld.2.1 rfl hb
    have hc2 := cell_kept hHeld.2.2.1 rfl hb
    have hc3 := cell_kept hHeld.2.2.2.1 rfl hb
    have hc4 := cell_kept hHeld.2.2.2.2.1 rfl hb
    have hc5 := cell_kept hHeld.2.2.2.2.2 rfl hb
    exact rop_val (d := 38) (o := _) rfl rfl (wanted_of rfl rfl hg) (v := .agg #[.int .i64 25, .int .i64 0, .int .i64 0, .int .i64 0, .string ⟨#[120]⟩, .slice none 0 0]) (w' := w') (by go_simp) rfl (Below.refl _ _)
  · intro a w' hb hr hd
    clear hHeld
    have hg : a.tmps.getD 37 undef = .bool true := hd 34 (by kernel_rfl)
    refine rop_call (d := 39) (o := _) rfl rfl (wanted_of rfl rfl hg) (f := 11) (args := #[.string (ByteArray.mk #[120])]) (by go_simp) ?_
    refine (name_val (ByteArray.mk #[120]) w').mono ?_
    rintro e w'' ⟨rfl, hb'⟩
    exact ⟨_, rfl, rfl, hb'⟩
  · intro a w' hb hr hd
    clear hHeld
    have hg : a.tmps.getD 37 undef = .bool true := hd 34 (by kernel_rfl)
    have e38 : a.tmps.getD 38 undef = .agg #[.int .i64 25, .int .i64 0, .int .i64 0, .int .i64 0, .string ⟨#[120]⟩, .slice none 0 0] := hd 35 (by kernel_rfl)
    have p38 : NIn w' TT (tName ⟨#[120]⟩) (.agg #[.int .i64 25, .int .i64 0, .int .i64 0, .int .i64 0, .string ⟨#[120]⟩, .slice none 0 0]) := nin_leaf w' 25 ⟨#[120]⟩
    have e38' := getD_q e38
    have e39 : a.tmps.getD 39 undef = .agg #[.int .i64 25, .int .i64 0, .int .i64 0, .int .i64 0, .string ⟨#[120]⟩, .slice none 0 0] := hd 36 (by kernel_rfl)
    have p39 : NIn w' TT (tName ⟨#[120]⟩) (.agg #[.int .i64 25, .int .i64 0, .int .i64 0, .int .i64 0, .string ⟨#[120]⟩, .slice none 0 0]) := nin_leaf w' 25 ⟨#[120]⟩
    have e39' := getD_q e39
    refine rop_call (d := 40) (o := _) rfl rfl (wanted_of rfl rfl hg) (f := 7) (args := #[.agg #[.int .i64 25, .int .i64 0, .int .i64 0, .int .i64 0, .string ⟨#[120]⟩, .slice none 0 0], .agg #[.int .i64 25, .int .i64 0, .int .i64 0, .int .i64 0, .string ⟨#[120]⟩, .slice none 0 0]]) (by go_simp) ?_
    refine (same_any 100 (tName ⟨#[120]⟩) (tName ⟨#[120]⟩) _ _ w' (by decide) (by decide) (by decide) p38 p39).mono ?_
    rintro e w'' ⟨rfl, hb'⟩
    exact ⟨_, rfl, (by rw [show sameN (tName ⟨#[120]⟩) (tName ⟨#[120]⟩) = true from by kernel_rfl]; rfl), hb'⟩
  · intro a w' hb hr hd
    clear hHeld
    have e37 : a.tmps.getD 37 undef = .bool true := hd 34 (by kernel_rfl)
    have e37' := getD_q e37
    have e40 : a.tmps.getD 40 undef = .bool true := hd 37 (by kernel_rfl)
    have e40' := getD_q e40
    exact rop_val (d := 41) (o := _) rfl rfl rfl (v := .bool true) (w' := w') (by go_simp) rfl (Below.refl _ _)
  · intro a w' hb hr hd
    clear hHeld
    have e41 : a.tmps.getD 41 undef = .bool true := hd 38 (by kernel_rfl)
    have e41' := getD_q e41
    exact rop_val (d := 0) (o := _) rfl rfl rfl (v := .bool true) (w' := w') (by go_simp) rfl (Below.refl _ _)
  · intro vs w' hb hφ
    have v39 : vs 39 = .bool true := hφ.2.2.2.2.2.2.2.2.2.2.2.2.2.2.2.2.2.2.2.2.2.2.2.2.2.2.2.2.2.2.2.2.2.2.2.2.1
    clear hHeld hφ
    simp only [setAll, dstOf, List.getElem?_toArray, List.getElem?_cons_zero, List.getElem?_cons_succ, Option.bind_some, Option.getD_some, List.setIfInBounds_toArray, List.set_cons_zero, List.set_cons_succ]
    rw [v39]
    go_wp2_with fail
    go_ret
    exact ⟨rfl, HB1.out.trans ((below_drew hb).mono HB1.out.size)⟩
end Go.Proofs.YtkpddjbdmjbefaaGreatDoor
