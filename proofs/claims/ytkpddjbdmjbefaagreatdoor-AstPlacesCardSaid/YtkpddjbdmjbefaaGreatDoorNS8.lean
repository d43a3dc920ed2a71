/-
  ast shapes: levels of expressions. (Written by wip/tools/genshape10.py.)
-/
import Derived.Test.YtkpddjbdmjbefaaGreatDoorNS2
namespace Go.Proofs.YtkpddjbdmjbefaaGreatDoor
open Go.RowKit
variable {tk : Int → ByteArray → Bool} {O : ByteArray → Prop} {FAC : World → Prop}
set_option maxRecDepth 100000 in
set_option maxHeartbeats 2000000 in
theorem level1_s (f : Nat) (keepF : ∀ w w', FAC w → Below w.heap.size w w' → FAC w') (Hlevel : ∀ W, FAC W → ∀ k : Int, Calls Tryz.prog 68 #[.int .i64 k] W fun e w' => ∃ v, e = .returned v ∧ FnV (DD O f) w' v (shp tk f (.level k)) ∧ Below W.heap.size W w') (Hoperand : SL FAC tk O f 78 .operand) (k : Int) (B : Nat) (n : Nd) (nv : Value) (w : World) (HFA0 : FAC w) (hF : Fit O (f + 1) 3 n) (hn : NIn w TT n nv) (hB : w.cell? ⟨B, 0, none⟩ = some (.int .i64 k)) : Calls Tryz.prog 75 #[nv, .pointer (some ⟨B, 0, none⟩)] w fun e w' => e = .returned (.bool (shp tk (f + 1) (.level k) n)) ∧ Below w.heap.size w w' := by
  skip
  obtain ⟨ia, ic, rfl, hcc, hk⟩ := hn.open
  have hb0 := Lib.hid (alloc_below w (.cells #[.int .i64 n.kind, .int .i64 n.fro, .int .i64 n.till, .int .i64 n.at', .string n.name, .slice ia n.kids.length ic] 24))
  have HSZ := Lib.hid hb0.out.size
  have HFA := Lib.hid (keepF _ _ HFA0 hb0.out)
  have HT := alloc_top w #[.int .i64 n.kind, .int .i64 n.fro, .int .i64 n.till, .int .i64 n.at', .string n.name, .slice ia n.kids.length ic] 24
  have HC0 := Lib.hid (six_cells HT)
  have HN := Lib.hid (NIn.shut (n := n) hcc (hk.below hb0.out))
  have HK := Lib.hid hF
  clear HT hk hn HFA0 hF hcc
  have HX0 := Lib.hid (cell_kept hB rfl hb0.out)
  clear hB
  by_cases h31 : n.kind = 31
  · have hkd := h31
    by_cases hkl : k ≤ lvl n.name
    · skip
      have HSH : Hid (shp tk (f + 1) (.level k) n = madeP n opB [oneP [shp tk f (.level (lvl n.name))], oneP [shp tk f (.level (lvl n.name + 1))]]) := Lib.hid (by rw [shp, hkd]; show (decide (k ≤ lvl n.name) && _) = _; rw [decide_eq_true hkl]; rfl)
      clear h31
      have HLV := Lib.hid (fun W => (levelOf_any n.name W).mono (R' := fun e w' => e = .returned (.int .i64 (lvl n.name)) ∧ Below W.heap.size W w') (by rintro e w' ⟨rfl, rfl⟩; exact ⟨rfl, Below.refl _ _⟩))
      have hLb := lvl_bound n.name
      generalize hLL : lvl n.name = L at *
      have hw1 : IntKind.i64.wrap (L + 1) = L + 1 := IntWalk.i64_in _ (by omega)
      clear hLL
      generalize hNN : w.heap.size = N at *
      generalize n.kind = kd at *
      subst hkd
      go_enter Tryz.func75, Tryz.ntmps75
      go_wp2_with fail
      clear hNN
      generalize (w.alloc (.cells #[.int .i64 31, .int .i64 n.fro, .int .i64 n.till, .int .i64 n.at', .string n.name, .slice ia n.kids.length ic] 24)) = w1 at *
      have HB0 := Lib.hid (Below.refl w1.heap.size w1)
      refine (HLV.out _).mono ?_
      rintro e w' ⟨rfl, hb⟩
      have HB1 := Lib.hid (HB0.out.trans (hb.mono HB0.out.size))
      clear hb
      obtain ⟨k0, k1, k2, k3, k4, k5⟩ := six_keep HC0.out HB1.out
      have kx0 := cell_kept HX0.out rfl HB1.out
      go_wp2_with fail
      clear k0 k1 k2 k3 k4 k5 kx0
      refine wp_region_held_drew (S := fun w' => w'.cell? ⟨N, 0, none⟩ = some (.int .i64 31) ∧ w'.cell? ⟨N, 1, none⟩ = some (.int .i64 n.fro) ∧ w'.cell? ⟨N, 2, none⟩ = some (.int .i64 n.till) ∧ w'.cell? ⟨N, 3, none⟩ = some (.int .i64 n.at') ∧ w'.cell? ⟨N, 4, none⟩ = some (.string n.name) ∧ w'.cell? ⟨N, 5, none⟩ = some (.slice ia n.kids.length ic) ∧ w'.cell? ⟨B, 0, none⟩ = some (.int .i64 k)) (by kernel_rfl) ⟨(six_keep HC0.out HB1.out.drew).1, (six_keep HC0.out HB1.out.drew).2.1, (six_keep HC0.out HB1.out.drew).2.2.1, (six_keep HC0.out HB1.out.drew).2.2.2.1, (six_keep HC0.out HB1.out.drew).2.2.2.2.1, (six_keep HC0.out HB1.out.drew).2.2.2.2.2, cell_kept HX0.out rfl HB1.out.drew⟩ (fun hHeld => ?_)
      refine wpAnyH_take (i := 0) (oi := ⟨some 12, _, _, _, _, _⟩) (v := ?_) rfl (by kernel_rfl) (by kernel_rfl) (by kernel_rfl) (fun _ _ _ h => h) (Or.inl ⟨by rfl, ?_⟩) hHeld ?_
      rotate_left
      · (intro W hSW; (try dsimp only at hSW); go_simp; first | done | with_reducible rfl)
      try simp only [Act.put, List.setIfInBounds_toArray, List.set_cons_zero, List.set_cons_succ]
      refine wpAnyH_take (i := 1) (oi := ⟨some 13, _, _, _, _, _⟩) (v := ?_) rfl (by kernel_rfl) (by kernel_rfl) (by kernel_rfl) (fun _ _ _ h => h) (Or.inl ⟨by rfl, ?_⟩) hHeld ?_
      rotate_left
      · (intro W hSW; (try dsimp only at hSW); go_simp; first | done | with_reducible rfl)
      try simp only [Act.put, List.setIfInBounds_toArray, List.set_cons_zero, List.set_cons_succ]
      refine wpAnyH_take (i := 2) (oi := ⟨some 14, _, _, _, _, _⟩) (v := ?_) rfl (by kernel_rfl) (by kernel_rfl) (by kernel_rfl) (fun _ _ _ h => h) (Or.inl ⟨by rfl, ?_⟩) hHeld ?_
      rotate_left
      · (intro W hSW; (try dsimp only at hSW); go_simp; first | done | with_reducible rfl)
      try simp only [Act.put, List.setIfInBounds_toArray, List.set_cons_zero, List.set_cons_succ]
      refine wpAnyH_take (i := 3) (oi := ⟨some 15, _, _, _, _, _⟩) (v := ?_) rfl (by kernel_rfl) (by kernel_rfl) (by kernel_rfl) (fun _ _ _ h => h) (Or.inl ⟨by rfl, ?_⟩) hHeld ?_
      rotate_left
      · (intro W hSW; (try dsimp only at hSW); go_simp; first | done | with_reducible rfl)
      try simp only [Act.put, List.setIfInBounds_toArray, List.set_cons_zero, List.set_cons_succ]
      refine wpAnyH_take (i := 4) (oi := ⟨some 16, _, _, _, _, _⟩) (v := ?_) rfl (by kernel_rfl) (by kernel_rfl) (by kernel_rfl) (fun _ _ _ h => h) (Or.inl ⟨by rfl, ?_⟩) hHeld ?_
      rotate_left
      · (intro W hSW; (try dsimp only at hSW); go_simp; first | done | with_reducible rfl)
      try simp only [Act.put, List.setIfInBounds_toArray, List.set_cons_zero, List.set_cons_succ]
      refine wpAnyH_take (i := 5) (oi := ⟨some 17, _, _, _, _, _⟩) (v := ?_) rfl (by kernel_rfl) (by kernel_rfl) (by kernel_rfl) (fun _ _ _ h => h) (Or.inl ⟨by rfl, ?_⟩) hHeld ?_
      rotate_left
      · (intro W hSW; (try dsimp only at hSW); go_simp; first | done | with_reducible rfl)
      try simp only [Act.put, List.setIfInBounds_toArray, List.set_cons_zero, List.set_cons_succ]
      refine wpAnyH_take (i := 9) (oi := ⟨some 21, _, _, _, _, _⟩) (v := ?_) rfl (by kernel_rfl) (by kernel_rfl) (by kernel_rfl) (fun _ _ _ h => h) (Or.inl ⟨by rfl, ?_⟩) hHeld ?_
      rotate_left
      · (intro W hSW; (try dsimp only at hSW); go_simp; first | done | with_reducible rfl)
      try simp only [Act.put, List.setIfInBounds_toArray, List.set_cons_zero, List.set_cons_succ]
      refine wpAnyH_take (i := 10) (oi := ⟨some 22, _, _, _, _, _⟩) (v := ?_) rfl (by kernel_rfl) (by kernel_rfl) (by kernel_rfl) (fun _ _ _ h => h) (Or.inl ⟨by rfl, ?_⟩) hHeld ?_
      rotate_left
      · (intro W hSW; (try dsimp only at hSW); go_simp; first | done | with_reducible rfl)
      try simp only [Act.put, List.setIfInBounds_toArray, List.set_cons_zero, List.set_cons_succ]
      refine region_left (todo := [6, 7, 8, 11, 12, 13, 14, 15, 16, 17]) (φ := fun i => Sp.holds (DD O f) O (match i with | 6 => .fn (shp tk f (.level L)) | 7 => .frow [(shp tk f (.level L))] | 8 => .pt (oneP [(shp tk f (.level L))]) | 11 => .fn (shp tk f (.level (L + 1))) | 12 => .frow [(shp tk f (.level (L + 1)))] | 13 => .pt (oneP [(shp tk f (.level (L + 1)))]) | 14 => .prow [(oneP [(shp tk f (.level L))]), (oneP [(shp tk f (.level (L + 1)))])] | 15 => .c (.bool (madeP n opB [(oneP [(shp tk f (.level L))]), (oneP [(shp tk f (.level (L + 1)))])])) | 16 => .c (.bool (madeP n opB [(oneP [(shp tk f (.level L))]), (oneP [(shp tk f (.level (L + 1)))])])) | 17 => .c (.bool (madeP n opB [(oneP [(shp tk f (.level L))]), (oneP [(shp tk f (.level (L + 1)))])])) | _ => .any)) (by kernel_rfl) (fun i w w' v h hb => Sp.mono _ _ _ h hb) ?_ ⟨?_, ?_, ?_, ?_, ?_, ?_, ?_, ?_, ?_, ?_, trivial⟩ ?_
      · exact fun w' hb => ⟨cell_kept hHeld.1 rfl hb, cell_kept hHeld.2.1 rfl hb, cell_kept hHeld.2.2.1 rfl hb, cell_kept hHeld.2.2.2.1 rfl hb, cell_kept hHeld.2.2.2.2.1 rfl hb, cell_kept hHeld.2.2.2.2.2.1 rfl hb, cell_kept hHeld.2.2.2.2.2.2 rfl hb⟩
      · intro a w' hb hr hd
        clear hHeld
        have hg : a.tmps.getD 15 undef = .bool true := hr 15 (by kernel_rfl)
        have e17 : a.tmps.getD 17 undef = .int .i64 L := hr 17 (by kernel_rfl)
        have e17' := getD_q e17
        refine rop_call (d := 18) (o := _) rfl rfl (wanted_of rfl rfl hg) (f := 68) (args := #[.int .i64 L]) (by go_simp) ?_
        exact Hlevel w' (keepF _ _ HFA.out (HB1.out.trans ((below_drew hb).mono HB1.out.size))) L
      · intro a w' hb hr hd
        clear hHeld
        have hg : a.tmps.getD 15 undef = .bool true := hr 15 (by kernel_rfl)
        have p18 : FnV (DD O f) w' (a.tmps.getD 18 undef) (shp tk f (.level L)) := hd 6 (by kernel_rfl)
        obtain ⟨g18, cap18, e18, r18⟩ := id p18
        rw [e18] at p18
        have e18' := getD_q e18
        refine rop_val (d := 19) (o := _) rfl rfl (wanted_of rfl rfl hg) (v := .slice (some ⟨w'.heap.size, 0, none⟩) 1 1) (w' := w'.alloc (.cells #[.func (.func g18) #[] cap18] 53)) (by go_simp) ?_ (alloc_below _ _)
        exact ⟨_, _, rfl, frow_of ⟨p18, trivial⟩⟩
      · intro a w' hb hr hd
        clear hHeld
        have hg : a.tmps.getD 15 undef = .bool true := hr 15 (by kernel_rfl)
        obtain ⟨A19, c19, e19, q19⟩ := hd 7 (by kernel_rfl)
        have e19 : a.tmps.getD 19 undef = .slice A19 1 c19 := e19
        have e19' := getD_q e19
        refine rop_call (d := 20) (o := _) rfl rfl (wanted_of rfl rfl hg) (f := 41) (args := #[.slice A19 1 c19]) (by go_simp) ?_
        exact one_any w' q19 (by simp) (by simp)
      · intro a w' hb hr hd
        clear hHeld
        have hg : a.tmps.getD 15 undef = .bool true := hr 15 (by kernel_rfl)
        have e22 : a.tmps.getD 22 undef = .int .i64 (L + 1) := hr 22 (by kernel_rfl)
        have e22' := getD_q e22
        refine rop_call (d := 23) (o := _) rfl rfl (wanted_of rfl rfl hg) (f := 68) (args := #[.int .i64 (L + 1)]) (by go_simp) ?_
        exact Hlevel w' (keepF _ _ HFA.out (HB1.out.trans ((below_drew hb).mono HB1.out.size))) (L + 1)
      · intro a w' hb hr hd
        clear hHeld
        have hg : a.tmps.getD 15 undef = .bool true := hr 15 (by kernel_rfl)
        have p23 : FnV (DD O f) w' (a.tmps.getD 23 undef) (shp tk f (.level (L + 1))) := hd 11 (by kernel_rfl)
        obtain ⟨g23, cap23, e23, r23⟩ := id p23
        rw [e23] at p23
        have e23' := getD_q e23
        refine rop_val (d := 24) (o := _) rfl rfl (wanted_of rfl rfl hg) (v := .slice (some ⟨w'.heap.size, 0, none⟩) 1 1) (w' := w'.alloc (.cells #[.func (.func g23) #[] cap23] 53)) (by go_simp) ?_ (alloc_below _ _)
        exact ⟨_, _, rfl, frow_of ⟨p23, trivial⟩⟩
      · intro a w' hb hr hd
        clear hHeld
        have hg : a.tmps.getD 15 undef = .bool true := hr 15 (by kernel_rfl)
        obtain ⟨A24, c24, e24, q24⟩ := hd 12 (by kernel_rfl)
        have e24 : a.tmps.getD 24 undef = .slice A24 1 c24 := e24
        have e24' := getD_q e24
        refine rop_call (d := 25) (o := _) rfl rfl (wanted_of rfl rfl hg) (f := 41) (args := #[.slice A24 1 c24]) (by go_simp) ?_
        exact one_any w' q24 (by simp) (by simp)
      · intro a w' hb hr hd
        clear hHeld
        have hg : a.tmps.getD 15 undef = .bool true := hr 15 (by kernel_rfl)
        have p20 : PtV (DD O f) w' (a.tmps.getD 20 undef) (oneP [(shp tk f (.level L))]) := hd 8 (by kernel_rfl)
        obtain ⟨hs20, g20, cap20, e20, r20⟩ := id p20
        rw [e20] at p20
        have e20' := getD_q e20
        have p25 : PtV (DD O f) w' (a.tmps.getD 25 undef) (oneP [(shp tk f (.level (L + 1)))]) := hd 13 (by kernel_rfl)
        obtain ⟨hs25, g25, cap25, e25, r25⟩ := id p25
        rw [e25] at p25
        have e25' := getD_q e25
        refine rop_val (d := 26) (o := _) rfl rfl (wanted_of rfl rfl hg) (v := .slice (some ⟨w'.heap.size, 0, none⟩) 2 2) (w' := w'.alloc (.cells #[.func (.func g20) #[] cap20, .func (.func g25) #[] cap25] 45)) (by go_simp) ?_ (alloc_below _ _)
        exact ⟨_, _, rfl, prow_of ⟨p20, p25, trivial⟩⟩
      · intro a w' hb hr hd
        clear hHeld
        have hg : a.tmps.getD 15 undef = .bool true := hr 15 (by kernel_rfl)
        have e16 : a.tmps.getD 16 undef = .agg #[.int .i64 31, .int .i64 n.fro, .int .i64 n.till, .int .i64 n.at', .string n.name, .slice ia n.kids.length ic] := hr 16 (by kernel_rfl)
        have e16' := getD_q e16
        obtain ⟨A26, c26, e26, q26⟩ := hd 14 (by kernel_rfl)
        have e26 : a.tmps.getD 26 undef = .slice A26 2 c26 := e26
        have e26' := getD_q e26
        refine rop_call (d := 27) (o := _) rfl rfl (wanted_of rfl rfl hg) (f := 27) (args := #[.agg #[.int .i64 31, .int .i64 n.fro, .int .i64 n.till, .int .i64 n.at', .string n.name, .slice ia n.kids.length ic], .func (.func 77) #[] #[], .slice A26 2 c26]) (by go_simp) ?_
        refine (made_any (D := DD O f) (ps := [(oneP [(shp tk f (.level L))]), (oneP [(shp tk f (.level (L + 1)))])]) w' (nm_op O w') q26 HK.out.lim.2.2 HK.out.lim.1 HK.out.kid HK.out.lim.2.1 (by simp) (HN.out.below (HB1.out.trans ((below_drew hb).mono HB1.out.size)))).mono ?_
        rintro e w'' ⟨rfl, hb'⟩
        exact ⟨_, rfl, rfl, hb'⟩
      · intro a w' hb hr hd
        clear hHeld
        have e15 : a.tmps.getD 15 undef = .bool true := hr 15 (by kernel_rfl)
        have e15' := getD_q e15
        have e27 : a.tmps.getD 27 undef = .bool (madeP n opB [(oneP [(shp tk f (.level L))]), (oneP [(shp tk f (.level (L + 1)))])]) := hd 15 (by kernel_rfl)
        have e27' := getD_q e27
        exact rop_val (d := 28) (o := _) rfl rfl rfl (v := .bool (madeP n opB [(oneP [(shp tk f (.level L))]), (oneP [(shp tk f (.level (L + 1)))])])) (w' := w') (by go_simp) rfl (Below.refl _ _)
      · intro a w' hb hr hd
        clear hHeld
        have e28 : a.tmps.getD 28 undef = .bool (madeP n opB [(oneP [(shp tk f (.level L))]), (oneP [(shp tk f (.level (L + 1)))])]) := hd 16 (by kernel_rfl)
        have e28' := getD_q e28
        exact rop_val (d := 3) (o := _) rfl rfl rfl (v := .bool (madeP n opB [(oneP [(shp tk f (.level L))]), (oneP [(shp tk f (.level (L + 1)))])])) (w' := w') (by go_simp) rfl (Below.refl _ _)
      · intro vs w' hb hφ
        have v15 : vs 15 = .bool (madeP n opB [(oneP [(shp tk f (.level L))]), (oneP [(shp tk f (.level (L + 1)))])]) := hφ.2.2.2.2.2.2.2.1
        have v16 : vs 16 = .bool (madeP n opB [(oneP [(shp tk f (.level L))]), (oneP [(shp tk f (.level (L + 1)))])]) := hφ.2.2.2.2.2.2.2.2.1
        have v17 : vs 17 = .bool (madeP n opB [(oneP [(shp tk f (.level L))]), (oneP [(shp tk f (.level (L + 1)))])]) := hφ.2.2.2.2.2.2.2.2.2.1
        clear hHeld hφ
        simp only [setAll, dstOf, List.getElem?_toArray, List.getElem?_cons_zero, List.getElem?_cons_succ, Option.bind_some, Option.getD_some, List.setIfInBounds_toArray, List.set_cons_zero, List.set_cons_succ]
        rw [v15, v16, v17]
        have HB2 := Lib.hid (HB1.out.trans ((below_drew hb).mono HB1.out.size))
        clear hb
        obtain ⟨k0, k1, k2, k3, k4, k5⟩ := six_keep HC0.out HB2.out
        have kx0 := cell_kept HX0.out rfl HB2.out
        go_wp2_with fail
        clear k0 k1 k2 k3 k4 k5 kx0
        go_ret
        exact ⟨by rw [HSH.out]; rfl, hb0.out.trans (HB2.out.mono HSZ.out)⟩
    · skip
      have HSH : Hid (shp tk (f + 1) (.level k) n = false) := Lib.hid (by rw [shp, hkd]; show (decide (k ≤ lvl n.name) && _) = _; rw [decide_eq_false hkl]; rfl)
      clear h31
      have HLV := Lib.hid (fun W => (levelOf_any n.name W).mono (R' := fun e w' => e = .returned (.int .i64 (lvl n.name)) ∧ Below W.heap.size W w') (by rintro e w' ⟨rfl, rfl⟩; exact ⟨rfl, Below.refl _ _⟩))
      have hLb := lvl_bound n.name
      generalize hLL : lvl n.name = L at *
      have hw1 : IntKind.i64.wrap (L + 1) = L + 1 := IntWalk.i64_in _ (by omega)
      clear hLL
      have hkn : decide (k ≤ L) = false := decide_eq_false hkl
      generalize hNN : w.heap.size = N at *
      generalize n.kind = kd at *
      subst hkd
      go_enter Tryz.func75, Tryz.ntmps75
      go_wp2_with fail
      clear hNN
      generalize (w.alloc (.cells #[.int .i64 31, .int .i64 n.fro, .int .i64 n.till, .int .i64 n.at', .string n.name, .slice ia n.kids.length ic] 24)) = w1 at *
      have HB0 := Lib.hid (Below.refl w1.heap.size w1)
      refine (HLV.out _).mono ?_
      rintro e w' ⟨rfl, hb⟩
      have HB1 := Lib.hid (HB0.out.trans (hb.mono HB0.out.size))
      clear hb
      obtain ⟨k0, k1, k2, k3, k4, k5⟩ := six_keep HC0.out HB1.out
      have kx0 := cell_kept HX0.out rfl HB1.out
      go_wp2_with fail
      clear k0 k1 k2 k3 k4 k5 kx0
      obtain ⟨k0, k1, k2, k3, k4, k5⟩ := six_keep HC0.out HB1.out
      have kx0 := cell_kept HX0.out rfl HB1.out
      go_quiet (fail)
      have HB2 := Lib.hid (drewN_belowA HB1.out nq)
      go_wp2_with fail
      clear k0 k1 k2 k3 k4 k5 kx0
      go_ret
      exact ⟨by rw [HSH.out]; rfl, hb0.out.trans (HB2.out.mono HSZ.out)⟩
  · by_cases h30 : n.kind = 30
    · have hkd := h30
      by_cases hkl : k ≤ 6
      · skip
        have HSH : Hid (shp tk (f + 1) (.level k) n = madeP n (fun s => [(ByteArray.mk #[45]), (ByteArray.mk #[33])].any fun x => decide (x = s)) [oneP [shp tk f (.level 6)]]) := Lib.hid (by rw [shp, hkd]; show (decide (k ≤ 6) && madeP n (wdB [[45], [33]]) _) = _; rw [decide_eq_true hkl, ← wd_eq]; rfl)
        clear h30 h31
        generalize hNN : w.heap.size = N at *
        generalize n.kind = kd at *
        subst hkd
        go_enter Tryz.func75, Tryz.ntmps75
        go_wp2_with fail
        clear hNN
        generalize (w.alloc (.cells #[.int .i64 30, .int .i64 n.fro, .int .i64 n.till, .int .i64 n.at', .string n.name, .slice ia n.kids.length ic] 24)) = w1 at *
        have HB0 := Lib.hid (Below.refl w1.heap.size w1)
        refine wp_region_held_drew (S := fun w' => w'.cell? ⟨N, 0, none⟩ = some (.int .i64 30) ∧ w'.cell? ⟨N, 1, none⟩ = some (.int .i64 n.fro) ∧ w'.cell? ⟨N, 2, none⟩ = some (.int .i64 n.till) ∧ w'.cell? ⟨N, 3, none⟩ = some (.int .i64 n.at') ∧ w'.cell? ⟨N, 4, none⟩ = some (.string n.name) ∧ w'.cell? ⟨N, 5, none⟩ = some (.slice ia n.kids.length ic) ∧ w'.cell? ⟨B, 0, none⟩ = some (.int .i64 k)) (by kernel_rfl) ⟨(six_keep HC0.out HB0.out.drew).1, (six_keep HC0.out HB0.out.drew).2.1, (six_keep HC0.out HB0.out.drew).2.2.1, (six_keep HC0.out HB0.out.drew).2.2.2.1, (six_keep HC0.out HB0.out.drew).2.2.2.2.1, (six_keep HC0.out HB0.out.drew).2.2.2.2.2, cell_kept HX0.out rfl HB0.out.drew⟩ (fun hHeld => ?_)
        refine wpAnyH_take (i := 0) (oi := ⟨some 31, _, _, _, _, _⟩) (v := ?_) rfl (by kernel_rfl) (by kernel_rfl) (by kernel_rfl) (fun _ _ _ h => h) (Or.inl ⟨by rfl, ?_⟩) hHeld ?_
        rotate_left
        · (intro W hSW; (try dsimp only at hSW); go_simp; first | done | with_reducible rfl)
        try simp only [Act.put, List.setIfInBounds_toArray, List.set_cons_zero, List.set_cons_succ]
        refine wpAnyH_take (i := 1) (oi := ⟨some 32, _, _, _, _, _⟩) (v := ?_) rfl (by kernel_rfl) (by kernel_rfl) (by kernel_rfl) (fun _ _ _ h => h) (Or.inl ⟨by rfl, ?_⟩) hHeld ?_
        rotate_left
        · (intro W hSW; (try dsimp only at hSW); go_simp; first | done | with_reducible rfl)
        try simp only [Act.put, List.setIfInBounds_toArray, List.set_cons_zero, List.set_cons_succ]
        refine wpAnyH_take (i := 2) (oi := ⟨some 33, _, _, _, _, _⟩) (v := ?_) rfl (by kernel_rfl) (by kernel_rfl) (by kernel_rfl) (fun _ _ _ h => h) (Or.inl ⟨by rfl, ?_⟩) hHeld ?_
        rotate_left
        · (intro W hSW; (try dsimp only at hSW); go_simp; first | done | with_reducible rfl)
        try simp only [Act.put, List.setIfInBounds_toArray, List.set_cons_zero, List.set_cons_succ]
        refine wpAnyH_take (i := 3) (oi := ⟨some 34, _, _, _, _, _⟩) (v := ?_) rfl (by kernel_rfl) (by kernel_rfl) (by kernel_rfl) (fun _ _ _ h => h) (Or.inl ⟨by rfl, ?_⟩) hHeld ?_
        rotate_left
        · (intro W hSW; (try dsimp only at hSW); go_simp; first | done | with_reducible rfl)
        try simp only [Act.put, List.setIfInBounds_toArray, List.set_cons_zero, List.set_cons_succ]
        refine region_left (todo := [4, 5, 6, 7, 8, 9, 10, 11, 12]) (φ := fun i => Sp.holds (DD O f) O (match i with | 4 => .wrow [(ByteArray.mk #[45]), (ByteArray.mk #[33])] | 5 => .nm (fun s => [(ByteArray.mk #[45]), (ByteArray.mk #[33])].any fun x => decide (x = s)) | 6 => .fn (shp tk f (.level 6)) | 7 => .frow [(shp tk f (.level 6))] | 8 => .pt (oneP [(shp tk f (.level 6))]) | 9 => .prow [(oneP [(shp tk f (.level 6))])] | 10 => .c (.bool (madeP n (fun s => [(ByteArray.mk #[45]), (ByteArray.mk #[33])].any fun x => decide (x = s)) [(oneP [(shp tk f (.level 6))])])) | 11 => .c (.bool (madeP n (fun s => [(ByteArray.mk #[45]), (ByteArray.mk #[33])].any fun x => decide (x = s)) [(oneP [(shp tk f (.level 6))])])) | 12 => .c (.bool (madeP n (fun s => [(ByteArray.mk #[45]), (ByteArray.mk #[33])].any fun x => decide (x = s)) [(oneP [(shp tk f (.level 6))])])) | _ => .any)) (by kernel_rfl) (fun i w w' v h hb => Sp.mono _ _ _ h hb) ?_ ⟨?_, ?_, ?_, ?_, ?_, ?_, ?_, ?_, ?_, trivial⟩ ?_
        · exact fun w' hb => ⟨cell_kept hHeld.1 rfl hb, cell_kept hHeld.2.1 rfl hb, cell_kept hHeld.2.2.1 rfl hb, cell_kept hHeld.2.2.2.1 rfl hb, cell_kept hHeld.2.2.2.2.1 rfl hb, cell_kept hHeld.2.2.2.2.2.1 rfl hb, cell_kept hHeld.2.2.2.2.2.2 rfl hb⟩
        · intro a w' hb hr hd
          clear hHeld
          have hg : a.tmps.getD 33 undef = .bool true := hr 33 (by kernel_rfl)
          refine rop_val (d := 35) (o := _) rfl rfl (wanted_of rfl rfl hg) (v := .slice (some ⟨w'.heap.size, 0, none⟩) 2 2) (w' := w'.alloc (.cells #[.string (ByteArray.mk #[45]), .string (ByteArray.mk #[33])] 9)) (by go_simp) ?_ (alloc_below _ _)
          exact ⟨_, _, rfl, wrow_of rfl⟩
        · intro a w' hb hr hd
          clear hHeld
          have hg : a.tmps.getD 33 undef = .bool true := hr 33 (by kernel_rfl)
          obtain ⟨A35, c35, e35, q35⟩ := hd 4 (by kernel_rfl)
          have e35 : a.tmps.getD 35 undef = .slice A35 2 c35 := e35
          have e35' := getD_q e35
          refine rop_call (d := 36) (o := _) rfl rfl (wanted_of rfl rfl hg) (f := 53) (args := #[.slice A35 2 c35]) (by go_simp) ?_
          exact isWord_any (O := O) [(ByteArray.mk #[45]), (ByteArray.mk #[33])] _ _ (by simp) w' q35
        · intro a w' hb hr hd
          clear hHeld
          have hg : a.tmps.getD 33 undef = .bool true := hr 33 (by kernel_rfl)
          refine rop_call (d := 37) (o := _) rfl rfl (wanted_of rfl rfl hg) (f := 68) (args := #[.int .i64 6]) (by go_simp) ?_
          exact Hlevel w' (keepF _ _ HFA.out (HB0.out.trans ((below_drew hb).mono HB0.out.size))) 6
        · intro a w' hb hr hd
          clear hHeld
          have hg : a.tmps.getD 33 undef = .bool true := hr 33 (by kernel_rfl)
          have p37 : FnV (DD O f) w' (a.tmps.getD 37 undef) (shp tk f (.level 6)) := hd 6 (by kernel_rfl)
          obtain ⟨g37, cap37, e37, r37⟩ := id p37
          rw [e37] at p37
          have e37' := getD_q e37
          refine rop_val (d := 38) (o := _) rfl rfl (wanted_of rfl rfl hg) (v := .slice (some ⟨w'.heap.size, 0, none⟩) 1 1) (w' := w'.alloc (.cells #[.func (.func g37) #[] cap37] 53)) (by go_simp) ?_ (alloc_below _ _)
          exact ⟨_, _, rfl, frow_of ⟨p37, trivial⟩⟩
        · intro a w' hb hr hd
          clear hHeld
          have hg : a.tmps.getD 33 undef = .bool true := hr 33 (by kernel_rfl)
          obtain ⟨A38, c38, e38, q38⟩ := hd 7 (by kernel_rfl)
          have e38 : a.tmps.getD 38 undef = .slice A38 1 c38 := e38
          have e38' := getD_q e38
          refine rop_call (d := 39) (o := _) rfl rfl (wanted_of rfl rfl hg) (f := 41) (args := #[.slice A38 1 c38]) (by go_simp) ?_
          exact one_any w' q38 (by simp) (by simp)
        · intro a w' hb hr hd
          clear hHeld
          have hg : a.tmps.getD 33 undef = .bool true := hr 33 (by kernel_rfl)
          have p39 : PtV (DD O f) w' (a.tmps.getD 39 undef) (oneP [(shp tk f (.level 6))]) := hd 8 (by kernel_rfl)
          obtain ⟨hs39, g39, cap39, e39, r39⟩ := id p39
          rw [e39] at p39
          have e39' := getD_q e39
          refine rop_val (d := 40) (o := _) rfl rfl (wanted_of rfl rfl hg) (v := .slice (some ⟨w'.heap.size, 0, none⟩) 1 1) (w' := w'.alloc (.cells #[.func (.func g39) #[] cap39] 45)) (by go_simp) ?_ (alloc_below _ _)
          exact ⟨_, _, rfl, prow_of ⟨p39, trivial⟩⟩
        · intro a w' hb hr hd
          clear hHeld
          have hg : a.tmps.getD 33 undef = .bool true := hr 33 (by kernel_rfl)
          have e34 : a.tmps.getD 34 undef = .agg #[.int .i64 30, .int .i64 n.fro, .int .i64 n.till, .int .i64 n.at', .string n.name, .slice ia n.kids.length ic] := hr 34 (by kernel_rfl)
          have e34' := getD_q e34
          have p36 : NmV O w' (a.tmps.getD 36 undef) (fun s => [(ByteArray.mk #[45]), (ByteArray.mk #[33])].any fun x => decide (x = s)) := hd 5 (by kernel_rfl)
          obtain ⟨g36, cap36, e36, r36⟩ := id p36
          rw [e36] at p36
          have e36' := getD_q e36
          obtain ⟨A40, c40, e40, q40⟩ := hd 9 (by kernel_rfl)
          have e40 : a.tmps.getD 40 undef = .slice A40 1 c40 := e40
          have e40' := getD_q e40
          refine rop_call (d := 41) (o := _) rfl rfl (wanted_of rfl rfl hg) (f := 27) (args := #[.agg #[.int .i64 30, .int .i64 n.fro, .int .i64 n.till, .int .i64 n.at', .string n.name, .slice ia n.kids.length ic], .func (.func g36) #[] cap36, .slice A40 1 c40]) (by go_simp) ?_
          refine (made_any (D := DD O f) (ps := [(oneP [(shp tk f (.level 6))])]) w' p36 q40 HK.out.lim.2.2 HK.out.lim.1 HK.out.kid HK.out.lim.2.1 (by simp) (HN.out.below (HB0.out.trans ((below_drew hb).mono HB0.out.size)))).mono ?_
          rintro e w'' ⟨rfl, hb'⟩
          exact ⟨_, rfl, rfl, hb'⟩
        · intro a w' hb hr hd
          clear hHeld
          have e33 : a.tmps.getD 33 undef = .bool true := hr 33 (by kernel_rfl)
          have e33' := getD_q e33
          have e41 : a.tmps.getD 41 undef = .bool (madeP n (fun s => [(ByteArray.mk #[45]), (ByteArray.mk #[33])].any fun x => decide (x = s)) [(oneP [(shp tk f (.level 6))])]) := hd 10 (by kernel_rfl)
          have e41' := getD_q e41
          exact rop_val (d := 42) (o := _) rfl rfl rfl (v := .bool (madeP n (fun s => [(ByteArray.mk #[45]), (ByteArray.mk #[33])].any fun x => decide (x = s)) [(oneP [(shp tk f (.level 6))])])) (w' := w') (by go_simp) rfl (Below.refl _ _)
        · intro a w' hb hr hd
          clear hHeld
          have e42 : a.tmps.getD 42 undef = .bool (madeP n (fun s => [(ByteArray.mk #[45]), (ByteArray.mk #[33])].any fun x => decide (x = s)) [(oneP [(shp tk f (.level 6))])]) := hd 11 (by kernel_rfl)
          have e42' := getD_q e42
          exact rop_val (d := 3) (o := _) rfl rfl rfl (v := .bool (madeP n (fun s => [(ByteArray.mk #[45]), (ByteArray.mk #[33])].any fun x => decide (x = s)) [(oneP [(shp tk f (.level 6))])])) (w' := w') (by go_simp) rfl (Below.refl _ _)
        · intro vs w' hb hφ
          have v10 : vs 10 = .bool (madeP n (fun s => [(ByteArray.mk #[45]), (ByteArray.mk #[33])].any fun x => decide (x = s)) [(oneP [(shp tk f (.level 6))])]) := hφ.2.2.2.2.2.2.1
          have v11 : vs 11 = .bool (madeP n (fun s => [(ByteArray.mk #[45]), (ByteArray.mk #[33])].any fun x => decide (x = s)) [(oneP [(shp tk f (.level 6))])]) := hφ.2.2.2.2.2.2.2.1
          have v12 : vs 12 = .bool (madeP n (fun s => [(ByteArray.mk #[45]), (ByteArray.mk #[33])].any fun x => decide (x = s)) [(oneP [(shp tk f (.level 6))])]) := hφ.2.2.2.2.2.2.2.2.1
          clear hHeld hφ
          simp only [setAll, dstOf, List.getElem?_toArray, List.getElem?_cons_zero, List.getElem?_cons_succ, Option.bind_some, Option.getD_some, List.setIfInBounds_toArray, List.set_cons_zero, List.set_cons_succ]
          rw [v10, v11, v12]
          have HB1 := Lib.hid (HB0.out.trans ((below_drew hb).mono HB0.out.size))
          clear hb
          obtain ⟨k0, k1, k2, k3, k4, k5⟩ := six_keep HC0.out HB1.out
          have kx0 := cell_kept HX0.out rfl HB1.out
          go_wp2_with fail
          clear k0 k1 k2 k3 k4 k5 kx0
          go_ret
          exact ⟨by rw [HSH.out]; rfl, hb0.out.trans (HB1.out.mono HSZ.out)⟩
      · skip
        have HSH : Hid (shp tk (f + 1) (.level k) n = false) := Lib.hid (by rw [shp, hkd]; show (decide (k ≤ 6) && _) = _; rw [decide_eq_false hkl]; rfl)
        clear h30 h31
        have hkn : decide (k ≤ 6) = false := decide_eq_false hkl
        generalize hNN : w.heap.size = N at *
        generalize n.kind = kd at *
        subst hkd
        go_enter Tryz.func75, Tryz.ntmps75
        go_wp2_with fail
        clear hNN
        generalize (w.alloc (.cells #[.int .i64 30, .int .i64 n.fro, .int .i64 n.till, .int .i64 n.at', .string n.name, .slice ia n.kids.length ic] 24)) = w1 at *
        have HB0 := Lib.hid (Below.refl w1.heap.size w1)
        obtain ⟨k0, k1, k2, k3, k4, k5⟩ := six_keep HC0.out HB0.out
        have kx0 := cell_kept HX0.out rfl HB0.out
        go_quiet (fail)
        have HB1 := Lib.hid (drewN_belowA HB0.out nq)
        go_wp2_with fail
        clear k0 k1 k2 k3 k4 k5 kx0
        go_ret
        exact ⟨by rw [HSH.out]; rfl, hb0.out.trans (HB1.out.mono HSZ.out)⟩
    · skip
      have HSH : Hid (shp tk (f + 1) (.level k) n = shp tk f .operand n) := Lib.hid (by rw [shp]; simp only [if_neg h31, if_neg h30])
      have g31 : (n.kind == 31) = false := by simpa using h31
      have g30 : (n.kind == 30) = false := by simpa using h30
      have C199 := Lib.hid (fun (W : World) (hb : Below (w.alloc (.cells #[.int .i64 n.kind, .int .i64 n.fro, .int .i64 n.till, .int .i64 n.at', .string n.name, .slice ia n.kids.length ic] 24)).heap.size (w.alloc (.cells #[.int .i64 n.kind, .int .i64 n.fro, .int .i64 n.till, .int .i64 n.at', .string n.name, .slice ia n.kids.length ic] 24)) W) => Hoperand.cl n _ W (keepF _ _ HFA.out hb) (HK.out.same (by decide)) (HN.out.below hb))
      clear h30 h31
      generalize hNN : w.heap.size = N at *
      go_enter Tryz.func75, Tryz.ntmps75
      go_wp2_with fail
      clear hNN
      generalize (w.alloc (.cells #[.int .i64 n.kind, .int .i64 n.fro, .int .i64 n.till, .int .i64 n.at', .string n.name, .slice ia n.kids.length ic] 24)) = w1 at *
      have HB0 := Lib.hid (Below.refl w1.heap.size w1)
      refine (C199.out _ HB0.out).mono ?_
      rintro e w' ⟨rfl, hb⟩
      have HB1 := Lib.hid (HB0.out.trans (hb.mono HB0.out.size))
      clear hb
      obtain ⟨k0, k1, k2, k3, k4, k5⟩ := six_keep HC0.out HB1.out
      have kx0 := cell_kept HX0.out rfl HB1.out
      go_wp2_with fail
      clear k0 k1 k2 k3 k4 k5 kx0
      go_ret
      exact ⟨by rw [HSH.out]; rfl, hb0.out.trans (HB1.out.mono HSZ.out)⟩
set_option maxRecDepth 100000 in
theorem level_s (f : Nat) (hL : ∀ (k : Int) (B : Nat) (n : Nd) (nv : Value) (w : World), FAC w → Fit O f 3 n → NIn w TT n nv → w.cell? ⟨B, 0, none⟩ = some (.int .i64 k) → Calls Tryz.prog 75 #[nv, .pointer (some ⟨B, 0, none⟩)] w fun e w' => e = .returned (.bool (shp tk f (.level k) n)) ∧ Below w.heap.size w w')
    (keepF : ∀ w w', FAC w → Below w.heap.size w w' → FAC w') (W : World) (hW : FAC W) (k : Int) :
    Calls Tryz.prog 68 #[.int .i64 k] W fun e w' => ∃ v, e = .returned v ∧ FnV (Fit O f 3) w' v (shp tk f (.level k)) ∧ Below W.heap.size W w' := by
  have HB := Lib.hid (alloc_below W (.cells #[.int .i64 k] 3))
  have HT := Lib.hid (alloc_top W #[.int .i64 k] 3)
  have hmf : ∀ (fn : Fn) (first cap : Array Value) (w : World), (Instr.makeFunc fn first cap).run Tryz.prog w = .ok (.func fn first cap) w := fun _ _ _ _ => rfl
  go_enter Tryz.func68, Tryz.ntmps68
  go_wp2_with fail
  go_ret
  refine ⟨_, rfl, ⟨75, #[.pointer (some ⟨W.heap.size, 0, none⟩)], rfl, enters_of Tryz.func75 (by kernel_rfl) rfl, ?_⟩, HB.out⟩
  intro w2 hw2 T u hD hn
  have hB1 : (W.alloc (.cells #[.int .i64 k] 3)).cell? ⟨W.heap.size, 0, none⟩ = some (.int .i64 k) := by unfold World.cell?; simp only [HT.out]; rfl
  exact hL k W.heap.size T u w2 (keepF _ _ (keepF _ _ hW HB.out) hw2) hD hn (cell_kept hB1 rfl hw2)
theorem FnV.sub {D D' : Nd → Prop} {W : World} {v : Value} {σ : Nd → Bool} (h : FnV D W v σ) (hs : ∀ T, D' T → D T) : FnV D' W v σ := by
  obtain ⟨g, cap, rfl, he, h⟩ := h
  exact ⟨g, cap, rfl, he, fun w hw T u hD hn => h w hw T u (hs T hD) hn⟩
end Go.Proofs.YtkpddjbdmjbefaaGreatDoor
