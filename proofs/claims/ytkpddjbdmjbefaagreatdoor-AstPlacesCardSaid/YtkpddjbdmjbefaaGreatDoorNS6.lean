/-
  ast shapes: for. (Written by wip/tools/genshape10.py.)
-/
import Derived.Test.YtkpddjbdmjbefaaGreatDoorNSBase
namespace Go.Proofs.YtkpddjbdmjbefaaGreatDoor
open Go.RowKit
variable {tk : Int → ByteArray → Bool} {O : ByteArray → Prop} {FAC : World → Prop}
set_option maxRecDepth 100000 in
set_option maxHeartbeats 2000000 in
theorem isFor_s (f : Nat) (keepF : ∀ w w', FAC w → Below w.heap.size w w' → FAC w') (Hheaddefine : ∀ W, FAC W → Calls Tryz.prog 67 #[.func (.func 61) #[] #[]] W fun e w' => ∃ v, e = .returned v ∧ FnV (DD O f) w' v (fun t => shp tk f .define t && bare (f + 1) t) ∧ Below W.heap.size W w') (Hheadassign : ∀ W, FAC W → Calls Tryz.prog 67 #[.func (.func 62) #[] #[]] W fun e w' => ∃ v, e = .returned v ∧ FnV (DD O f) w' v (fun t => shp tk f .assign t && bare (f + 1) t) ∧ Below W.heap.size W w') (HheadcallS : ∀ W, FAC W → Calls Tryz.prog 67 #[.func (.func 63) #[] #[]] W fun e w' => ∃ v, e = .returned v ∧ FnV (DD O f) w' v (fun t => shp tk f .callS t && bare (f + 1) t) ∧ Below W.heap.size W w') (Hheadexpr : ∀ W, FAC W → Calls Tryz.prog 67 #[.func (.func 60) #[] #[]] W fun e w' => ∃ v, e = .returned v ∧ FnV (DD O f) w' v (fun t => shp tk f .expr t && bare (f + 1) t) ∧ Below W.heap.size W w') (Hnothing : SL FAC tk O f 42 .nothing) (Hblock : SL FAC tk O f 44 .block) : CL FAC tk O (f + 1) 59 .forr := by
  intro n nv w HFA0 hF hn
  obtain ⟨ia, ic, rfl, hcc, hk⟩ := hn.open
  have hb0 := Lib.hid (alloc_below w (.cells #[.int .i64 n.kind, .int .i64 n.fro, .int .i64 n.till, .int .i64 n.at', .string n.name, .slice ia n.kids.length ic] 24))
  have HSZ := Lib.hid hb0.out.size
  have HFA := Lib.hid (keepF _ _ HFA0 hb0.out)
  have HT := alloc_top w #[.int .i64 n.kind, .int .i64 n.fro, .int .i64 n.till, .int .i64 n.at', .string n.name, .slice ia n.kids.length ic] 24
  have HC0 := Lib.hid (six_cells HT)
  have HN := Lib.hid (NIn.shut (n := n) hcc (hk.below hb0.out))
  have HK := Lib.hid hF
  clear HT hk hn HFA0 hF hcc
  by_cases hkd : n.kind = 15
  · skip
    have HSH : Hid (shp tk (f + 1) .forr n = madeP n emB [(oneP [(fun t => shp tk f .define t && bare (f + 1) t), (fun t => shp tk f .assign t && bare (f + 1) t), (fun t => shp tk f .callS t && bare (f + 1) t), shp tk f .nothing]), oneP [(fun t => shp tk f .expr t && bare (f + 1) t), shp tk f .nothing], (oneP [(fun t => shp tk f .assign t && bare (f + 1) t), (fun t => shp tk f .callS t && bare (f + 1) t), shp tk f .nothing]), oneP [shp tk f .block]]) := Lib.hid (by rw [shp, hkd]; rfl)
    generalize hNN : w.heap.size = N at *
    generalize n.kind = kd at *
    subst hkd
    go_enter Tryz.func59, Tryz.ntmps59
    go_wp2_with fail
    clear hNN
    generalize (w.alloc (.cells #[.int .i64 15, .int .i64 n.fro, .int .i64 n.till, .int .i64 n.at', .string n.name, .slice ia n.kids.length ic] 24)) = w1 at *
    have HB0 := Lib.hid (Below.refl w1.heap.size w1)
    refine (Hheaddefine _ (keepF _ _ HFA.out HB0.out)).mono ?_
    rintro e w' ⟨v5, rfl, hf, hb⟩
    obtain ⟨g5, cap5, rfl, rr⟩ := id hf
    have HF5 := Lib.hid hf
    clear hf rr
    have HB1 := Lib.hid (HB0.out.trans (hb.mono HB0.out.size))
    clear hb
    obtain ⟨k0, k1, k2, k3, k4, k5⟩ := six_keep HC0.out HB1.out
    go_wp2_with fail
    clear k0 k1 k2 k3 k4 k5
    refine (Hheadassign _ (keepF _ _ HFA.out HB1.out)).mono ?_
    rintro e w' ⟨v6, rfl, hf, hb⟩
    obtain ⟨g6, cap6, rfl, rr⟩ := id hf
    have HF6 := Lib.hid hf
    clear hf rr
    have HB2 := Lib.hid (HB1.out.trans (hb.mono HB1.out.size))
    replace HF5 := Lib.hid (HF5.out.below hb)
    clear hb
    obtain ⟨k0, k1, k2, k3, k4, k5⟩ := six_keep HC0.out HB2.out
    go_wp2_with fail
    clear k0 k1 k2 k3 k4 k5
    refine (HheadcallS _ (keepF _ _ HFA.out HB2.out)).mono ?_
    rintro e w' ⟨v7, rfl, hf, hb⟩
    obtain ⟨g7, cap7, rfl, rr⟩ := id hf
    have HF7 := Lib.hid hf
    clear hf rr
    have HB3 := Lib.hid (HB2.out.trans (hb.mono HB2.out.size))
    replace HF5 := Lib.hid (HF5.out.below hb)
    replace HF6 := Lib.hid (HF6.out.below hb)
    clear hb
    obtain ⟨k0, k1, k2, k3, k4, k5⟩ := six_keep HC0.out HB3.out
    go_wp2_with fail
    clear k0 k1 k2 k3 k4 k5
    have HX := Lib.hid (frow_of (D := DD O f) (w := w') (vs := #[.func (.func g5) #[] cap5, .func (.func g6) #[] cap6, .func (.func g7) #[] cap7, .func (.func 42) #[] #[]]) (t := 53) (ss := [(fun t => shp tk f .define t && bare (f + 1) t), (fun t => shp tk f .assign t && bare (f + 1) t), (fun t => shp tk f .callS t && bare (f + 1) t), shp tk f .nothing]) ⟨HF5.out, HF6.out, HF7.out, Hnothing.sf _ (keepF _ _ HFA.out HB3.out), trivial⟩)
    refine (one_any (D := DD O f) (ss := [(fun t => shp tk f .define t && bare (f + 1) t), (fun t => shp tk f .assign t && bare (f + 1) t), (fun t => shp tk f .callS t && bare (f + 1) t), shp tk f .nothing]) _ HX.out (by simp) (by simp)).mono ?_
    clear HX
    rintro e w' ⟨v9, rfl, hf, hb⟩
    obtain ⟨hs, g9, cap9, rfl, rr⟩ := id hf
    have HF9 := Lib.hid hf
    clear hf rr hs
    have HB4 := Lib.hid (HB3.out.trans (((alloc_below _ _).trans (hb.mono (alloc_below _ _).size)).mono HB3.out.size))
    clear hb
    obtain ⟨k0, k1, k2, k3, k4, k5⟩ := six_keep HC0.out HB4.out
    go_wp2_with fail
    clear k0 k1 k2 k3 k4 k5
    refine (Hheadassign _ (keepF _ _ HFA.out HB4.out)).mono ?_
    rintro e w' ⟨v10, rfl, hf, hb⟩
    obtain ⟨g10, cap10, rfl, rr⟩ := id hf
    have HF10 := Lib.hid hf
    clear hf rr
    have HB5 := Lib.hid (HB4.out.trans (hb.mono HB4.out.size))
    replace HF9 := Lib.hid (HF9.out.below hb)
    clear hb
    obtain ⟨k0, k1, k2, k3, k4, k5⟩ := six_keep HC0.out HB5.out
    go_wp2_with fail
    clear k0 k1 k2 k3 k4 k5
    refine (HheadcallS _ (keepF _ _ HFA.out HB5.out)).mono ?_
    rintro e w' ⟨v11, rfl, hf, hb⟩
    obtain ⟨g11, cap11, rfl, rr⟩ := id hf
    have HF11 := Lib.hid hf
    clear hf rr
    have HB6 := Lib.hid (HB5.out.trans (hb.mono HB5.out.size))
    replace HF9 := Lib.hid (HF9.out.below hb)
    replace HF10 := Lib.hid (HF10.out.below hb)
    clear hb
    obtain ⟨k0, k1, k2, k3, k4, k5⟩ := six_keep HC0.out HB6.out
    go_wp2_with fail
    clear k0 k1 k2 k3 k4 k5
    have HX := Lib.hid (frow_of (D := DD O f) (w := w') (vs := #[.func (.func g10) #[] cap10, .func (.func g11) #[] cap11, .func (.func 42) #[] #[]]) (t := 53) (ss := [(fun t => shp tk f .assign t && bare (f + 1) t), (fun t => shp tk f .callS t && bare (f + 1) t), shp tk f .nothing]) ⟨HF10.out, HF11.out, Hnothing.sf _ (keepF _ _ HFA.out HB6.out), trivial⟩)
    refine (one_any (D := DD O f) (ss := [(fun t => shp tk f .assign t && bare (f + 1) t), (fun t => shp tk f .callS t && bare (f + 1) t), shp tk f .nothing]) _ HX.out (by simp) (by simp)).mono ?_
    clear HX
    rintro e w' ⟨v13, rfl, hf, hb⟩
    obtain ⟨hs, g13, cap13, rfl, rr⟩ := id hf
    have HF13 := Lib.hid hf
    clear hf rr hs
    have HB7 := Lib.hid (HB6.out.trans (((alloc_below _ _).trans (hb.mono (alloc_below _ _).size)).mono HB6.out.size))
    replace HF9 := Lib.hid (HF9.out.below ((alloc_below _ _).trans (hb.mono (alloc_below _ _).size)))
    clear hb
    obtain ⟨k0, k1, k2, k3, k4, k5⟩ := six_keep HC0.out HB7.out
    go_wp2_with fail
    clear k0 k1 k2 k3 k4 k5
    refine wp_region_held_drew (S := fun w' => w'.cell? ⟨N, 0, none⟩ = some (.int .i64 15) ∧ w'.cell? ⟨N, 1, none⟩ = some (.int .i64 n.fro) ∧ w'.cell? ⟨N, 2, none⟩ = some (.int .i64 n.till) ∧ w'.cell? ⟨N, 3, none⟩ = some (.int .i64 n.at') ∧ w'.cell? ⟨N, 4, none⟩ = some (.string n.name) ∧ w'.cell? ⟨N, 5, none⟩ = some (.slice ia n.kids.length ic)) (by kernel_rfl) (six_keep HC0.out HB7.out.drew) (fun hHeld => ?_)
    refine wpAnyH_take (i := 0) (oi := ⟨some 14, _, _, _, _, _⟩) (v := ?_) rfl (by kernel_rfl) (by kernel_rfl) (by kernel_rfl) (fun _ _ _ h => h) (Or.inl ⟨by rfl, ?_⟩) hHeld ?_
    rotate_left
    · (intro W hSW; (try dsimp only at hSW); go_simp; first | done | with_reducible rfl)
    try simp only [Act.put, List.setIfInBounds_toArray, List.set_cons_zero, List.set_cons_succ]
    refine wpAnyH_take (i := 1) (oi := ⟨some 15, _, _, _, _, _⟩) (v := ?_) rfl (by kernel_rfl) (by kernel_rfl) (by kernel_rfl) (fun _ _ _ h => h) (Or.inl ⟨by rfl, ?_⟩) hHeld ?_
    rotate_left
    · (intro W hSW; (try dsimp only at hSW); go_simp; first | done | with_reducible rfl)
    try simp only [Act.put, List.setIfInBounds_toArray, List.set_cons_zero, List.set_cons_succ]
    refine wpAnyH_take (i := 2) (oi := ⟨some 16, _, _, _, _, _⟩) (v := ?_) rfl (by kernel_rfl) (by kernel_rfl) (by kernel_rfl) (fun _ _ _ h => h) (Or.inl ⟨by rfl, ?_⟩) hHeld ?_
    rotate_left
    · (intro W hSW; (try dsimp only at hSW); go_simp; first | done | with_reducible rfl)
    try simp only [Act.put, List.setIfInBounds_toArray, List.set_cons_zero, List.set_cons_succ]
    refine wpAnyH_take (i := 3) (oi := ⟨some 17, _, _, _, _, _⟩) (v := ?_) rfl (by kernel_rfl) (by kernel_rfl) (by kernel_rfl) (fun _ _ _ h => h) (Or.inl ⟨by rfl, ?_⟩) hHeld ?_
    rotate_left
    · (intro W hSW; (try dsimp only at hSW); go_simp; first | done | with_reducible rfl)
    try simp only [Act.put, List.setIfInBounds_toArray, List.set_cons_zero, List.set_cons_succ]
    refine wpAnyH_take (i := 4) (oi := ⟨some 18, _, _, _, _, _⟩) (v := ?_) rfl (by kernel_rfl) (by kernel_rfl) (by kernel_rfl) (fun _ _ _ h => h) (Or.inl ⟨by rfl, ?_⟩) hHeld ?_
    rotate_left
    · (intro W hSW; (try dsimp only at hSW); go_simp; first | done | with_reducible rfl)
    try simp only [Act.put, List.setIfInBounds_toArray, List.set_cons_zero, List.set_cons_succ]
    refine wpAnyH_take (i := 5) (oi := ⟨some 19, _, _, _, _, _⟩) (v := ?_) rfl (by kernel_rfl) (by kernel_rfl) (by kernel_rfl) (fun _ _ _ h => h) (Or.inl ⟨by rfl, ?_⟩) hHeld ?_
    rotate_left
    · (intro W hSW; (try dsimp only at hSW); go_simp; first | done | with_reducible rfl)
    try simp only [Act.put, List.setIfInBounds_toArray, List.set_cons_zero, List.set_cons_succ]
    refine wpAnyH_take (i := 9) (oi := ⟨some 23, _, _, _, _, _⟩) (v := ?_) rfl (by kernel_rfl) (by kernel_rfl) (by kernel_rfl) (fun _ _ _ h => h) (Or.inl ⟨by rfl, ?_⟩) hHeld ?_
    rotate_left
    · (intro W hSW; (try dsimp only at hSW); go_simp; first | done | with_reducible rfl)
    try simp only [Act.put, List.setIfInBounds_toArray, List.set_cons_zero, List.set_cons_succ]
    refine region_left (todo := [6, 7, 8, 10, 11, 12, 13, 14, 15]) (φ := fun i => Sp.holds (DD O f) O (match i with | 6 => .fn (fun t => shp tk f .expr t && bare (f + 1) t) | 7 => .frow [(fun t => shp tk f .expr t && bare (f + 1) t), (shp tk f .nothing)] | 8 => .pt (oneP [(fun t => shp tk f .expr t && bare (f + 1) t), (shp tk f .nothing)]) | 10 => .frow [(shp tk f .block)] | 11 => .pt (oneP [(shp tk f .block)]) | 12 => .prow [(oneP [(fun t => shp tk f .define t && bare (f + 1) t), (fun t => shp tk f .assign t && bare (f + 1) t), (fun t => shp tk f .callS t && bare (f + 1) t), shp tk f .nothing]), (oneP [(fun t => shp tk f .expr t && bare (f + 1) t), (shp tk f .nothing)]), (oneP [(fun t => shp tk f .assign t && bare (f + 1) t), (fun t => shp tk f .callS t && bare (f + 1) t), shp tk f .nothing]), (oneP [(shp tk f .block)])] | 13 => .c (.bool (madeP n emB [(oneP [(fun t => shp tk f .define t && bare (f + 1) t), (fun t => shp tk f .assign t && bare (f + 1) t), (fun t => shp tk f .callS t && bare (f + 1) t), shp tk f .nothing]), (oneP [(fun t => shp tk f .expr t && bare (f + 1) t), (shp tk f .nothing)]), (oneP [(fun t => shp tk f .assign t && bare (f + 1) t), (fun t => shp tk f .callS t && bare (f + 1) t), shp tk f .nothing]), (oneP [(shp tk f .block)])])) | 14 => .c (.bool (madeP n emB [(oneP [(fun t => shp tk f .define t && bare (f + 1) t), (fun t => shp tk f .assign t && bare (f + 1) t), (fun t => shp tk f .callS t && bare (f + 1) t), shp tk f .nothing]), (oneP [(fun t => shp tk f .expr t && bare (f + 1) t), (shp tk f .nothing)]), (oneP [(fun t => shp tk f .assign t && bare (f + 1) t), (fun t => shp tk f .callS t && bare (f + 1) t), shp tk f .nothing]), (oneP [(shp tk f .block)])])) | 15 => .c (.bool (madeP n emB [(oneP [(fun t => shp tk f .define t && bare (f + 1) t), (fun t => shp tk f .assign t && bare (f + 1) t), (fun t => shp tk f .callS t && bare (f + 1) t), shp tk f .nothing]), (oneP [(fun t => shp tk f .expr t && bare (f + 1) t), (shp tk f .nothing)]), (oneP [(fun t => shp tk f .assign t && bare (f + 1) t), (fun t => shp tk f .callS t && bare (f + 1) t), shp tk f .nothing]), (oneP [(shp tk f .block)])])) | _ => .any)) (by kernel_rfl) (fun i w w' v h hb => Sp.mono _ _ _ h hb) ?_ ⟨?_, ?_, ?_, ?_, ?_, ?_, ?_, ?_, ?_, trivial⟩ ?_
    · exact fun w' hb => ⟨cell_kept hHeld.1 rfl hb, cell_kept hHeld.2.1 rfl hb, cell_kept hHeld.2.2.1 rfl hb, cell_kept hHeld.2.2.2.1 rfl hb, cell_kept hHeld.2.2.2.2.1 rfl hb, cell_kept hHeld.2.2.2.2.2 rfl hb⟩
    · intro a w' hb hr hd
      clear hHeld
      have hg : a.tmps.getD 17 undef = .bool true := hr 17 (by kernel_rfl)
      refine rop_call (d := 20) (o := _) rfl rfl (wanted_of rfl rfl hg) (f := 67) (args := #[.func (.func 60) #[] #[]]) (by go_simp) ?_
      exact Hheadexpr w' (keepF _ _ HFA.out (HB7.out.trans ((below_drew hb).mono HB7.out.size)))
    · intro a w' hb hr hd
      clear hHeld
      have hg : a.tmps.getD 17 undef = .bool true := hr 17 (by kernel_rfl)
      have p20 : FnV (DD O f) w' (a.tmps.getD 20 undef) (fun t => shp tk f .expr t && bare (f + 1) t) := hd 6 (by kernel_rfl)
      obtain ⟨g20, cap20, e20, r20⟩ := id p20
      rw [e20] at p20
      have e20' := getD_q e20
      refine rop_val (d := 21) (o := _) rfl rfl (wanted_of rfl rfl hg) (v := .slice (some ⟨w'.heap.size, 0, none⟩) 2 2) (w' := w'.alloc (.cells #[.func (.func g20) #[] cap20, .func (.func 42) #[] #[]] 53)) (by go_simp) ?_ (alloc_below _ _)
      exact ⟨_, _, rfl, frow_of ⟨p20, Hnothing.sf _ (keepF _ _ HFA.out (HB7.out.trans ((below_drew hb).mono HB7.out.size))), trivial⟩⟩
    · intro a w' hb hr hd
      clear hHeld
      have hg : a.tmps.getD 17 undef = .bool true := hr 17 (by kernel_rfl)
      obtain ⟨A21, c21, e21, q21⟩ := hd 7 (by kernel_rfl)
      have e21 : a.tmps.getD 21 undef = .slice A21 2 c21 := e21
      have e21' := getD_q e21
      refine rop_call (d := 22) (o := _) rfl rfl (wanted_of rfl rfl hg) (f := 41) (args := #[.slice A21 2 c21]) (by go_simp) ?_
      exact one_any w' q21 (by simp) (by simp)
    · intro a w' hb hr hd
      clear hHeld
      have hg : a.tmps.getD 17 undef = .bool true := hr 17 (by kernel_rfl)
      refine rop_val (d := 24) (o := _) rfl rfl (wanted_of rfl rfl hg) (v := .slice (some ⟨w'.heap.size, 0, none⟩) 1 1) (w' := w'.alloc (.cells #[.func (.func 44) #[] #[]] 53)) (by go_simp) ?_ (alloc_below _ _)
      exact ⟨_, _, rfl, frow_of ⟨Hblock.sf _ (keepF _ _ HFA.out (HB7.out.trans ((below_drew hb).mono HB7.out.size))), trivial⟩⟩
    · intro a w' hb hr hd
      clear hHeld
      have hg : a.tmps.getD 17 undef = .bool true := hr 17 (by kernel_rfl)
      obtain ⟨A24, c24, e24, q24⟩ := hd 10 (by kernel_rfl)
      have e24 : a.tmps.getD 24 undef = .slice A24 1 c24 := e24
      have e24' := getD_q e24
      refine rop_call (d := 25) (o := _) rfl rfl (wanted_of rfl rfl hg) (f := 41) (args := #[.slice A24 1 c24]) (by go_simp) ?_
      exact one_any w' q24 (by simp) (by simp)
    · intro a w' hb hr hd
      clear hHeld
      have hg : a.tmps.getD 17 undef = .bool true := hr 17 (by kernel_rfl)
      have e19 := hr 19 (by kernel_rfl)
      have p19 : PtV (DD O f) w' (a.tmps.getD 19 undef) (oneP [(fun t => shp tk f .define t && bare (f + 1) t), (fun t => shp tk f .assign t && bare (f + 1) t), (fun t => shp tk f .callS t && bare (f + 1) t), shp tk f .nothing]) := by rw [e19]; exact HF9.out.below (below_drew hb)
      clear e19
      obtain ⟨hs19, g19, cap19, e19, r19⟩ := id p19
      rw [e19] at p19
      have e19' := getD_q e19
      have p22 : PtV (DD O f) w' (a.tmps.getD 22 undef) (oneP [(fun t => shp tk f .expr t && bare (f + 1) t), (shp tk f .nothing)]) := hd 8 (by kernel_rfl)
      obtain ⟨hs22, g22, cap22, e22, r22⟩ := id p22
      rw [e22] at p22
      have e22' := getD_q e22
      have e23 := hr 23 (by kernel_rfl)
      have p23 : PtV (DD O f) w' (a.tmps.getD 23 undef) (oneP [(fun t => shp tk f .assign t && bare (f + 1) t), (fun t => shp tk f .callS t && bare (f + 1) t), shp tk f .nothing]) := by rw [e23]; exact HF13.out.below (below_drew hb)
      clear e23
      obtain ⟨hs23, g23, cap23, e23, r23⟩ := id p23
      rw [e23] at p23
      have e23' := getD_q e23
      have p25 : PtV (DD O f) w' (a.tmps.getD 25 undef) (oneP [(shp tk f .block)]) := hd 11 (by kernel_rfl)
      obtain ⟨hs25, g25, cap25, e25, r25⟩ := id p25
      rw [e25] at p25
      have e25' := getD_q e25
      refine rop_val (d := 26) (o := _) rfl rfl (wanted_of rfl rfl hg) (v := .slice (some ⟨w'.heap.size, 0, none⟩) 4 4) (w' := w'.alloc (.cells #[.func (.func g19) #[] cap19, .func (.func g22) #[] cap22, .func (.func g23) #[] cap23, .func (.func g25) #[] cap25] 45)) (by go_simp) ?_ (alloc_below _ _)
      exact ⟨_, _, rfl, prow_of ⟨p19, p22, p23, p25, trivial⟩⟩
    · intro a w' hb hr hd
      clear hHeld
      have hg : a.tmps.getD 17 undef = .bool true := hr 17 (by kernel_rfl)
      have e18 : a.tmps.getD 18 undef = .agg #[.int .i64 15, .int .i64 n.fro, .int .i64 n.till, .int .i64 n.at', .string n.name, .slice ia n.kids.length ic] := hr 18 (by kernel_rfl)
      have e18' := getD_q e18
      obtain ⟨A26, c26, e26, q26⟩ := hd 12 (by kernel_rfl)
      have e26 : a.tmps.getD 26 undef = .slice A26 4 c26 := e26
      have e26' := getD_q e26
      refine rop_call (d := 27) (o := _) rfl rfl (wanted_of rfl rfl hg) (f := 27) (args := #[.agg #[.int .i64 15, .int .i64 n.fro, .int .i64 n.till, .int .i64 n.at', .string n.name, .slice ia n.kids.length ic], .func (.func 51) #[] #[], .slice A26 4 c26]) (by go_simp) ?_
      refine (made_any (D := DD O f) (ps := [(oneP [(fun t => shp tk f .define t && bare (f + 1) t), (fun t => shp tk f .assign t && bare (f + 1) t), (fun t => shp tk f .callS t && bare (f + 1) t), shp tk f .nothing]), (oneP [(fun t => shp tk f .expr t && bare (f + 1) t), (shp tk f .nothing)]), (oneP [(fun t => shp tk f .assign t && bare (f + 1) t), (fun t => shp tk f .callS t && bare (f + 1) t), shp tk f .nothing]), (oneP [(shp tk f .block)])]) w' (nm_empty O w') q26 HK.out.lim.2.2 HK.out.lim.1 HK.out.kid HK.out.lim.2.1 (by simp) (HN.out.below (HB7.out.trans ((below_drew hb).mono HB7.out.size)))).mono ?_
      rintro e w'' ⟨rfl, hb'⟩
      exact ⟨_, rfl, rfl, hb'⟩
    · intro a w' hb hr hd
      clear hHeld
      have e17 : a.tmps.getD 17 undef = .bool true := hr 17 (by kernel_rfl)
      have e17' := getD_q e17
      have e27 : a.tmps.getD 27 undef = .bool (madeP n emB [(oneP [(fun t => shp tk f .define t && bare (f + 1) t), (fun t => shp tk f .assign t && bare (f + 1) t), (fun t => shp tk f .callS t && bare (f + 1) t), shp tk f .nothing]), (oneP [(fun t => shp tk f .expr t && bare (f + 1) t), (shp tk f .nothing)]), (oneP [(fun t => shp tk f .assign t && bare (f + 1) t), (fun t => shp tk f .callS t && bare (f + 1) t), shp tk f .nothing]), (oneP [(shp tk f .block)])]) := hd 13 (by kernel_rfl)
      have e27' := getD_q e27
      exact rop_val (d := 28) (o := _) rfl rfl rfl (v := .bool (madeP n emB [(oneP [(fun t => shp tk f .define t && bare (f + 1) t), (fun t => shp tk f .assign t && bare (f + 1) t), (fun t => shp tk f .callS t && bare (f + 1) t), shp tk f .nothing]), (oneP [(fun t => shp tk f .expr t && bare (f + 1) t), (shp tk f .nothing)]), (oneP [(fun t => shp tk f .assign t && bare (f + 1) t), (fun t => shp tk f .callS t && bare (f + 1) t), shp tk f .nothing]), (oneP [(shp tk f .block)])])) (w' := w') (by go_simp) rfl (Below.refl _ _)
    · intro a w' hb hr hd
      clear hHeld
      have e28 : a.tmps.getD 28 undef = .bool (madeP n emB [(oneP [(fun t => shp tk f .define t && bare (f + 1) t), (fun t => shp tk f .assign t && bare (f + 1) t), (fun t => shp tk f .callS t && bare (f + 1) t), shp tk f .nothing]), (oneP [(fun t => shp tk f .expr t && bare (f + 1) t), (shp tk f .nothing)]), (oneP [(fun t => shp tk f .assign t && bare (f + 1) t), (fun t => shp tk f .callS t && bare (f + 1) t), shp tk f .nothing]), (oneP [(shp tk f .block)])]) := hd 14 (by kernel_rfl)
      have e28' := getD_q e28
      exact rop_val (d := 2) (o := _) rfl rfl rfl (v := .bool (madeP n emB [(oneP [(fun t => shp tk f .define t && bare (f + 1) t), (fun t => shp tk f .assign t && bare (f + 1) t), (fun t => shp tk f .callS t && bare (f + 1) t), shp tk f .nothing]), (oneP [(fun t => shp tk f .expr t && bare (f + 1) t), (shp tk f .nothing)]), (oneP [(fun t => shp tk f .assign t && bare (f + 1) t), (fun t => shp tk f .callS t && bare (f + 1) t), shp tk f .nothing]), (oneP [(shp tk f .block)])])) (w' := w') (by go_simp) rfl (Below.refl _ _)
    · intro vs w' hb hφ
      have v13 : vs 13 = .bool (madeP n emB [(oneP [(fun t => shp tk f .define t && bare (f + 1) t), (fun t => shp tk f .assign t && bare (f + 1) t), (fun t => shp tk f .callS t && bare (f + 1) t), shp tk f .nothing]), (oneP [(fun t => shp tk f .expr t && bare (f + 1) t), (shp tk f .nothing)]), (oneP [(fun t => shp tk f .assign t && bare (f + 1) t), (fun t => shp tk f .callS t && bare (f + 1) t), shp tk f .nothing]), (oneP [(shp tk f .block)])]) := hφ.2.2.2.2.2.2.1
      have v14 : vs 14 = .bool (madeP n emB [(oneP [(fun t => shp tk f .define t && bare (f + 1) t), (fun t => shp tk f .assign t && bare (f + 1) t), (fun t => shp tk f .callS t && bare (f + 1) t), shp tk f .nothing]), (oneP [(fun t => shp tk f .expr t && bare (f + 1) t), (shp tk f .nothing)]), (oneP [(fun t => shp tk f .assign t && bare (f + 1) t), (fun t => shp tk f .callS t && bare (f + 1) t), shp tk f .nothing]), (oneP [(shp tk f .block)])]) := hφ.2.2.2.2.2.2.2.1
      have v15 : vs 15 = .bool (madeP n emB [(oneP [(fun t => shp tk f .define t && bare (f + 1) t), (fun t => shp tk f .assign t && bare (f + 1) t), (fun t => shp tk f .callS t && bare (f + 1) t), shp tk f .nothing]), (oneP [(fun t => shp tk f .expr t && bare (f + 1) t), (shp tk f .nothing)]), (oneP [(fun t => shp tk f .assign t && bare (f + 1) t), (fun t => shp tk f .callS t && bare (f + 1) t), shp tk f .nothing]), (oneP [(shp tk f .block)])]) := hφ.2.2.2.2.2.2.2.2.1
      clear hHeld hφ
      simp only [setAll, dstOf, List.getElem?_toArray, List.getElem?_cons_zero, List.getElem?_cons_succ, Option.bind_some, Option.getD_some, List.setIfInBounds_toArray, List.set_cons_zero, List.set_cons_succ]
      rw [v13, v14, v15]
      have HB8 := Lib.hid (HB7.out.trans ((below_drew hb).mono HB7.out.size))
      clear hb
      obtain ⟨k0, k1, k2, k3, k4, k5⟩ := six_keep HC0.out HB8.out
      go_wp2_with fail
      clear k0 k1 k2 k3 k4 k5
      go_ret
      exact ⟨by rw [HSH.out]; rfl, hb0.out.trans (HB8.out.mono HSZ.out)⟩
  · skip
    have HSH : Hid (shp tk (f + 1) .forr n = false) := Lib.hid (by rw [shp]; simp [hkd])
    have hkd' : (n.kind == 15) = false := by simpa using hkd
    clear hkd
    generalize hNN : w.heap.size = N at *
    go_enter Tryz.func59, Tryz.ntmps59
    go_wp2_with fail
    clear hNN
    generalize (w.alloc (.cells #[.int .i64 n.kind, .int .i64 n.fro, .int .i64 n.till, .int .i64 n.at', .string n.name, .slice ia n.kids.length ic] 24)) = w1 at *
    have HB0 := Lib.hid (Below.refl w1.heap.size w1)
    refine (Hheaddefine _ (keepF _ _ HFA.out HB0.out)).mono ?_
    rintro e w' ⟨v5, rfl, hf, hb⟩
    obtain ⟨g5, cap5, rfl, rr⟩ := id hf
    have HF5 := Lib.hid hf
    clear hf rr
    have HB1 := Lib.hid (HB0.out.trans (hb.mono HB0.out.size))
    clear hb
    obtain ⟨k0, k1, k2, k3, k4, k5⟩ := six_keep HC0.out HB1.out
    go_wp2_with fail
    clear k0 k1 k2 k3 k4 k5
    refine (Hheadassign _ (keepF _ _ HFA.out HB1.out)).mono ?_
    rintro e w' ⟨v6, rfl, hf, hb⟩
    obtain ⟨g6, cap6, rfl, rr⟩ := id hf
    have HF6 := Lib.hid hf
    clear hf rr
    have HB2 := Lib.hid (HB1.out.trans (hb.mono HB1.out.size))
    replace HF5 := Lib.hid (HF5.out.below hb)
    clear hb
    obtain ⟨k0, k1, k2, k3, k4, k5⟩ := six_keep HC0.out HB2.out
    go_wp2_with fail
    clear k0 k1 k2 k3 k4 k5
    refine (HheadcallS _ (keepF _ _ HFA.out HB2.out)).mono ?_
    rintro e w' ⟨v7, rfl, hf, hb⟩
    obtain ⟨g7, cap7, rfl, rr⟩ := id hf
    have HF7 := Lib.hid hf
    clear hf rr
    have HB3 := Lib.hid (HB2.out.trans (hb.mono HB2.out.size))
    replace HF5 := Lib.hid (HF5.out.below hb)
    replace HF6 := Lib.hid (HF6.out.below hb)
    clear hb
    obtain ⟨k0, k1, k2, k3, k4, k5⟩ := six_keep HC0.out HB3.out
    go_wp2_with fail
    clear k0 k1 k2 k3 k4 k5
    have HX := Lib.hid (frow_of (D := DD O f) (w := w') (vs := #[.func (.func g5) #[] cap5, .func (.func g6) #[] cap6, .func (.func g7) #[] cap7, .func (.func 42) #[] #[]]) (t := 53) (ss := [(fun t => shp tk f .define t && bare (f + 1) t), (fun t => shp tk f .assign t && bare (f + 1) t), (fun t => shp tk f .callS t && bare (f + 1) t), shp tk f .nothing]) ⟨HF5.out, HF6.out, HF7.out, Hnothing.sf _ (keepF _ _ HFA.out HB3.out), trivial⟩)
    refine (one_any (D := DD O f) (ss := [(fun t => shp tk f .define t && bare (f + 1) t), (fun t => shp tk f .assign t && bare (f + 1) t), (fun t => shp tk f .callS t && bare (f + 1) t), shp tk f .nothing]) _ HX.out (by simp) (by simp)).mono ?_
    clear HX
    rintro e w' ⟨v9, rfl, hf, hb⟩
    obtain ⟨hs, g9, cap9, rfl, rr⟩ := id hf
    have HF9 := Lib.hid hf
    clear hf rr hs
    have HB4 := Lib.hid (HB3.out.trans (((alloc_below _ _).trans (hb.mono (alloc_below _ _).size)).mono HB3.out.size))
    clear hb
    obtain ⟨k0, k1, k2, k3, k4, k5⟩ := six_keep HC0.out HB4.out
    go_wp2_with fail
    clear k0 k1 k2 k3 k4 k5
    refine (Hheadassign _ (keepF _ _ HFA.out HB4.out)).mono ?_
    rintro e w' ⟨v10, rfl, hf, hb⟩
    obtain ⟨g10, cap10, rfl, rr⟩ := id hf
    have HF10 := Lib.hid hf
    clear hf rr
    have HB5 := Lib.hid (HB4.out.trans (hb.mono HB4.out.size))
    replace HF9 := Lib.hid (HF9.out.below hb)
    clear hb
    obtain ⟨k0, k1, k2, k3, k4, k5⟩ := six_keep HC0.out HB5.out
    go_wp2_with fail
    clear k0 k1 k2 k3 k4 k5
    refine (HheadcallS _ (keepF _ _ HFA.out HB5.out)).mono ?_
    rintro e w' ⟨v11, rfl, hf, hb⟩
    obtain ⟨g11, cap11, rfl, rr⟩ := id hf
    have HF11 := Lib.hid hf
    clear hf rr
    have HB6 := Lib.hid (HB5.out.trans (hb.mono HB5.out.size))
    replace HF9 := Lib.hid (HF9.out.below hb)
    replace HF10 := Lib.hid (HF10.out.below hb)
    clear hb
    obtain ⟨k0, k1, k2, k3, k4, k5⟩ := six_keep HC0.out HB6.out
    go_wp2_with fail
    clear k0 k1 k2 k3 k4 k5
    have HX := Lib.hid (frow_of (D := DD O f) (w := w') (vs := #[.func (.func g10) #[] cap10, .func (.func g11) #[] cap11, .func (.func 42) #[] #[]]) (t := 53) (ss := [(fun t => shp tk f .assign t && bare (f + 1) t), (fun t => shp tk f .callS t && bare (f + 1) t), shp tk f .nothing]) ⟨HF10.out, HF11.out, Hnothing.sf _ (keepF _ _ HFA.out HB6.out), trivial⟩)
    refine (one_any (D := DD O f) (ss := [(fun t => shp tk f .assign t && bare (f + 1) t), (fun t => shp tk f .callS t && bare (f + 1) t), shp tk f .nothing]) _ HX.out (by simp) (by simp)).mono ?_
    clear HX
    rintro e w' ⟨v13, rfl, hf, hb⟩
    obtain ⟨hs, g13, cap13, rfl, rr⟩ := id hf
    have HF13 := Lib.hid hf
    clear hf rr hs
    have HB7 := Lib.hid (HB6.out.trans (((alloc_below _ _).trans (hb.mono (alloc_below _ _).size)).mono HB6.out.size))
    replace HF9 := Lib.hid (HF9.out.below ((alloc_below _ _).trans (hb.mono (alloc_below _ _).size)))
    clear hb
    obtain ⟨k0, k1, k2, k3, k4, k5⟩ := six_keep HC0.out HB7.out
    go_wp2_with fail
    clear k0 k1 k2 k3 k4 k5
    obtain ⟨k0, k1, k2, k3, k4, k5⟩ := six_keep HC0.out HB7.out
    go_quiet (fail)
    have HB8 := Lib.hid (drewN_belowA HB7.out nq)
    go_wp2_with fail
    clear k0 k1 k2 k3 k4 k5
    go_ret
    exact ⟨by rw [HSH.out]; rfl, hb0.out.trans (HB8.out.mono HSZ.out)⟩
end Go.Proofs.YtkpddjbdmjbefaaGreatDoor
