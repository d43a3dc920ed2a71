/-
  ast shapes: files, declarations, var. (Written by wip/tools/genshape10.py.)
-/
import Derived.Test.YtkpddjbdmjbefaaGreatDoorNSBase
namespace Go.Proofs.YtkpddjbdmjbefaaGreatDoor
open Go.RowKit
variable {tk : Int → ByteArray → Bool} {O : ByteArray → Prop} {FAC : World → Prop}
set_option maxRecDepth 100000 in
set_option maxHeartbeats 2000000 in
theorem isFile_s (f : Nat) (keepF : ∀ w w', FAC w → Below w.heap.size w w' → FAC w') (Himp : SL FAC tk O f 30 .imp) (Hdecl : SL FAC tk O f 31 .decl) (n : Nd) (nv : Value) (w : World) (HFA0 : FAC w) (hF : Fit O (f + 1) 0 n) (hn : NIn w TT n nv) : Calls Tryz.prog 23 #[nv] w fun e w' => e = .returned (.bool (fileB tk f n)) ∧ Below w.heap.size w w' := by
  skip
  obtain ⟨ia, ic, rfl, hcc, hk⟩ := hn.open
  have hb0 := Lib.hid (alloc_below w (.cells #[.int .i64 n.kind, .int .i64 n.fro, .int .i64 n.till, .int .i64 n.at', .string n.name, .slice ia n.kids.length ic] 24))
  have HSZ := Lib.hid hb0.out.size
  have HFA := Lib.hid (keepF _ _ HFA0 hb0.out)
  have HT := alloc_top w #[.int .i64 n.kind, .int .i64 n.fro, .int .i64 n.till, .int .i64 n.at', .string n.name, .slice ia n.kids.length ic] 24
  have HC0 := Lib.hid (six_cells HT)
  have HN := Lib.hid (NIn.shut (n := n) hcc (hk.below hb0.out))
  have HK := Lib.hid hF
  clear HT hk hn HFA0 hF hcc
  by_cases hkd : n.kind = 1
  · skip
    have HSH : Hid (fileB tk f n = madeP n nmB [manyP (shp tk f .imp), manyP (shp tk f .decl)]) := Lib.hid (by unfold fileB; rw [hkd]; rfl)
    generalize hNN : w.heap.size = N at *
    generalize n.kind = kd at *
    subst hkd
    go_enter Tryz.func23, Tryz.ntmps23
    go_wp2_with fail
    clear hNN
    generalize (w.alloc (.cells #[.int .i64 1, .int .i64 n.fro, .int .i64 n.till, .int .i64 n.at', .string n.name, .slice ia n.kids.length ic] 24)) = w1 at *
    have HB0 := Lib.hid (Below.refl w1.heap.size w1)
    refine wp_region_held_drew (S := fun w' => w'.cell? ⟨N, 0, none⟩ = some (.int .i64 1) ∧ w'.cell? ⟨N, 1, none⟩ = some (.int .i64 n.fro) ∧ w'.cell? ⟨N, 2, none⟩ = some (.int .i64 n.till) ∧ w'.cell? ⟨N, 3, none⟩ = some (.int .i64 n.at') ∧ w'.cell? ⟨N, 4, none⟩ = some (.string n.name) ∧ w'.cell? ⟨N, 5, none⟩ = some (.slice ia n.kids.length ic)) (by kernel_rfl) (six_keep HC0.out HB0.out.drew) (fun hHeld => ?_)
    refine wpAnyH_take (i := 0) (oi := ⟨some 3, _, _, _, _, _⟩) (v := ?_) rfl (by kernel_rfl) (by kernel_rfl) (by kernel_rfl) (fun _ _ _ h => h) (Or.inl ⟨by rfl, ?_⟩) hHeld ?_
    rotate_left
    · (intro W hSW; (try dsimp only at hSW); go_simp; first | done | with_reducible rfl)
    try simp only [Act.put, List.setIfInBounds_toArray, List.set_cons_zero, List.set_cons_succ]
    refine wpAnyH_take (i := 1) (oi := ⟨some 4, _, _, _, _, _⟩) (v := ?_) rfl (by kernel_rfl) (by kernel_rfl) (by kernel_rfl) (fun _ _ _ h => h) (Or.inl ⟨by rfl, ?_⟩) hHeld ?_
    rotate_left
    · (intro W hSW; (try dsimp only at hSW); go_simp; first | done | with_reducible rfl)
    try simp only [Act.put, List.setIfInBounds_toArray, List.set_cons_zero, List.set_cons_succ]
    refine wpAnyH_take (i := 2) (oi := ⟨some 5, _, _, _, _, _⟩) (v := ?_) rfl (by kernel_rfl) (by kernel_rfl) (by kernel_rfl) (fun _ _ _ h => h) (Or.inl ⟨by rfl, ?_⟩) hHeld ?_
    rotate_left
    · (intro W hSW; (try dsimp only at hSW); go_simp; first | done | with_reducible rfl)
    try simp only [Act.put, List.setIfInBounds_toArray, List.set_cons_zero, List.set_cons_succ]
    refine wpAnyH_take (i := 3) (oi := ⟨some 6, _, _, _, _, _⟩) (v := ?_) rfl (by kernel_rfl) (by kernel_rfl) (by kernel_rfl) (fun _ _ _ h => h) (Or.inl ⟨by rfl, ?_⟩) hHeld ?_
    rotate_left
    · (intro W hSW; (try dsimp only at hSW); go_simp; first | done | with_reducible rfl)
    try simp only [Act.put, List.setIfInBounds_toArray, List.set_cons_zero, List.set_cons_succ]
    refine wpAnyH_take (i := 4) (oi := ⟨some 7, _, _, _, _, _⟩) (v := ?_) rfl (by kernel_rfl) (by kernel_rfl) (by kernel_rfl) (fun _ _ _ h => h) (Or.inl ⟨by rfl, ?_⟩) hHeld ?_
    rotate_left
    · (intro W hSW; (try dsimp only at hSW); go_simp; first | done | with_reducible rfl)
    try simp only [Act.put, List.setIfInBounds_toArray, List.set_cons_zero, List.set_cons_succ]
    refine region_left (todo := [5, 6, 7, 8, 9, 10]) (φ := fun i => Sp.holds (DD O f) O (match i with | 5 => .pt (manyP (shp tk f .imp)) | 6 => .pt (manyP (shp tk f .decl)) | 7 => .prow [(manyP (shp tk f .imp)), (manyP (shp tk f .decl))] | 8 => .c (.bool (madeP n nmB [(manyP (shp tk f .imp)), (manyP (shp tk f .decl))])) | 9 => .c (.bool (madeP n nmB [(manyP (shp tk f .imp)), (manyP (shp tk f .decl))])) | 10 => .c (.bool (madeP n nmB [(manyP (shp tk f .imp)), (manyP (shp tk f .decl))])) | _ => .any)) (by kernel_rfl) (fun i w w' v h hb => Sp.mono _ _ _ h hb) ?_ ⟨?_, ?_, ?_, ?_, ?_, ?_, trivial⟩ ?_
    · exact fun w' hb => ⟨cell_kept hHeld.1 rfl hb, cell_kept hHeld.2.1 rfl hb, cell_kept hHeld.2.2.1 rfl hb, cell_kept hHeld.2.2.2.1 rfl hb, cell_kept hHeld.2.2.2.2.1 rfl hb, cell_kept hHeld.2.2.2.2.2 rfl hb⟩
    · intro a w' hb hr hd
      clear hHeld
      have hg : a.tmps.getD 6 undef = .bool true := hr 6 (by kernel_rfl)
      refine rop_call (d := 8) (o := _) rfl rfl (wanted_of rfl rfl hg) (f := 29) (args := #[.func (.func 30) #[] #[]]) (by go_simp) ?_
      exact many_any w' (Himp.sf _ (keepF _ _ HFA.out (HB0.out.trans ((below_drew hb).mono HB0.out.size))))
    · intro a w' hb hr hd
      clear hHeld
      have hg : a.tmps.getD 6 undef = .bool true := hr 6 (by kernel_rfl)
      refine rop_call (d := 9) (o := _) rfl rfl (wanted_of rfl rfl hg) (f := 29) (args := #[.func (.func 31) #[] #[]]) (by go_simp) ?_
      exact many_any w' (Hdecl.sf _ (keepF _ _ HFA.out (HB0.out.trans ((below_drew hb).mono HB0.out.size))))
    · intro a w' hb hr hd
      clear hHeld
      have hg : a.tmps.getD 6 undef = .bool true := hr 6 (by kernel_rfl)
      have p8 : PtV (DD O f) w' (a.tmps.getD 8 undef) (manyP (shp tk f .imp)) := hd 5 (by kernel_rfl)
      obtain ⟨hs8, g8, cap8, e8, r8⟩ := id p8
      rw [e8] at p8
      have e8' := getD_q e8
      have p9 : PtV (DD O f) w' (a.tmps.getD 9 undef) (manyP (shp tk f .decl)) := hd 6 (by kernel_rfl)
      obtain ⟨hs9, g9, cap9, e9, r9⟩ := id p9
      rw [e9] at p9
      have e9' := getD_q e9
      refine rop_val (d := 10) (o := _) rfl rfl (wanted_of rfl rfl hg) (v := .slice (some ⟨w'.heap.size, 0, none⟩) 2 2) (w' := w'.alloc (.cells #[.func (.func g8) #[] cap8, .func (.func g9) #[] cap9] 45)) (by go_simp) ?_ (alloc_below _ _)
      exact ⟨_, _, rfl, prow_of ⟨p8, p9, trivial⟩⟩
    · intro a w' hb hr hd
      clear hHeld
      have hg : a.tmps.getD 6 undef = .bool true := hr 6 (by kernel_rfl)
      have e7 : a.tmps.getD 7 undef = .agg #[.int .i64 1, .int .i64 n.fro, .int .i64 n.till, .int .i64 n.at', .string n.name, .slice ia n.kids.length ic] := hr 7 (by kernel_rfl)
      have e7' := getD_q e7
      obtain ⟨A10, c10, e10, q10⟩ := hd 7 (by kernel_rfl)
      have e10 : a.tmps.getD 10 undef = .slice A10 2 c10 := e10
      have e10' := getD_q e10
      refine rop_call (d := 11) (o := _) rfl rfl (wanted_of rfl rfl hg) (f := 27) (args := #[.agg #[.int .i64 1, .int .i64 n.fro, .int .i64 n.till, .int .i64 n.at', .string n.name, .slice ia n.kids.length ic], .func (.func 28) #[] #[], .slice A10 2 c10]) (by go_simp) ?_
      refine (made_any (D := DD O f) (ps := [(manyP (shp tk f .imp)), (manyP (shp tk f .decl))]) w' (nm_name O w') q10 HK.out.lim.2.2 HK.out.lim.1 HK.out.kid HK.out.lim.2.1 (by simp) (HN.out.below (HB0.out.trans ((below_drew hb).mono HB0.out.size)))).mono ?_
      rintro e w'' ⟨rfl, hb'⟩
      exact ⟨_, rfl, rfl, hb'⟩
    · intro a w' hb hr hd
      clear hHeld
      have e6 : a.tmps.getD 6 undef = .bool true := hr 6 (by kernel_rfl)
      have e6' := getD_q e6
      have e11 : a.tmps.getD 11 undef = .bool (madeP n nmB [(manyP (shp tk f .imp)), (manyP (shp tk f .decl))]) := hd 8 (by kernel_rfl)
      have e11' := getD_q e11
      exact rop_val (d := 12) (o := _) rfl rfl rfl (v := .bool (madeP n nmB [(manyP (shp tk f .imp)), (manyP (shp tk f .decl))])) (w' := w') (by go_simp) rfl (Below.refl _ _)
    · intro a w' hb hr hd
      clear hHeld
      have e12 : a.tmps.getD 12 undef = .bool (madeP n nmB [(manyP (shp tk f .imp)), (manyP (shp tk f .decl))]) := hd 9 (by kernel_rfl)
      have e12' := getD_q e12
      exact rop_val (d := 2) (o := _) rfl rfl rfl (v := .bool (madeP n nmB [(manyP (shp tk f .imp)), (manyP (shp tk f .decl))])) (w' := w') (by go_simp) rfl (Below.refl _ _)
    · intro vs w' hb hφ
      have v8 : vs 8 = .bool (madeP n nmB [(manyP (shp tk f .imp)), (manyP (shp tk f .decl))]) := hφ.2.2.2.1
      have v9 : vs 9 = .bool (madeP n nmB [(manyP (shp tk f .imp)), (manyP (shp tk f .decl))]) := hφ.2.2.2.2.1
      have v10 : vs 10 = .bool (madeP n nmB [(manyP (shp tk f .imp)), (manyP (shp tk f .decl))]) := hφ.2.2.2.2.2.1
      clear hHeld hφ
      simp only [setAll, dstOf, List.getElem?_toArray, List.getElem?_cons_zero, List.getElem?_cons_succ, Option.bind_some, Option.getD_some, List.setIfInBounds_toArray, List.set_cons_zero, List.set_cons_succ]
      rw [v8, v9, v10]
      have HB1 := Lib.hid (HB0.out.trans ((below_drew hb).mono HB0.out.size))
      clear hb
      obtain ⟨k0, k1, k2, k3, k4, k5⟩ := six_keep HC0.out HB1.out
      go_wp2_with fail
      clear k0 k1 k2 k3 k4 k5
      go_ret
      exact ⟨by rw [HSH.out]; rfl, hb0.out.trans (HB1.out.mono HSZ.out)⟩
  · skip
    have HSH : Hid (fileB tk f n = false) := Lib.hid (by unfold fileB; simp [hkd])
    have hkd' : (n.kind == 1) = false := by simpa using hkd
    clear hkd
    generalize hNN : w.heap.size = N at *
    go_enter Tryz.func23, Tryz.ntmps23
    go_wp2_with fail
    clear hNN
    generalize (w.alloc (.cells #[.int .i64 n.kind, .int .i64 n.fro, .int .i64 n.till, .int .i64 n.at', .string n.name, .slice ia n.kids.length ic] 24)) = w1 at *
    have HB0 := Lib.hid (Below.refl w1.heap.size w1)
    obtain ⟨k0, k1, k2, k3, k4, k5⟩ := six_keep HC0.out HB0.out
    go_quiet (fail)
    have HB1 := Lib.hid (drewN_belowA HB0.out nq)
    go_wp2_with fail
    clear k0 k1 k2 k3 k4 k5
    go_ret
    exact ⟨by rw [HSH.out]; rfl, hb0.out.trans (HB1.out.mono HSZ.out)⟩
set_option maxRecDepth 100000 in
set_option maxHeartbeats 2000000 in
theorem isVar_s (f : Nat) (keepF : ∀ w w', FAC w → Below w.heap.size w w' → FAC w') (Hty : SL FAC tk O f 39 .ty) (Hnothing : SL FAC tk O f 42 .nothing) (Hexpr : SL FAC tk O f 60 .expr) : CL FAC tk O (f + 1) 57 .var := by
  intro n nv w HFA0 hF hn
  obtain ⟨ia, ic, rfl, hcc, hk⟩ := hn.open
  have hb0 := Lib.hid (alloc_below w (.cells #[.int .i64 n.kind, .int .i64 n.fro, .int .i64 n.till, .int .i64 n.at', .string n.name, .slice ia n.kids.length ic] 24))
  have HSZ := Lib.hid hb0.out.size
  have HFA := Lib.hid (keepF _ _ HFA0 hb0.out)
  have HT := alloc_top w #[.int .i64 n.kind, .int .i64 n.fro, .int .i64 n.till, .int .i64 n.at', .string n.name, .slice ia n.kids.length ic] 24
  have HC0 := Lib.hid (six_cells HT)
  have HN := Lib.hid (NIn.shut (n := n) hcc (hk.below hb0.out))
  have HK := Lib.hid hF
  clear HT hk hn HFA0 hF hcc
  cases q1 : madeP n nmB [oneP [shp tk f .ty], oneP [shp tk f .nothing]] with
  | true =>
    have HSH : Hid (shp tk (f + 1) .var n = true) := Lib.hid (by rw [shp, q1]; rfl)
    have Q1 := Lib.hid q1
    clear q1
    generalize hNN : w.heap.size = N at *
    go_enter Tryz.func57, Tryz.ntmps57
    go_wp2_with fail
    clear hNN
    generalize (w.alloc (.cells #[.int .i64 n.kind, .int .i64 n.fro, .int .i64 n.till, .int .i64 n.at', .string n.name, .slice ia n.kids.length ic] 24)) = w1 at *
    have HB0 := Lib.hid (Below.refl w1.heap.size w1)
    refine wp_region_held_drew (S := fun w' => w'.cell? ⟨N, 0, none⟩ = some (.int .i64 n.kind) ∧ w'.cell? ⟨N, 1, none⟩ = some (.int .i64 n.fro) ∧ w'.cell? ⟨N, 2, none⟩ = some (.int .i64 n.till) ∧ w'.cell? ⟨N, 3, none⟩ = some (.int .i64 n.at') ∧ w'.cell? ⟨N, 4, none⟩ = some (.string n.name) ∧ w'.cell? ⟨N, 5, none⟩ = some (.slice ia n.kids.length ic)) (by kernel_rfl) (six_keep HC0.out HB0.out.drew) (fun hHeld => ?_)
    refine wpAnyH_take (i := 0) (oi := ⟨some 4, _, _, _, _, _⟩) (v := ?_) rfl (by kernel_rfl) (by kernel_rfl) (by kernel_rfl) (fun _ _ _ h => h) (Or.inl ⟨by rfl, ?_⟩) hHeld ?_
    rotate_left
    · (intro W hSW; (try dsimp only at hSW); go_simp; first | done | with_reducible rfl)
    try simp only [Act.put, List.setIfInBounds_toArray, List.set_cons_zero, List.set_cons_succ]
    refine region_left (todo := [1, 2, 3, 4, 5, 6, 7]) (φ := fun i => Sp.holds (DD O f) O (match i with | 1 => .frow [(shp tk f .ty)] | 2 => .pt (oneP [(shp tk f .ty)]) | 3 => .frow [(shp tk f .nothing)] | 4 => .pt (oneP [(shp tk f .nothing)]) | 5 => .prow [(oneP [(shp tk f .ty)]), (oneP [(shp tk f .nothing)])] | 6 => .c (.bool true) | 7 => .c (.bool true) | _ => .any)) (by kernel_rfl) (fun i w w' v h hb => Sp.mono _ _ _ h hb) ?_ ⟨?_, ?_, ?_, ?_, ?_, ?_, ?_, trivial⟩ ?_
    · exact fun w' hb => ⟨cell_kept hHeld.1 rfl hb, cell_kept hHeld.2.1 rfl hb, cell_kept hHeld.2.2.1 rfl hb, cell_kept hHeld.2.2.2.1 rfl hb, cell_kept hHeld.2.2.2.2.1 rfl hb, cell_kept hHeld.2.2.2.2.2 rfl hb⟩
    · intro a w' hb hr hd
      clear hHeld
      refine rop_val (d := 5) (o := _) rfl rfl rfl (v := .slice (some ⟨w'.heap.size, 0, none⟩) 1 1) (w' := w'.alloc (.cells #[.func (.func 39) #[] #[]] 53)) (by go_simp) ?_ (alloc_below _ _)
      exact ⟨_, _, rfl, frow_of ⟨Hty.sf _ (keepF _ _ HFA.out (HB0.out.trans ((below_drew hb).mono HB0.out.size))), trivial⟩⟩
    · intro a w' hb hr hd
      clear hHeld
      obtain ⟨A5, c5, e5, q5⟩ := hd 1 (by kernel_rfl)
      have e5 : a.tmps.getD 5 undef = .slice A5 1 c5 := e5
      have e5' := getD_q e5
      refine rop_call (d := 6) (o := _) rfl rfl rfl (f := 41) (args := #[.slice A5 1 c5]) (by go_simp) ?_
      exact one_any w' q5 (by simp) (by simp)
    · intro a w' hb hr hd
      clear hHeld
      refine rop_val (d := 7) (o := _) rfl rfl rfl (v := .slice (some ⟨w'.heap.size, 0, none⟩) 1 1) (w' := w'.alloc (.cells #[.func (.func 42) #[] #[]] 53)) (by go_simp) ?_ (alloc_below _ _)
      exact ⟨_, _, rfl, frow_of ⟨Hnothing.sf _ (keepF _ _ HFA.out (HB0.out.trans ((below_drew hb).mono HB0.out.size))), trivial⟩⟩
    · intro a w' hb hr hd
      clear hHeld
      obtain ⟨A7, c7, e7, q7⟩ := hd 3 (by kernel_rfl)
      have e7 : a.tmps.getD 7 undef = .slice A7 1 c7 := e7
      have e7' := getD_q e7
      refine rop_call (d := 8) (o := _) rfl rfl rfl (f := 41) (args := #[.slice A7 1 c7]) (by go_simp) ?_
      exact one_any w' q7 (by simp) (by simp)
    · intro a w' hb hr hd
      clear hHeld
      have p6 : PtV (DD O f) w' (a.tmps.getD 6 undef) (oneP [(shp tk f .ty)]) := hd 2 (by kernel_rfl)
      obtain ⟨hs6, g6, cap6, e6, r6⟩ := id p6
      rw [e6] at p6
      have e6' := getD_q e6
      have p8 : PtV (DD O f) w' (a.tmps.getD 8 undef) (oneP [(shp tk f .nothing)]) := hd 4 (by kernel_rfl)
      obtain ⟨hs8, g8, cap8, e8, r8⟩ := id p8
      rw [e8] at p8
      have e8' := getD_q e8
      refine rop_val (d := 9) (o := _) rfl rfl rfl (v := .slice (some ⟨w'.heap.size, 0, none⟩) 2 2) (w' := w'.alloc (.cells #[.func (.func g6) #[] cap6, .func (.func g8) #[] cap8] 45)) (by go_simp) ?_ (alloc_below _ _)
      exact ⟨_, _, rfl, prow_of ⟨p6, p8, trivial⟩⟩
    · intro a w' hb hr hd
      clear hHeld
      have e4 : a.tmps.getD 4 undef = .agg #[.int .i64 n.kind, .int .i64 n.fro, .int .i64 n.till, .int .i64 n.at', .string n.name, .slice ia n.kids.length ic] := hr 4 (by kernel_rfl)
      have e4' := getD_q e4
      obtain ⟨A9, c9, e9, q9⟩ := hd 5 (by kernel_rfl)
      have e9 : a.tmps.getD 9 undef = .slice A9 2 c9 := e9
      have e9' := getD_q e9
      refine rop_call (d := 10) (o := _) rfl rfl rfl (f := 27) (args := #[.agg #[.int .i64 n.kind, .int .i64 n.fro, .int .i64 n.till, .int .i64 n.at', .string n.name, .slice ia n.kids.length ic], .func (.func 28) #[] #[], .slice A9 2 c9]) (by go_simp) ?_
      refine (made_any (D := DD O f) (ps := [(oneP [(shp tk f .ty)]), (oneP [(shp tk f .nothing)])]) w' (nm_name O w') q9 HK.out.lim.2.2 HK.out.lim.1 HK.out.kid HK.out.lim.2.1 (by simp) (HN.out.below (HB0.out.trans ((below_drew hb).mono HB0.out.size)))).mono ?_
      rintro e w'' ⟨rfl, hb'⟩
      exact ⟨_, rfl, by rw [Q1.out]; rfl, hb'⟩
    · intro a w' hb hr hd
      clear hHeld
      have e10 : a.tmps.getD 10 undef = .bool true := hd 6 (by kernel_rfl)
      have e10' := getD_q e10
      exact rop_val (d := 3) (o := _) rfl rfl rfl (v := .bool true) (w' := w') (by go_simp) rfl (Below.refl _ _)
    · intro vs w' hb hφ
      have v6 : vs 6 = .bool true := hφ.2.2.2.2.2.1
      have v7 : vs 7 = .bool true := hφ.2.2.2.2.2.2.1
      clear hHeld hφ
      simp only [setAll, dstOf, List.getElem?_toArray, List.getElem?_cons_zero, List.getElem?_cons_succ, Option.bind_some, Option.getD_some, List.setIfInBounds_toArray, List.set_cons_zero, List.set_cons_succ]
      rw [v6, v7]
      have HB1 := Lib.hid (HB0.out.trans ((below_drew hb).mono HB0.out.size))
      clear hb
      obtain ⟨k0, k1, k2, k3, k4, k5⟩ := six_keep HC0.out HB1.out
      go_wp2_with fail
      clear k0 k1 k2 k3 k4 k5
      refine wp_region_held_drew (S := fun w' => w'.cell? ⟨N, 0, none⟩ = some (.int .i64 n.kind) ∧ w'.cell? ⟨N, 1, none⟩ = some (.int .i64 n.fro) ∧ w'.cell? ⟨N, 2, none⟩ = some (.int .i64 n.till) ∧ w'.cell? ⟨N, 3, none⟩ = some (.int .i64 n.at') ∧ w'.cell? ⟨N, 4, none⟩ = some (.string n.name) ∧ w'.cell? ⟨N, 5, none⟩ = some (.slice ia n.kids.length ic)) (by kernel_rfl) (six_keep HC0.out HB1.out.drew) (fun hHeld => ?_)
      refine wpAnyH_take (i := 0) (oi := ⟨some 11, _, _, _, _, _⟩) (v := ?_) rfl (by kernel_rfl) (by kernel_rfl) (by kernel_rfl) (fun _ _ _ h => h) (Or.inl ⟨by rfl, ?_⟩) hHeld ?_
      rotate_left
      · (intro W hSW; (try dsimp only at hSW); go_simp; first | done | with_reducible rfl)
      try simp only [Act.put, List.setIfInBounds_toArray, List.set_cons_zero, List.set_cons_succ]
      refine wpAnyH_take (i := 1) (oi := ⟨some 12, _, _, _, _, _⟩) (v := ?_) rfl (by kernel_rfl) (by kernel_rfl) (by kernel_rfl) (fun _ _ _ h => h) (Or.inl ⟨by rfl, ?_⟩) hHeld ?_
      rotate_left
      · (intro W hSW; (try dsimp only at hSW); go_simp; first | done | with_reducible rfl)
      try simp only [Act.put, List.setIfInBounds_toArray, List.set_cons_zero, List.set_cons_succ]
      refine wpAnyH_take (i := 2) (oi := ⟨some 13, _, _, _, _, _⟩) (v := undef) rfl (by kernel_rfl) (by kernel_rfl) (by kernel_rfl) (fun _ _ _ h => h) (Or.inr ⟨by rfl, rfl⟩) hHeld ?_
      try simp only [Act.put, List.setIfInBounds_toArray, List.set_cons_zero, List.set_cons_succ]
      refine wpAnyH_take (i := 3) (oi := ⟨some 14, _, _, _, _, _⟩) (v := undef) rfl (by kernel_rfl) (by kernel_rfl) (by kernel_rfl) (fun _ _ _ h => h) (Or.inr ⟨by rfl, rfl⟩) hHeld ?_
      try simp only [Act.put, List.setIfInBounds_toArray, List.set_cons_zero, List.set_cons_succ]
      refine wpAnyH_take (i := 4) (oi := ⟨some 15, _, _, _, _, _⟩) (v := undef) rfl (by kernel_rfl) (by kernel_rfl) (by kernel_rfl) (fun _ _ _ h => h) (Or.inr ⟨by rfl, rfl⟩) hHeld ?_
      try simp only [Act.put, List.setIfInBounds_toArray, List.set_cons_zero, List.set_cons_succ]
      refine wpAnyH_take (i := 5) (oi := ⟨some 16, _, _, _, _, _⟩) (v := undef) rfl (by kernel_rfl) (by kernel_rfl) (by kernel_rfl) (fun _ _ _ h => h) (Or.inr ⟨by rfl, rfl⟩) hHeld ?_
      try simp only [Act.put, List.setIfInBounds_toArray, List.set_cons_zero, List.set_cons_succ]
      refine wpAnyH_take (i := 6) (oi := ⟨some 17, _, _, _, _, _⟩) (v := undef) rfl (by kernel_rfl) (by kernel_rfl) (by kernel_rfl) (fun _ _ _ h => h) (Or.inr ⟨by rfl, rfl⟩) hHeld ?_
      try simp only [Act.put, List.setIfInBounds_toArray, List.set_cons_zero, List.set_cons_succ]
      refine wpAnyH_take (i := 7) (oi := ⟨some 18, _, _, _, _, _⟩) (v := undef) rfl (by kernel_rfl) (by kernel_rfl) (by kernel_rfl) (fun _ _ _ h => h) (Or.inr ⟨by rfl, rfl⟩) hHeld ?_
      try simp only [Act.put, List.setIfInBounds_toArray, List.set_cons_zero, List.set_cons_succ]
      refine wpAnyH_take (i := 8) (oi := ⟨some 19, _, _, _, _, _⟩) (v := undef) rfl (by kernel_rfl) (by kernel_rfl) (by kernel_rfl) (fun _ _ _ h => h) (Or.inr ⟨by rfl, rfl⟩) hHeld ?_
      try simp only [Act.put, List.setIfInBounds_toArray, List.set_cons_zero, List.set_cons_succ]
      refine wpAnyH_take (i := 9) (oi := ⟨some 20, _, _, _, _, _⟩) (v := ?_) rfl (by kernel_rfl) (by kernel_rfl) (by kernel_rfl) (fun _ _ _ h => h) (Or.inl ⟨by rfl, ?_⟩) hHeld ?_
      rotate_left
      · (intro W hSW; (try dsimp only at hSW); go_simp; first | done | with_reducible rfl)
      try simp only [Act.put, List.setIfInBounds_toArray, List.set_cons_zero, List.set_cons_succ]
      refine wpAnyH_take (i := 10) (oi := ⟨some 2, _, _, _, _, _⟩) (v := ?_) rfl (by kernel_rfl) (by kernel_rfl) (by kernel_rfl) (fun _ _ _ h => h) (Or.inl ⟨by rfl, ?_⟩) hHeld ?_
      rotate_left
      · (intro W hSW; (try dsimp only at hSW); go_simp; first | done | with_reducible rfl)
      try simp only [Act.put, List.setIfInBounds_toArray, List.set_cons_zero, List.set_cons_succ]
      refine wpAnyH_done (by kernel_rfl) ?_ _
      clear hHeld
      have HB2 := Lib.hid HB1.out.drew
      obtain ⟨k0, k1, k2, k3, k4, k5⟩ := six_keep HC0.out HB2.out
      go_wp2_with fail
      clear k0 k1 k2 k3 k4 k5
      go_ret
      exact ⟨by rw [HSH.out]; rfl, hb0.out.trans (HB2.out.mono HSZ.out)⟩
  | false =>
    have HSH : Hid (shp tk (f + 1) .var n = madeP n nmB [oneP [shp tk f .ty, shp tk f .nothing], oneP [shp tk f .expr]]) := Lib.hid (by rw [shp, q1]; rfl)
    have Q1 := Lib.hid q1
    clear q1
    generalize hNN : w.heap.size = N at *
    go_enter Tryz.func57, Tryz.ntmps57
    go_wp2_with fail
    clear hNN
    generalize (w.alloc (.cells #[.int .i64 n.kind, .int .i64 n.fro, .int .i64 n.till, .int .i64 n.at', .string n.name, .slice ia n.kids.length ic] 24)) = w1 at *
    have HB0 := Lib.hid (Below.refl w1.heap.size w1)
    refine wp_region_held_drew (S := fun w' => w'.cell? ⟨N, 0, none⟩ = some (.int .i64 n.kind) ∧ w'.cell? ⟨N, 1, none⟩ = some (.int .i64 n.fro) ∧ w'.cell? ⟨N, 2, none⟩ = some (.int .i64 n.till) ∧ w'.cell? ⟨N, 3, none⟩ = some (.int .i64 n.at') ∧ w'.cell? ⟨N, 4, none⟩ = some (.string n.name) ∧ w'.cell? ⟨N, 5, none⟩ = some (.slice ia n.kids.length ic)) (by kernel_rfl) (six_keep HC0.out HB0.out.drew) (fun hHeld => ?_)
    refine wpAnyH_take (i := 0) (oi := ⟨some 4, _, _, _, _, _⟩) (v := ?_) rfl (by kernel_rfl) (by kernel_rfl) (by kernel_rfl) (fun _ _ _ h => h) (Or.inl ⟨by rfl, ?_⟩) hHeld ?_
    rotate_left
    · (intro W hSW; (try dsimp only at hSW); go_simp; first | done | with_reducible rfl)
    try simp only [Act.put, List.setIfInBounds_toArray, List.set_cons_zero, List.set_cons_succ]
    refine region_left (todo := [1, 2, 3, 4, 5, 6, 7]) (φ := fun i => Sp.holds (DD O f) O (match i with | 1 => .frow [(shp tk f .ty)] | 2 => .pt (oneP [(shp tk f .ty)]) | 3 => .frow [(shp tk f .nothing)] | 4 => .pt (oneP [(shp tk f .nothing)]) | 5 => .prow [(oneP [(shp tk f .ty)]), (oneP [(shp tk f .nothing)])] | 6 => .c (.bool false) | 7 => .c (.bool false) | _ => .any)) (by kernel_rfl) (fun i w w' v h hb => Sp.mono _ _ _ h hb) ?_ ⟨?_, ?_, ?_, ?_, ?_, ?_, ?_, trivial⟩ ?_
    · exact fun w' hb => ⟨cell_kept hHeld.1 rfl hb, cell_kept hHeld.2.1 rfl hb, cell_kept hHeld.2.2.1 rfl hb, cell_kept hHeld.2.2.2.1 rfl hb, cell_kept hHeld.2.2.2.2.1 rfl hb, cell_kept hHeld.2.2.2.2.2 rfl hb⟩
    · intro a w' hb hr hd
      clear hHeld
      refine rop_val (d := 5) (o := _) rfl rfl rfl (v := .slice (some ⟨w'.heap.size, 0, none⟩) 1 1) (w' := w'.alloc (.cells #[.func (.func 39) #[] #[]] 53)) (by go_simp) ?_ (alloc_below _ _)
      exact ⟨_, _, rfl, frow_of ⟨Hty.sf _ (keepF _ _ HFA.out (HB0.out.trans ((below_drew hb).mono HB0.out.size))), trivial⟩⟩
    · intro a w' hb hr hd
      clear hHeld
      obtain ⟨A5, c5, e5, q5⟩ := hd 1 (by kernel_rfl)
      have e5 : a.tmps.getD 5 undef = .slice A5 1 c5 := e5
      have e5' := getD_q e5
      refine rop_call (d := 6) (o := _) rfl rfl rfl (f := 41) (args := #[.slice A5 1 c5]) (by go_simp) ?_
      exact one_any w' q5 (by simp) (by simp)
    · intro a w' hb hr hd
      clear hHeld
      refine rop_val (d := 7) (o := _) rfl rfl rfl (v := .slice (some ⟨w'.heap.size, 0, none⟩) 1 1) (w' := w'.alloc (.cells #[.func (.func 42) #[] #[]] 53)) (by go_simp) ?_ (alloc_below _ _)
      exact ⟨_, _, rfl, frow_of ⟨Hnothing.sf _ (keepF _ _ HFA.out (HB0.out.trans ((below_drew hb).mono HB0.out.size))), trivial⟩⟩
    · intro a w' hb hr hd
      clear hHeld
      obtain ⟨A7, c7, e7, q7⟩ := hd 3 (by kernel_rfl)
      have e7 : a.tmps.getD 7 undef = .slice A7 1 c7 := e7
      have e7' := getD_q e7
      refine rop_call (d := 8) (o := _) rfl rfl rfl (f := 41) (args := #[.slice A7 1 c7]) (by go_simp) ?_
      exact one_any w' q7 (by simp) (by simp)
    · intro a w' hb hr hd
      clear hHeld
      have p6 : PtV (DD O f) w' (a.tmps.getD 6 undef) (oneP [(shp tk f .ty)]) := hd 2 (by kernel_rfl)
      obtain ⟨hs6, g6, cap6, e6, r6⟩ := id p6
      rw [e6] at p6
      have e6' := getD_q e6
      have p8 : PtV (DD O f) w' (a.tmps.getD 8 undef) (oneP [(shp tk f .nothing)]) := hd 4 (by kernel_rfl)
      obtain ⟨hs8, g8, cap8, e8, r8⟩ := id p8
      rw [e8] at p8
      have e8' := getD_q e8
      refine rop_val (d := 9) (o := _) rfl rfl rfl (v := .slice (some ⟨w'.heap.size, 0, none⟩) 2 2) (w' := w'.alloc (.cells #[.func (.func g6) #[] cap6, .func (.func g8) #[] cap8] 45)) (by go_simp) ?_ (alloc_below _ _)
      exact ⟨_, _, rfl, prow_of ⟨p6, p8, trivial⟩⟩
    · intro a w' hb hr hd
      clear hHeld
      have e4 : a.tmps.getD 4 undef = .agg #[.int .i64 n.kind, .int .i64 n.fro, .int .i64 n.till, .int .i64 n.at', .string n.name, .slice ia n.kids.length ic] := hr 4 (by kernel_rfl)
      have e4' := getD_q e4
      obtain ⟨A9, c9, e9, q9⟩ := hd 5 (by kernel_rfl)
      have e9 : a.tmps.getD 9 undef = .slice A9 2 c9 := e9
      have e9' := getD_q e9
      refine rop_call (d := 10) (o := _) rfl rfl rfl (f := 27) (args := #[.agg #[.int .i64 n.kind, .int .i64 n.fro, .int .i64 n.till, .int .i64 n.at', .string n.name, .slice ia n.kids.length ic], .func (.func 28) #[] #[], .slice A9 2 c9]) (by go_simp) ?_
      refine (made_any (D := DD O f) (ps := [(oneP [(shp tk f .ty)]), (oneP [(shp tk f .nothing)])]) w' (nm_name O w') q9 HK.out.lim.2.2 HK.out.lim.1 HK.out.kid HK.out.lim.2.1 (by simp) (HN.out.below (HB0.out.trans ((below_drew hb).mono HB0.out.size)))).mono ?_
      rintro e w'' ⟨rfl, hb'⟩
      exact ⟨_, rfl, by rw [Q1.out]; rfl, hb'⟩
    · intro a w' hb hr hd
      clear hHeld
      have e10 : a.tmps.getD 10 undef = .bool false := hd 6 (by kernel_rfl)
      have e10' := getD_q e10
      exact rop_val (d := 3) (o := _) rfl rfl rfl (v := .bool false) (w' := w') (by go_simp) rfl (Below.refl _ _)
    · intro vs w' hb hφ
      have v6 : vs 6 = .bool false := hφ.2.2.2.2.2.1
      have v7 : vs 7 = .bool false := hφ.2.2.2.2.2.2.1
      clear hHeld hφ
      simp only [setAll, dstOf, List.getElem?_toArray, List.getElem?_cons_zero, List.getElem?_cons_succ, Option.bind_some, Option.getD_some, List.setIfInBounds_toArray, List.set_cons_zero, List.set_cons_succ]
      rw [v6, v7]
      have HB1 := Lib.hid (HB0.out.trans ((below_drew hb).mono HB0.out.size))
      clear hb
      obtain ⟨k0, k1, k2, k3, k4, k5⟩ := six_keep HC0.out HB1.out
      go_wp2_with fail
      clear k0 k1 k2 k3 k4 k5
      refine wp_region_held_drew (S := fun w' => w'.cell? ⟨N, 0, none⟩ = some (.int .i64 n.kind) ∧ w'.cell? ⟨N, 1, none⟩ = some (.int .i64 n.fro) ∧ w'.cell? ⟨N, 2, none⟩ = some (.int .i64 n.till) ∧ w'.cell? ⟨N, 3, none⟩ = some (.int .i64 n.at') ∧ w'.cell? ⟨N, 4, none⟩ = some (.string n.name) ∧ w'.cell? ⟨N, 5, none⟩ = some (.slice ia n.kids.length ic)) (by kernel_rfl) (six_keep HC0.out HB1.out.drew) (fun hHeld => ?_)
      refine wpAnyH_take (i := 0) (oi := ⟨some 11, _, _, _, _, _⟩) (v := ?_) rfl (by kernel_rfl) (by kernel_rfl) (by kernel_rfl) (fun _ _ _ h => h) (Or.inl ⟨by rfl, ?_⟩) hHeld ?_
      rotate_left
      · (intro W hSW; (try dsimp only at hSW); go_simp; first | done | with_reducible rfl)
      try simp only [Act.put, List.setIfInBounds_toArray, List.set_cons_zero, List.set_cons_succ]
      refine wpAnyH_take (i := 1) (oi := ⟨some 12, _, _, _, _, _⟩) (v := ?_) rfl (by kernel_rfl) (by kernel_rfl) (by kernel_rfl) (fun _ _ _ h => h) (Or.inl ⟨by rfl, ?_⟩) hHeld ?_
      rotate_left
      · (intro W hSW; (try dsimp only at hSW); go_simp; first | done | with_reducible rfl)
      try simp only [Act.put, List.setIfInBounds_toArray, List.set_cons_zero, List.set_cons_succ]
      refine wpAnyH_take (i := 2) (oi := ⟨some 13, _, _, _, _, _⟩) (v := ?_) rfl (by kernel_rfl) (by kernel_rfl) (by kernel_rfl) (fun _ _ _ h => h) (Or.inl ⟨by rfl, ?_⟩) hHeld ?_
      rotate_left
      · (intro W hSW; (try dsimp only at hSW); go_simp; first | done | with_reducible rfl)
      try simp only [Act.put, List.setIfInBounds_toArray, List.set_cons_zero, List.set_cons_succ]
      refine region_left (todo := [3, 4, 5, 6, 7, 8, 9, 10]) (φ := fun i => Sp.holds (DD O f) O (match i with | 3 => .frow [(shp tk f .ty), (shp tk f .nothing)] | 4 => .pt (oneP [(shp tk f .ty), (shp tk f .nothing)]) | 5 => .frow [(shp tk f .expr)] | 6 => .pt (oneP [(shp tk f .expr)]) | 7 => .prow [(oneP [(shp tk f .ty), (shp tk f .nothing)]), (oneP [(shp tk f .expr)])] | 8 => .c (.bool (madeP n nmB [(oneP [(shp tk f .ty), (shp tk f .nothing)]), (oneP [(shp tk f .expr)])])) | 9 => .c (.bool (madeP n nmB [(oneP [(shp tk f .ty), (shp tk f .nothing)]), (oneP [(shp tk f .expr)])])) | 10 => .c (.bool (madeP n nmB [(oneP [(shp tk f .ty), (shp tk f .nothing)]), (oneP [(shp tk f .expr)])])) | _ => .any)) (by kernel_rfl) (fun i w w' v h hb => Sp.mono _ _ _ h hb) ?_ ⟨?_, ?_, ?_, ?_, ?_, ?_, ?_, ?_, trivial⟩ ?_
      · exact fun w' hb => ⟨cell_kept hHeld.1 rfl hb, cell_kept hHeld.2.1 rfl hb, cell_kept hHeld.2.2.1 rfl hb, cell_kept hHeld.2.2.2.1 rfl hb, cell_kept hHeld.2.2.2.2.1 rfl hb, cell_kept hHeld.2.2.2.2.2 rfl hb⟩
      · intro a w' hb hr hd
        clear hHeld
        have hg : a.tmps.getD 12 undef = .bool false := hr 12 (by kernel_rfl)
        refine rop_val (d := 14) (o := _) rfl rfl (wanted_of rfl rfl hg) (v := .slice (some ⟨w'.heap.size, 0, none⟩) 2 2) (w' := w'.alloc (.cells #[.func (.func 39) #[] #[], .func (.func 42) #[] #[]] 53)) (by go_simp) ?_ (alloc_below _ _)
        exact ⟨_, _, rfl, frow_of ⟨Hty.sf _ (keepF _ _ HFA.out (HB1.out.trans ((below_drew hb).mono HB1.out.size))), Hnothing.sf _ (keepF _ _ HFA.out (HB1.out.trans ((below_drew hb).mono HB1.out.size))), trivial⟩⟩
      · intro a w' hb hr hd
        clear hHeld
        have hg : a.tmps.getD 12 undef = .bool false := hr 12 (by kernel_rfl)
        obtain ⟨A14, c14, e14, q14⟩ := hd 3 (by kernel_rfl)
        have e14 : a.tmps.getD 14 undef = .slice A14 2 c14 := e14
        have e14' := getD_q e14
        refine rop_call (d := 15) (o := _) rfl rfl (wanted_of rfl rfl hg) (f := 41) (args := #[.slice A14 2 c14]) (by go_simp) ?_
        exact one_any w' q14 (by simp) (by simp)
      · intro a w' hb hr hd
        clear hHeld
        have hg : a.tmps.getD 12 undef = .bool false := hr 12 (by kernel_rfl)
        refine rop_val (d := 16) (o := _) rfl rfl (wanted_of rfl rfl hg) (v := .slice (some ⟨w'.heap.size, 0, none⟩) 1 1) (w' := w'.alloc (.cells #[.func (.func 60) #[] #[]] 53)) (by go_simp) ?_ (alloc_below _ _)
        exact ⟨_, _, rfl, frow_of ⟨Hexpr.sf _ (keepF _ _ HFA.out (HB1.out.trans ((below_drew hb).mono HB1.out.size))), trivial⟩⟩
      · intro a w' hb hr hd
        clear hHeld
        have hg : a.tmps.getD 12 undef = .bool false := hr 12 (by kernel_rfl)
        obtain ⟨A16, c16, e16, q16⟩ := hd 5 (by kernel_rfl)
        have e16 : a.tmps.getD 16 undef = .slice A16 1 c16 := e16
        have e16' := getD_q e16
        refine rop_call (d := 17) (o := _) rfl rfl (wanted_of rfl rfl hg) (f := 41) (args := #[.slice A16 1 c16]) (by go_simp) ?_
        exact one_any w' q16 (by simp) (by simp)
      · intro a w' hb hr hd
        clear hHeld
        have hg : a.tmps.getD 12 undef = .bool false := hr 12 (by kernel_rfl)
        have p15 : PtV (DD O f) w' (a.tmps.getD 15 undef) (oneP [(shp tk f .ty), (shp tk f .nothing)]) := hd 4 (by kernel_rfl)
        obtain ⟨hs15, g15, cap15, e15, r15⟩ := id p15
        rw [e15] at p15
        have e15' := getD_q e15
        have p17 : PtV (DD O f) w' (a.tmps.getD 17 undef) (oneP [(shp tk f .expr)]) := hd 6 (by kernel_rfl)
        obtain ⟨hs17, g17, cap17, e17, r17⟩ := id p17
        rw [e17] at p17
        have e17' := getD_q e17
        refine rop_val (d := 18) (o := _) rfl rfl (wanted_of rfl rfl hg) (v := .slice (some ⟨w'.heap.size, 0, none⟩) 2 2) (w' := w'.alloc (.cells #[.func (.func g15) #[] cap15, .func (.func g17) #[] cap17] 45)) (by go_simp) ?_ (alloc_below _ _)
        exact ⟨_, _, rfl, prow_of ⟨p15, p17, trivial⟩⟩
      · intro a w' hb hr hd
        clear hHeld
        have hg : a.tmps.getD 12 undef = .bool false := hr 12 (by kernel_rfl)
        have e13 : a.tmps.getD 13 undef = .agg #[.int .i64 n.kind, .int .i64 n.fro, .int .i64 n.till, .int .i64 n.at', .string n.name, .slice ia n.kids.length ic] := hr 13 (by kernel_rfl)
        have e13' := getD_q e13
        obtain ⟨A18, c18, e18, q18⟩ := hd 7 (by kernel_rfl)
        have e18 : a.tmps.getD 18 undef = .slice A18 2 c18 := e18
        have e18' := getD_q e18
        refine rop_call (d := 19) (o := _) rfl rfl (wanted_of rfl rfl hg) (f := 27) (args := #[.agg #[.int .i64 n.kind, .int .i64 n.fro, .int .i64 n.till, .int .i64 n.at', .string n.name, .slice ia n.kids.length ic], .func (.func 28) #[] #[], .slice A18 2 c18]) (by go_simp) ?_
        refine (made_any (D := DD O f) (ps := [(oneP [(shp tk f .ty), (shp tk f .nothing)]), (oneP [(shp tk f .expr)])]) w' (nm_name O w') q18 HK.out.lim.2.2 HK.out.lim.1 HK.out.kid HK.out.lim.2.1 (by simp) (HN.out.below (HB1.out.trans ((below_drew hb).mono HB1.out.size)))).mono ?_
        rintro e w'' ⟨rfl, hb'⟩
        exact ⟨_, rfl, rfl, hb'⟩
      · intro a w' hb hr hd
        clear hHeld
        have e12 : a.tmps.getD 12 undef = .bool false := hr 12 (by kernel_rfl)
        have e12' := getD_q e12
        have e19 : a.tmps.getD 19 undef = .bool (madeP n nmB [(oneP [(shp tk f .ty), (shp tk f .nothing)]), (oneP [(shp tk f .expr)])]) := hd 8 (by kernel_rfl)
        have e19' := getD_q e19
        exact rop_val (d := 20) (o := _) rfl rfl rfl (v := .bool (madeP n nmB [(oneP [(shp tk f .ty), (shp tk f .nothing)]), (oneP [(shp tk f .expr)])])) (w' := w') (by go_simp) rfl (Below.refl _ _)
      · intro a w' hb hr hd
        clear hHeld
        have e20 : a.tmps.getD 20 undef = .bool (madeP n nmB [(oneP [(shp tk f .ty), (shp tk f .nothing)]), (oneP [(shp tk f .expr)])]) := hd 9 (by kernel_rfl)
        have e20' := getD_q e20
        exact rop_val (d := 2) (o := _) rfl rfl rfl (v := .bool (madeP n nmB [(oneP [(shp tk f .ty), (shp tk f .nothing)]), (oneP [(shp tk f .expr)])])) (w' := w') (by go_simp) rfl (Below.refl _ _)
      · intro vs w' hb hφ
        have v8 : vs 8 = .bool (madeP n nmB [(oneP [(shp tk f .ty), (shp tk f .nothing)]), (oneP [(shp tk f .expr)])]) := hφ.2.2.2.2.2.1
        have v9 : vs 9 = .bool (madeP n nmB [(oneP [(shp tk f .ty), (shp tk f .nothing)]), (oneP [(shp tk f .expr)])]) := hφ.2.2.2.2.2.2.1
        have v10 : vs 10 = .bool (madeP n nmB [(oneP [(shp tk f .ty), (shp tk f .nothing)]), (oneP [(shp tk f .expr)])]) := hφ.2.2.2.2.2.2.2.1
        clear hHeld hφ
        simp only [setAll, dstOf, List.getElem?_toArray, List.getElem?_cons_zero, List.getElem?_cons_succ, Option.bind_some, Option.getD_some, List.setIfInBounds_toArray, List.set_cons_zero, List.set_cons_succ]
        rw [v8, v9, v10]
        have HB2 := Lib.hid (HB1.out.trans ((below_drew hb).mono HB1.out.size))
        clear hb
        obtain ⟨k0, k1, k2, k3, k4, k5⟩ := six_keep HC0.out HB2.out
        go_wp2_with fail
        clear k0 k1 k2 k3 k4 k5
        go_ret
        exact ⟨by rw [HSH.out]; rfl, hb0.out.trans (HB2.out.mono HSZ.out)⟩
set_option maxRecDepth 100000 in
set_option maxHeartbeats 2000000 in
theorem isDecl_s (f : Nat) (keepF : ∀ w w', FAC w → Below w.heap.size w w' → FAC w') (Htypedfalse : ∀ W, FAC W → ∀ k : Int, Calls Tryz.prog 38 #[.int .i64 k, .func (.func 39) #[] #[]] W fun e w' => ∃ v, e = .returned v ∧ FnV (DD O f) w' v (shp tk f (.typed k false)) ∧ Below W.heap.size W w') (Htypedtrue : ∀ W, FAC W → ∀ k : Int, Calls Tryz.prog 38 #[.int .i64 k, .func (.func 40) #[] #[]] W fun e w' => ∃ v, e = .returned v ∧ FnV (DD O f) w' v (shp tk f (.typed k true)) ∧ Below W.heap.size W w') (Hnothing : SL FAC tk O f 42 .nothing) (Hparams : SL FAC tk O f 43 .params) (Hty : SL FAC tk O f 39 .ty) (Hblock : SL FAC tk O f 44 .block) : CL FAC tk O (f + 1) 31 .decl := by
  intro n nv w HFA0 hF hn
  obtain ⟨ia, ic, rfl, hcc, hk⟩ := hn.open
  have hb0 := Lib.hid (alloc_below w (.cells #[.int .i64 n.kind, .int .i64 n.fro, .int .i64 n.till, .int .i64 n.at', .string n.name, .slice ia n.kids.length ic] 24))
  have HSZ := Lib.hid hb0.out.size
  have HFA := Lib.hid (keepF _ _ HFA0 hb0.out)
  have HT := alloc_top w #[.int .i64 n.kind, .int .i64 n.fro, .int .i64 n.till, .int .i64 n.at', .string n.name, .slice ia n.kids.length ic] 24
  have HC0 := Lib.hid (six_cells HT)
  have HN := Lib.hid (NIn.shut (n := n) hcc (hk.below hb0.out))
  have HK := Lib.hid hF
  clear HT hk hn HFA0 hF hcc
  by_cases hkd : n.kind = 3
  · skip
    have HSH : Hid (shp tk (f + 1) .decl n = madeP n nmB [manyP (shp tk f (.typed 4 false))]) := Lib.hid (by rw [shp, hkd]; rfl)
    generalize hNN : w.heap.size = N at *
    generalize n.kind = kd at *
    subst hkd
    go_enter Tryz.func31, Tryz.ntmps31
    go_wp2_with fail
    clear hNN
    generalize (w.alloc (.cells #[.int .i64 3, .int .i64 n.fro, .int .i64 n.till, .int .i64 n.at', .string n.name, .slice ia n.kids.length ic] 24)) = w1 at *
    have HB0 := Lib.hid (Below.refl w1.heap.size w1)
    refine wp_region_held_drew (S := fun w' => w'.cell? ⟨N, 0, none⟩ = some (.int .i64 3) ∧ w'.cell? ⟨N, 1, none⟩ = some (.int .i64 n.fro) ∧ w'.cell? ⟨N, 2, none⟩ = some (.int .i64 n.till) ∧ w'.cell? ⟨N, 3, none⟩ = some (.int .i64 n.at') ∧ w'.cell? ⟨N, 4, none⟩ = some (.string n.name) ∧ w'.cell? ⟨N, 5, none⟩ = some (.slice ia n.kids.length ic)) (by kernel_rfl) (six_keep HC0.out HB0.out.drew) (fun hHeld => ?_)
    refine wpAnyH_take (i := 0) (oi := ⟨some 8, _, _, _, _, _⟩) (v := ?_) rfl (by kernel_rfl) (by kernel_rfl) (by kernel_rfl) (fun _ _ _ h => h) (Or.inl ⟨by rfl, ?_⟩) hHeld ?_
    rotate_left
    · (intro W hSW; (try dsimp only at hSW); go_simp; first | done | with_reducible rfl)
    try simp only [Act.put, List.setIfInBounds_toArray, List.set_cons_zero, List.set_cons_succ]
    refine region_left (todo := [1, 2, 3, 4, 5]) (φ := fun i => Sp.holds (DD O f) O (match i with | 1 => .fn (shp tk f (.typed 4 false)) | 2 => .pt (manyP (shp tk f (.typed 4 false))) | 3 => .prow [(manyP (shp tk f (.typed 4 false)))] | 4 => .c (.bool (madeP n nmB [(manyP (shp tk f (.typed 4 false)))])) | 5 => .c (.bool (madeP n nmB [(manyP (shp tk f (.typed 4 false)))])) | _ => .any)) (by kernel_rfl) (fun i w w' v h hb => Sp.mono _ _ _ h hb) ?_ ⟨?_, ?_, ?_, ?_, ?_, trivial⟩ ?_
    · exact fun w' hb => ⟨cell_kept hHeld.1 rfl hb, cell_kept hHeld.2.1 rfl hb, cell_kept hHeld.2.2.1 rfl hb, cell_kept hHeld.2.2.2.1 rfl hb, cell_kept hHeld.2.2.2.2.1 rfl hb, cell_kept hHeld.2.2.2.2.2 rfl hb⟩
    · intro a w' hb hr hd
      clear hHeld
      refine rop_call (d := 9) (o := _) rfl rfl rfl (f := 38) (args := #[.int .i64 4, .func (.func 39) #[] #[]]) (by go_simp) ?_
      exact Htypedfalse w' (keepF _ _ HFA.out (HB0.out.trans ((below_drew hb).mono HB0.out.size))) 4
    · intro a w' hb hr hd
      clear hHeld
      have p9 : FnV (DD O f) w' (a.tmps.getD 9 undef) (shp tk f (.typed 4 false)) := hd 1 (by kernel_rfl)
      obtain ⟨g9, cap9, e9, r9⟩ := id p9
      rw [e9] at p9
      have e9' := getD_q e9
      refine rop_call (d := 10) (o := _) rfl rfl rfl (f := 29) (args := #[.func (.func g9) #[] cap9]) (by go_simp) ?_
      exact many_any w' p9
    · intro a w' hb hr hd
      clear hHeld
      have p10 : PtV (DD O f) w' (a.tmps.getD 10 undef) (manyP (shp tk f (.typed 4 false))) := hd 2 (by kernel_rfl)
      obtain ⟨hs10, g10, cap10, e10, r10⟩ := id p10
      rw [e10] at p10
      have e10' := getD_q e10
      refine rop_val (d := 11) (o := _) rfl rfl rfl (v := .slice (some ⟨w'.heap.size, 0, none⟩) 1 1) (w' := w'.alloc (.cells #[.func (.func g10) #[] cap10] 45)) (by go_simp) ?_ (alloc_below _ _)
      exact ⟨_, _, rfl, prow_of ⟨p10, trivial⟩⟩
    · intro a w' hb hr hd
      clear hHeld
      have e8 : a.tmps.getD 8 undef = .agg #[.int .i64 3, .int .i64 n.fro, .int .i64 n.till, .int .i64 n.at', .string n.name, .slice ia n.kids.length ic] := hr 8 (by kernel_rfl)
      have e8' := getD_q e8
      obtain ⟨A11, c11, e11, q11⟩ := hd 3 (by kernel_rfl)
      have e11 : a.tmps.getD 11 undef = .slice A11 1 c11 := e11
      have e11' := getD_q e11
      refine rop_call (d := 12) (o := _) rfl rfl rfl (f := 27) (args := #[.agg #[.int .i64 3, .int .i64 n.fro, .int .i64 n.till, .int .i64 n.at', .string n.name, .slice ia n.kids.length ic], .func (.func 28) #[] #[], .slice A11 1 c11]) (by go_simp) ?_
      refine (made_any (D := DD O f) (ps := [(manyP (shp tk f (.typed 4 false)))]) w' (nm_name O w') q11 HK.out.lim.2.2 HK.out.lim.1 HK.out.kid HK.out.lim.2.1 (by simp) (HN.out.below (HB0.out.trans ((below_drew hb).mono HB0.out.size)))).mono ?_
      rintro e w'' ⟨rfl, hb'⟩
      exact ⟨_, rfl, rfl, hb'⟩
    · intro a w' hb hr hd
      clear hHeld
      have e12 : a.tmps.getD 12 undef = .bool (madeP n nmB [(manyP (shp tk f (.typed 4 false)))]) := hd 4 (by kernel_rfl)
      have e12' := getD_q e12
      exact rop_val (d := 2) (o := _) rfl rfl rfl (v := .bool (madeP n nmB [(manyP (shp tk f (.typed 4 false)))])) (w' := w') (by go_simp) rfl (Below.refl _ _)
    · intro vs w' hb hφ
      have v4 : vs 4 = .bool (madeP n nmB [(manyP (shp tk f (.typed 4 false)))]) := hφ.2.2.2.1
      have v5 : vs 5 = .bool (madeP n nmB [(manyP (shp tk f (.typed 4 false)))]) := hφ.2.2.2.2.1
      clear hHeld hφ
      simp only [setAll, dstOf, List.getElem?_toArray, List.getElem?_cons_zero, List.getElem?_cons_succ, Option.bind_some, Option.getD_some, List.setIfInBounds_toArray, List.set_cons_zero, List.set_cons_succ]
      rw [v4, v5]
      have HB1 := Lib.hid (HB0.out.trans ((below_drew hb).mono HB0.out.size))
      clear hb
      obtain ⟨k0, k1, k2, k3, k4, k5⟩ := six_keep HC0.out HB1.out
      go_wp2_with fail
      clear k0 k1 k2 k3 k4 k5
      go_ret
      exact ⟨by rw [HSH.out]; rfl, hb0.out.trans (HB1.out.mono HSZ.out)⟩
  · by_cases hkd5 : n.kind = 5
    · have hkd := hkd5
      have HSH : Hid (shp tk (f + 1) .decl n = madeP n nmB [oneP [shp tk f (.typed 7 true), shp tk f .nothing], oneP [shp tk f .params], oneP [shp tk f .ty, shp tk f .nothing], oneP [shp tk f .block]]) := Lib.hid (by rw [shp, hkd5]; rfl)
      clear hkd5
      generalize hNN : w.heap.size = N at *
      generalize n.kind = kd at *
      subst hkd
      go_enter Tryz.func31, Tryz.ntmps31
      go_wp2_with fail
      clear hNN
      generalize (w.alloc (.cells #[.int .i64 5, .int .i64 n.fro, .int .i64 n.till, .int .i64 n.at', .string n.name, .slice ia n.kids.length ic] 24)) = w1 at *
      have HB0 := Lib.hid (Below.refl w1.heap.size w1)
      refine (Htypedtrue _ (keepF _ _ HFA.out HB0.out) 7).mono ?_
      rintro e w' ⟨v3, rfl, hf3, hb⟩
      have HB1 := Lib.hid (HB0.out.trans (hb.mono HB0.out.size))
      obtain ⟨g3, cap3, rfl, r3⟩ := id hf3
      have HF3 := Lib.hid hf3
      clear hf3 r3
      clear hb
      obtain ⟨k0, k1, k2, k3, k4, k5⟩ := six_keep HC0.out HB1.out
      go_wp2_with fail
      clear k0 k1 k2 k3 k4 k5
      refine wp_region_held_drew (S := fun w' => w'.cell? ⟨N, 0, none⟩ = some (.int .i64 5) ∧ w'.cell? ⟨N, 1, none⟩ = some (.int .i64 n.fro) ∧ w'.cell? ⟨N, 2, none⟩ = some (.int .i64 n.till) ∧ w'.cell? ⟨N, 3, none⟩ = some (.int .i64 n.at') ∧ w'.cell? ⟨N, 4, none⟩ = some (.string n.name) ∧ w'.cell? ⟨N, 5, none⟩ = some (.slice ia n.kids.length ic)) (by kernel_rfl) (six_keep HC0.out HB1.out.drew) (fun hHeld => ?_)
      refine wpAnyH_take (i := 0) (oi := ⟨some 16, _, _, _, _, _⟩) (v := ?_) rfl (by kernel_rfl) (by kernel_rfl) (by kernel_rfl) (fun _ _ _ h => h) (Or.inl ⟨by rfl, ?_⟩) hHeld ?_
      rotate_left
      · (intro W hSW; (try dsimp only at hSW); go_simp; first | done | with_reducible rfl)
      try simp only [Act.put, List.setIfInBounds_toArray, List.set_cons_zero, List.set_cons_succ]
      refine wpAnyH_take (i := 1) (oi := ⟨some 17, _, _, _, _, _⟩) (v := ?_) rfl (by kernel_rfl) (by kernel_rfl) (by kernel_rfl) (fun _ _ _ h => h) (Or.inl ⟨by rfl, ?_⟩) hHeld ?_
      rotate_left
      · (intro W hSW; (try dsimp only at hSW); go_simp; first | done | with_reducible rfl)
      try simp only [Act.put, List.setIfInBounds_toArray, List.set_cons_zero, List.set_cons_succ]
      refine region_left (todo := [2, 3, 4, 5, 6, 7, 8, 9, 10, 11, 12]) (φ := fun i => Sp.holds (DD O f) O (match i with | 2 => .frow [(shp tk f (.typed 7 true)), (shp tk f .nothing)] | 3 => .pt (oneP [(shp tk f (.typed 7 true)), (shp tk f .nothing)]) | 4 => .frow [(shp tk f .params)] | 5 => .pt (oneP [(shp tk f .params)]) | 6 => .frow [(shp tk f .ty), (shp tk f .nothing)] | 7 => .pt (oneP [(shp tk f .ty), (shp tk f .nothing)]) | 8 => .frow [(shp tk f .block)] | 9 => .pt (oneP [(shp tk f .block)]) | 10 => .prow [(oneP [(shp tk f (.typed 7 true)), (shp tk f .nothing)]), (oneP [(shp tk f .params)]), (oneP [(shp tk f .ty), (shp tk f .nothing)]), (oneP [(shp tk f .block)])] | 11 => .c (.bool (madeP n nmB [(oneP [(shp tk f (.typed 7 true)), (shp tk f .nothing)]), (oneP [(shp tk f .params)]), (oneP [(shp tk f .ty), (shp tk f .nothing)]), (oneP [(shp tk f .block)])])) | 12 => .c (.bool (madeP n nmB [(oneP [(shp tk f (.typed 7 true)), (shp tk f .nothing)]), (oneP [(shp tk f .params)]), (oneP [(shp tk f .ty), (shp tk f .nothing)]), (oneP [(shp tk f .block)])])) | _ => .any)) (by kernel_rfl) (fun i w w' v h hb => Sp.mono _ _ _ h hb) ?_ ⟨?_, ?_, ?_, ?_, ?_, ?_, ?_, ?_, ?_, ?_, ?_, trivial⟩ ?_
      · exact fun w' hb => ⟨cell_kept hHeld.1 rfl hb, cell_kept hHeld.2.1 rfl hb, cell_kept hHeld.2.2.1 rfl hb, cell_kept hHeld.2.2.2.1 rfl hb, cell_kept hHeld.2.2.2.2.1 rfl hb, cell_kept hHeld.2.2.2.2.2 rfl hb⟩
      · intro a w' hb hr hd
        clear hHeld
        have e17 := hr 17 (by kernel_rfl)
        have p17 : FnV (DD O f) w' (a.tmps.getD 17 undef) (shp tk f (.typed 7 true)) := by rw [e17]; exact HF3.out.below (below_drew hb)
        clear e17
        obtain ⟨g17, cap17, e17, r17⟩ := id p17
        rw [e17] at p17
        have e17' := getD_q e17
        refine rop_val (d := 18) (o := _) rfl rfl rfl (v := .slice (some ⟨w'.heap.size, 0, none⟩) 2 2) (w' := w'.alloc (.cells #[.func (.func g17) #[] cap17, .func (.func 42) #[] #[]] 53)) (by go_simp) ?_ (alloc_below _ _)
        exact ⟨_, _, rfl, frow_of ⟨p17, Hnothing.sf _ (keepF _ _ HFA.out (HB1.out.trans ((below_drew hb).mono HB1.out.size))), trivial⟩⟩
      · intro a w' hb hr hd
        clear hHeld
        obtain ⟨A18, c18, e18, q18⟩ := hd 2 (by kernel_rfl)
        have e18 : a.tmps.getD 18 undef = .slice A18 2 c18 := e18
        have e18' := getD_q e18
        refine rop_call (d := 19) (o := _) rfl rfl rfl (f := 41) (args := #[.slice A18 2 c18]) (by go_simp) ?_
        exact one_any w' q18 (by simp) (by simp)
      · intro a w' hb hr hd
        clear hHeld
        refine rop_val (d := 20) (o := _) rfl rfl rfl (v := .slice (some ⟨w'.heap.size, 0, none⟩) 1 1) (w' := w'.alloc (.cells #[.func (.func 43) #[] #[]] 53)) (by go_simp) ?_ (alloc_below _ _)
        exact ⟨_, _, rfl, frow_of ⟨Hparams.sf _ (keepF _ _ HFA.out (HB1.out.trans ((below_drew hb).mono HB1.out.size))), trivial⟩⟩
      · intro a w' hb hr hd
        clear hHeld
        obtain ⟨A20, c20, e20, q20⟩ := hd 4 (by kernel_rfl)
        have e20 : a.tmps.getD 20 undef = .slice A20 1 c20 := e20
        have e20' := getD_q e20
        refine rop_call (d := 21) (o := _) rfl rfl rfl (f := 41) (args := #[.slice A20 1 c20]) (by go_simp) ?_
        exact one_any w' q20 (by simp) (by simp)
      · intro a w' hb hr hd
        clear hHeld
        refine rop_val (d := 22) (o := _) rfl rfl rfl (v := .slice (some ⟨w'.heap.size, 0, none⟩) 2 2) (w' := w'.alloc (.cells #[.func (.func 39) #[] #[], .func (.func 42) #[] #[]] 53)) (by go_simp) ?_ (alloc_below _ _)
        exact ⟨_, _, rfl, frow_of ⟨Hty.sf _ (keepF _ _ HFA.out (HB1.out.trans ((below_drew hb).mono HB1.out.size))), Hnothing.sf _ (keepF _ _ HFA.out (HB1.out.trans ((below_drew hb).mono HB1.out.size))), trivial⟩⟩
      · intro a w' hb hr hd
        clear hHeld
        obtain ⟨A22, c22, e22, q22⟩ := hd 6 (by kernel_rfl)
        have e22 : a.tmps.getD 22 undef = .slice A22 2 c22 := e22
        have e22' := getD_q e22
        refine rop_call (d := 23) (o := _) rfl rfl rfl (f := 41) (args := #[.slice A22 2 c22]) (by go_simp) ?_
        exact one_any w' q22 (by simp) (by simp)
      · intro a w' hb hr hd
        clear hHeld
        refine rop_val (d := 24) (o := _) rfl rfl rfl (v := .slice (some ⟨w'.heap.size, 0, none⟩) 1 1) (w' := w'.alloc (.cells #[.func (.func 44) #[] #[]] 53)) (by go_simp) ?_ (alloc_below _ _)
        exact ⟨_, _, rfl, frow_of ⟨Hblock.sf _ (keepF _ _ HFA.out (HB1.out.trans ((below_drew hb).mono HB1.out.size))), trivial⟩⟩
      · intro a w' hb hr hd
        clear hHeld
        obtain ⟨A24, c24, e24, q24⟩ := hd 8 (by kernel_rfl)
        have e24 : a.tmps.getD 24 undef = .slice A24 1 c24 := e24
        have e24' := getD_q e24
        refine rop_call (d := 25) (o := _) rfl rfl rfl (f := 41) (args := #[.slice A24 1 c24]) (by go_simp) ?_
        exact one_any w' q24 (by simp) (by simp)
      · intro a w' hb hr hd
        clear hHeld
        have p19 : PtV (DD O f) w' (a.tmps.getD 19 undef) (oneP [(shp tk f (.typed 7 true)), (shp tk f .nothing)]) := hd 3 (by kernel_rfl)
        obtain ⟨hs19, g19, cap19, e19, r19⟩ := id p19
        rw [e19] at p19
        have e19' := getD_q e19
        have p21 : PtV (DD O f) w' (a.tmps.getD 21 undef) (oneP [(shp tk f .params)]) := hd 5 (by kernel_rfl)
        obtain ⟨hs21, g21, cap21, e21, r21⟩ := id p21
        rw [e21] at p21
        have e21' := getD_q e21
        have p23 : PtV (DD O f) w' (a.tmps.getD 23 undef) (oneP [(shp tk f .ty), (shp tk f .nothing)]) := hd 7 (by kernel_rfl)
        obtain ⟨hs23, g23, cap23, e23, r23⟩ := id p23
        rw [e23] at p23
        have e23' := getD_q e23
        have p25 : PtV (DD O f) w' (a.tmps.getD 25 undef) (oneP [(shp tk f .block)]) := hd 9 (by kernel_rfl)
        obtain ⟨hs25, g25, cap25, e25, r25⟩ := id p25
        rw [e25] at p25
        have e25' := getD_q e25
        refine rop_val (d := 26) (o := _) rfl rfl rfl (v := .slice (some ⟨w'.heap.size, 0, none⟩) 4 4) (w' := w'.alloc (.cells #[.func (.func g19) #[] cap19, .func (.func g21) #[] cap21, .func (.func g23) #[] cap23, .func (.func g25) #[] cap25] 45)) (by go_simp) ?_ (alloc_below _ _)
        exact ⟨_, _, rfl, prow_of ⟨p19, p21, p23, p25, trivial⟩⟩
      · intro a w' hb hr hd
        clear hHeld
        have e16 : a.tmps.getD 16 undef = .agg #[.int .i64 5, .int .i64 n.fro, .int .i64 n.till, .int .i64 n.at', .string n.name, .slice ia n.kids.length ic] := hr 16 (by kernel_rfl)
        have e16' := getD_q e16
        obtain ⟨A26, c26, e26, q26⟩ := hd 10 (by kernel_rfl)
        have e26 : a.tmps.getD 26 undef = .slice A26 4 c26 := e26
        have e26' := getD_q e26
        refine rop_call (d := 27) (o := _) rfl rfl rfl (f := 27) (args := #[.agg #[.int .i64 5, .int .i64 n.fro, .int .i64 n.till, .int .i64 n.at', .string n.name, .slice ia n.kids.length ic], .func (.func 28) #[] #[], .slice A26 4 c26]) (by go_simp) ?_
        refine (made_any (D := DD O f) (ps := [(oneP [(shp tk f (.typed 7 true)), (shp tk f .nothing)]), (oneP [(shp tk f .params)]), (oneP [(shp tk f .ty), (shp tk f .nothing)]), (oneP [(shp tk f .block)])]) w' (nm_name O w') q26 HK.out.lim.2.2 HK.out.lim.1 HK.out.kid HK.out.lim.2.1 (by simp) (HN.out.below (HB1.out.trans ((below_drew hb).mono HB1.out.size)))).mono ?_
        rintro e w'' ⟨rfl, hb'⟩
        exact ⟨_, rfl, rfl, hb'⟩
      · intro a w' hb hr hd
        clear hHeld
        have e27 : a.tmps.getD 27 undef = .bool (madeP n nmB [(oneP [(shp tk f (.typed 7 true)), (shp tk f .nothing)]), (oneP [(shp tk f .params)]), (oneP [(shp tk f .ty), (shp tk f .nothing)]), (oneP [(shp tk f .block)])]) := hd 11 (by kernel_rfl)
        have e27' := getD_q e27
        exact rop_val (d := 2) (o := _) rfl rfl rfl (v := .bool (madeP n nmB [(oneP [(shp tk f (.typed 7 true)), (shp tk f .nothing)]), (oneP [(shp tk f .params)]), (oneP [(shp tk f .ty), (shp tk f .nothing)]), (oneP [(shp tk f .block)])])) (w' := w') (by go_simp) rfl (Below.refl _ _)
      · intro vs w' hb hφ
        have v11 : vs 11 = .bool (madeP n nmB [(oneP [(shp tk f (.typed 7 true)), (shp tk f .nothing)]), (oneP [(shp tk f .params)]), (oneP [(shp tk f .ty), (shp tk f .nothing)]), (oneP [(shp tk f .block)])]) := hφ.2.2.2.2.2.2.2.2.2.1
        have v12 : vs 12 = .bool (madeP n nmB [(oneP [(shp tk f (.typed 7 true)), (shp tk f .nothing)]), (oneP [(shp tk f .params)]), (oneP [(shp tk f .ty), (shp tk f .nothing)]), (oneP [(shp tk f .block)])]) := hφ.2.2.2.2.2.2.2.2.2.2.1
        clear hHeld hφ
        simp only [setAll, dstOf, List.getElem?_toArray, List.getElem?_cons_zero, List.getElem?_cons_succ, Option.bind_some, Option.getD_some, List.setIfInBounds_toArray, List.set_cons_zero, List.set_cons_succ]
        rw [v11, v12]
        have HB2 := Lib.hid (HB1.out.trans ((below_drew hb).mono HB1.out.size))
        clear hb
        obtain ⟨k0, k1, k2, k3, k4, k5⟩ := six_keep HC0.out HB2.out
        go_wp2_with fail
        clear k0 k1 k2 k3 k4 k5
        go_ret
        exact ⟨by rw [HSH.out]; rfl, hb0.out.trans (HB2.out.mono HSZ.out)⟩
    · skip
      have HSH : Hid (shp tk (f + 1) .decl n = false) := Lib.hid (by rw [shp]; simp [hkd, hkd5])
      have hkd' : (n.kind == 3) = false := by simpa using hkd
      have hkd5' : (n.kind == 5) = false := by simpa using hkd5
      clear hkd hkd5
      generalize hNN : w.heap.size = N at *
      go_enter Tryz.func31, Tryz.ntmps31
      go_wp2_with fail
      clear hNN
      generalize (w.alloc (.cells #[.int .i64 n.kind, .int .i64 n.fro, .int .i64 n.till, .int .i64 n.at', .string n.name, .slice ia n.kids.length ic] 24)) = w1 at *
      have HB0 := Lib.hid (Below.refl w1.heap.size w1)
      go_ret
      exact ⟨by rw [HSH.out]; rfl, hb0.out.trans (HB0.out.mono HSZ.out)⟩
end Go.Proofs.YtkpddjbdmjbefaaGreatDoor
