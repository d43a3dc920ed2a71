/-
  ast shapes: calls, operands. (Written by wip/tools/genshape10.py.)
-/
import Derived.Test.YtkpddjbdmjbefaaGreatDoorNS2
namespace Go.Proofs.YtkpddjbdmjbefaaGreatDoor
open Go.RowKit
variable {tk : Int → ByteArray → Bool} {O : ByteArray → Prop} {FAC : World → Prop}
set_option maxRecDepth 100000 in
set_option maxHeartbeats 2000000 in
theorem isCall_s (f : Nat) (keepF : ∀ w w', FAC w → Below w.heap.size w w' → FAC w') (Hexpr : SL FAC tk O f 60 .expr) : CL FAC tk O (f + 1) 70 .call := by
  intro n nv w HFA0 hF hn
  obtain ⟨ia, ic, rfl, hcc, hk⟩ := hn.open
  have hb0 := Lib.hid (alloc_below w (.cells #[.int .i64 n.kind, .int .i64 n.fro, .int .i64 n.till, .int .i64 n.at', .string n.name, .slice ia n.kids.length ic] 24))
  have HSZ := Lib.hid hb0.out.size
  have HFA := Lib.hid (keepF _ _ HFA0 hb0.out)
  have HT := alloc_top w #[.int .i64 n.kind, .int .i64 n.fro, .int .i64 n.till, .int .i64 n.at', .string n.name, .slice ia n.kids.length ic] 24
  have HC0 := Lib.hid (six_cells HT)
  have HN := Lib.hid (NIn.shut (n := n) hcc (hk.below hb0.out))
  have HK := Lib.hid hF
  clear HT hk hn HFA0 hF hcc
  by_cases h27 : n.kind = 27
  · have hkd := h27
    have HSH : Hid (shp tk (f + 1) .call n = shp tk f .expr n) := Lib.hid (by rw [shp, hkd]; rfl)
    have C170 := Lib.hid (fun (W : World) (hb : Below (w.alloc (.cells #[.int .i64 n.kind, .int .i64 n.fro, .int .i64 n.till, .int .i64 n.at', .string n.name, .slice ia n.kids.length ic] 24)).heap.size (w.alloc (.cells #[.int .i64 n.kind, .int .i64 n.fro, .int .i64 n.till, .int .i64 n.at', .string n.name, .slice ia n.kids.length ic] 24)) W) => Hexpr.cl n _ W (keepF _ _ HFA.out hb) (HK.out.same (by decide)) (HN.out.below hb))
    clear h27
    generalize hNN : w.heap.size = N at *
    generalize n.kind = kd at *
    subst hkd
    go_enter Tryz.func70, Tryz.ntmps70
    go_wp2_with fail
    clear hNN
    generalize (w.alloc (.cells #[.int .i64 27, .int .i64 n.fro, .int .i64 n.till, .int .i64 n.at', .string n.name, .slice ia n.kids.length ic] 24)) = w1 at *
    have HB0 := Lib.hid (Below.refl w1.heap.size w1)
    refine (C170.out _ HB0.out).mono ?_
    rintro e w' ⟨rfl, hb⟩
    have HB1 := Lib.hid (HB0.out.trans (hb.mono HB0.out.size))
    clear hb
    obtain ⟨k0, k1, k2, k3, k4, k5⟩ := six_keep HC0.out HB1.out
    go_wp2_with fail
    clear k0 k1 k2 k3 k4 k5
    go_ret
    exact ⟨by rw [HSH.out]; rfl, hb0.out.trans (HB1.out.mono HSZ.out)⟩
  · by_cases h32 : n.kind = 32
    · have hkd := h32
      by_cases hp : n.name.data.toList = [112, 114, 105, 110, 116]
      · have e1 : (n.name.toList == [112, 114, 105, 110, 116]) = true := tl_eq hp
        have HSH : Hid (shp tk (f + 1) .call n = shp tk f .expr n) := Lib.hid (by rw [shp, hkd]; unfold wdB; simp [hp])
        have C170 := Lib.hid (fun (W : World) (hb : Below (w.alloc (.cells #[.int .i64 n.kind, .int .i64 n.fro, .int .i64 n.till, .int .i64 n.at', .string n.name, .slice ia n.kids.length ic] 24)).heap.size (w.alloc (.cells #[.int .i64 n.kind, .int .i64 n.fro, .int .i64 n.till, .int .i64 n.at', .string n.name, .slice ia n.kids.length ic] 24)) W) => Hexpr.cl n _ W (keepF _ _ HFA.out hb) (HK.out.same (by decide)) (HN.out.below hb))
        clear h27 h32 hp
        generalize hNN : w.heap.size = N at *
        generalize n.kind = kd at *
        subst hkd
        go_enter Tryz.func70, Tryz.ntmps70
        go_wp2_with fail
        clear hNN
        generalize (w.alloc (.cells #[.int .i64 32, .int .i64 n.fro, .int .i64 n.till, .int .i64 n.at', .string n.name, .slice ia n.kids.length ic] 24)) = w1 at *
        have HB0 := Lib.hid (Below.refl w1.heap.size w1)
        refine (C170.out _ HB0.out).mono ?_
        rintro e w' ⟨rfl, hb⟩
        have HB1 := Lib.hid (HB0.out.trans (hb.mono HB0.out.size))
        clear hb
        obtain ⟨k0, k1, k2, k3, k4, k5⟩ := six_keep HC0.out HB1.out
        go_wp2_with fail
        clear k0 k1 k2 k3 k4 k5
        go_ret
        exact ⟨by rw [HSH.out]; rfl, hb0.out.trans (HB1.out.mono HSZ.out)⟩
      · have e1 : (n.name.toList == [112, 114, 105, 110, 116]) = false := tl_no hp
        by_cases hq : n.name.data.toList = [112, 97, 110, 105, 99]
        · have e2 : (n.name.toList == [112, 97, 110, 105, 99]) = true := tl_eq hq
          have HSH : Hid (shp tk (f + 1) .call n = shp tk f .expr n) := Lib.hid (by rw [shp, hkd]; unfold wdB; simp [hq])
          have C170 := Lib.hid (fun (W : World) (hb : Below (w.alloc (.cells #[.int .i64 n.kind, .int .i64 n.fro, .int .i64 n.till, .int .i64 n.at', .string n.name, .slice ia n.kids.length ic] 24)).heap.size (w.alloc (.cells #[.int .i64 n.kind, .int .i64 n.fro, .int .i64 n.till, .int .i64 n.at', .string n.name, .slice ia n.kids.length ic] 24)) W) => Hexpr.cl n _ W (keepF _ _ HFA.out hb) (HK.out.same (by decide)) (HN.out.below hb))
          clear h27 h32 hp hq
          generalize hNN : w.heap.size = N at *
          generalize n.kind = kd at *
          subst hkd
          go_enter Tryz.func70, Tryz.ntmps70
          go_wp2_with fail
          clear hNN
          generalize (w.alloc (.cells #[.int .i64 32, .int .i64 n.fro, .int .i64 n.till, .int .i64 n.at', .string n.name, .slice ia n.kids.length ic] 24)) = w1 at *
          have HB0 := Lib.hid (Below.refl w1.heap.size w1)
          refine (C170.out _ HB0.out).mono ?_
          rintro e w' ⟨rfl, hb⟩
          have HB1 := Lib.hid (HB0.out.trans (hb.mono HB0.out.size))
          clear hb
          obtain ⟨k0, k1, k2, k3, k4, k5⟩ := six_keep HC0.out HB1.out
          go_wp2_with fail
          clear k0 k1 k2 k3 k4 k5
          go_ret
          exact ⟨by rw [HSH.out]; rfl, hb0.out.trans (HB1.out.mono HSZ.out)⟩
        · have e2 : (n.name.toList == [112, 97, 110, 105, 99]) = false := tl_no hq
          have HSH : Hid (shp tk (f + 1) .call n = false) := Lib.hid (by rw [shp, hkd]; unfold wdB; simp [hp, hq])
          clear h27 h32 hp hq
          generalize hNN : w.heap.size = N at *
          generalize n.kind = kd at *
          subst hkd
          go_enter Tryz.func70, Tryz.ntmps70
          go_wp2_with fail
          clear hNN
          generalize (w.alloc (.cells #[.int .i64 32, .int .i64 n.fro, .int .i64 n.till, .int .i64 n.at', .string n.name, .slice ia n.kids.length ic] 24)) = w1 at *
          have HB0 := Lib.hid (Below.refl w1.heap.size w1)
          go_ret
          exact ⟨by rw [HSH.out]; rfl, hb0.out.trans (HB0.out.mono HSZ.out)⟩
    · skip
      have HSH : Hid (shp tk (f + 1) .call n = false) := Lib.hid (by rw [shp]; simp [h27, h32])
      have g27 : (n.kind == 27) = false := by simpa using h27
      have g32 : (n.kind == 32) = false := by simpa using h32
      clear h27 h32
      generalize hNN : w.heap.size = N at *
      go_enter Tryz.func70, Tryz.ntmps70
      go_wp2_with fail
      clear hNN
      generalize (w.alloc (.cells #[.int .i64 n.kind, .int .i64 n.fro, .int .i64 n.till, .int .i64 n.at', .string n.name, .slice ia n.kids.length ic] 24)) = w1 at *
      have HB0 := Lib.hid (Below.refl w1.heap.size w1)
      go_ret
      exact ⟨by rw [HSH.out]; rfl, hb0.out.trans (HB0.out.mono HSZ.out)⟩
set_option maxRecDepth 100000 in
set_option maxHeartbeats 2000000 in
theorem isOperand_s (f : Nat) (keepF : ∀ w w', FAC w → Below w.heap.size w w' → FAC w') (Htok : ∀ W, FAC W → ∀ k : Int, 3 ≤ k ∧ k ≤ 5 → Calls Tryz.prog 81 #[.int .i64 k] W fun e w' => ∃ v, e = .returned v ∧ NmV O w' v (tk k) ∧ Below W.heap.size W w') (Hident : SL FAC tk O f 54 .ident) (Hexpr : SL FAC tk O f 60 .expr) (Hsel : SL FAC tk O f 82 .sel) (Hown : SL FAC tk O f 40 .own) (Hfar : SL FAC tk O f 48 .far) (Hkeyed : SL FAC tk O f 83 .keyed) : CL FAC tk O (f + 1) 78 .operand := by
  intro n nv w HFA0 hF hn
  obtain ⟨ia, ic, rfl, hcc, hk⟩ := hn.open
  have hb0 := Lib.hid (alloc_below w (.cells #[.int .i64 n.kind, .int .i64 n.fro, .int .i64 n.till, .int .i64 n.at', .string n.name, .slice ia n.kids.length ic] 24))
  have HSZ := Lib.hid hb0.out.size
  have HFA := Lib.hid (keepF _ _ HFA0 hb0.out)
  have HT := alloc_top w #[.int .i64 n.kind, .int .i64 n.fro, .int .i64 n.till, .int .i64 n.at', .string n.name, .slice ia n.kids.length ic] 24
  have HC0 := Lib.hid (six_cells HT)
  have HN := Lib.hid (NIn.shut (n := n) hcc (hk.below hb0.out))
  have HK := Lib.hid hF
  clear HT hk hn HFA0 hF hcc
  by_cases h21 : n.kind = 21
  · have hkd := h21
    have HSH : Hid (shp tk (f + 1) .operand n = madeP n (tk 3) []) := Lib.hid (by rw [shp, hkd]; rfl)
    clear h21
    generalize hNN : w.heap.size = N at *
    generalize n.kind = kd at *
    subst hkd
    go_enter Tryz.func78, Tryz.ntmps78
    go_wp2_with fail
    clear hNN
    generalize (w.alloc (.cells #[.int .i64 21, .int .i64 n.fro, .int .i64 n.till, .int .i64 n.at', .string n.name, .slice ia n.kids.length ic] 24)) = w1 at *
    have HB0 := Lib.hid (Below.refl w1.heap.size w1)
    refine wp_region_held_drew (S := fun w' => w'.cell? ⟨N, 0, none⟩ = some (.int .i64 21) ∧ w'.cell? ⟨N, 1, none⟩ = some (.int .i64 n.fro) ∧ w'.cell? ⟨N, 2, none⟩ = some (.int .i64 n.till) ∧ w'.cell? ⟨N, 3, none⟩ = some (.int .i64 n.at') ∧ w'.cell? ⟨N, 4, none⟩ = some (.string n.name) ∧ w'.cell? ⟨N, 5, none⟩ = some (.slice ia n.kids.length ic)) (by kernel_rfl) (six_keep HC0.out HB0.out.drew) (fun hHeld => ?_)
    refine wpAnyH_take (i := 0) (oi := ⟨some 7, _, _, _, _, _⟩) (v := ?_) rfl (by kernel_rfl) (by kernel_rfl) (by kernel_rfl) (fun _ _ _ h => h) (Or.inl ⟨by rfl, ?_⟩) hHeld ?_
    rotate_left
    · (intro W hSW; (try dsimp only at hSW); go_simp; first | done | with_reducible rfl)
    try simp only [Act.put, List.setIfInBounds_toArray, List.set_cons_zero, List.set_cons_succ]
    refine region_left (todo := [1, 2, 3]) (φ := fun i => Sp.holds (DD O f) O (match i with | 1 => .nm (tk 3) | 2 => .c (.bool (madeP n (tk 3) [])) | 3 => .c (.bool (madeP n (tk 3) [])) | _ => .any)) (by kernel_rfl) (fun i w w' v h hb => Sp.mono _ _ _ h hb) ?_ ⟨?_, ?_, ?_, trivial⟩ ?_
    · exact fun w' hb => ⟨cell_kept hHeld.1 rfl hb, cell_kept hHeld.2.1 rfl hb, cell_kept hHeld.2.2.1 rfl hb, cell_kept hHeld.2.2.2.1 rfl hb, cell_kept hHeld.2.2.2.2.1 rfl hb, cell_kept hHeld.2.2.2.2.2 rfl hb⟩
    · intro a w' hb hr hd
      clear hHeld
      refine rop_call (d := 8) (o := _) rfl rfl rfl (f := 81) (args := #[.int .i64 3]) (by go_simp) ?_
      exact Htok w' (keepF _ _ HFA.out (HB0.out.trans ((below_drew hb).mono HB0.out.size))) 3 (by omega)
    · intro a w' hb hr hd
      clear hHeld
      have e7 : a.tmps.getD 7 undef = .agg #[.int .i64 21, .int .i64 n.fro, .int .i64 n.till, .int .i64 n.at', .string n.name, .slice ia n.kids.length ic] := hr 7 (by kernel_rfl)
      have e7' := getD_q e7
      have p8 : NmV O w' (a.tmps.getD 8 undef) (tk 3) := hd 1 (by kernel_rfl)
      obtain ⟨g8, cap8, e8, r8⟩ := id p8
      rw [e8] at p8
      have e8' := getD_q e8
      refine rop_call (d := 9) (o := _) rfl rfl rfl (f := 27) (args := #[.agg #[.int .i64 21, .int .i64 n.fro, .int .i64 n.till, .int .i64 n.at', .string n.name, .slice ia n.kids.length ic], .func (.func g8) #[] cap8, .slice none 0 0]) (by go_simp) ?_
      refine (made_any (D := DD O f) (ps := []) w' p8 (prow_nil none) HK.out.lim.2.2 HK.out.lim.1 HK.out.kid HK.out.lim.2.1 (by simp) (HN.out.below (HB0.out.trans ((below_drew hb).mono HB0.out.size)))).mono ?_
      rintro e w'' ⟨rfl, hb'⟩
      exact ⟨_, rfl, rfl, hb'⟩
    · intro a w' hb hr hd
      clear hHeld
      have e9 : a.tmps.getD 9 undef = .bool (madeP n (tk 3) []) := hd 2 (by kernel_rfl)
      have e9' := getD_q e9
      exact rop_val (d := 2) (o := _) rfl rfl rfl (v := .bool (madeP n (tk 3) [])) (w' := w') (by go_simp) rfl (Below.refl _ _)
    · intro vs w' hb hφ
      have v2 : vs 2 = .bool (madeP n (tk 3) []) := hφ.2.1
      have v3 : vs 3 = .bool (madeP n (tk 3) []) := hφ.2.2.1
      clear hHeld hφ
      simp only [setAll, dstOf, List.getElem?_toArray, List.getElem?_cons_zero, List.getElem?_cons_succ, Option.bind_some, Option.getD_some, List.setIfInBounds_toArray, List.set_cons_zero, List.set_cons_succ]
      rw [v2, v3]
      have HB1 := Lib.hid (HB0.out.trans ((below_drew hb).mono HB0.out.size))
      clear hb
      obtain ⟨k0, k1, k2, k3, k4, k5⟩ := six_keep HC0.out HB1.out
      go_wp2_with fail
      clear k0 k1 k2 k3 k4 k5
      go_ret
      exact ⟨by rw [HSH.out]; rfl, hb0.out.trans (HB1.out.mono HSZ.out)⟩
  · by_cases h22 : n.kind = 22
    · have hkd := h22
      have HSH : Hid (shp tk (f + 1) .operand n = madeP n (tk 4) []) := Lib.hid (by rw [shp, hkd]; rfl)
      clear h21 h22
      generalize hNN : w.heap.size = N at *
      generalize n.kind = kd at *
      subst hkd
      go_enter Tryz.func78, Tryz.ntmps78
      go_wp2_with fail
      clear hNN
      generalize (w.alloc (.cells #[.int .i64 22, .int .i64 n.fro, .int .i64 n.till, .int .i64 n.at', .string n.name, .slice ia n.kids.length ic] 24)) = w1 at *
      have HB0 := Lib.hid (Below.refl w1.heap.size w1)
      refine wp_region_held_drew (S := fun w' => w'.cell? ⟨N, 0, none⟩ = some (.int .i64 22) ∧ w'.cell? ⟨N, 1, none⟩ = some (.int .i64 n.fro) ∧ w'.cell? ⟨N, 2, none⟩ = some (.int .i64 n.till) ∧ w'.cell? ⟨N, 3, none⟩ = some (.int .i64 n.at') ∧ w'.cell? ⟨N, 4, none⟩ = some (.string n.name) ∧ w'.cell? ⟨N, 5, none⟩ = some (.slice ia n.kids.length ic)) (by kernel_rfl) (six_keep HC0.out HB0.out.drew) (fun hHeld => ?_)
      refine wpAnyH_take (i := 0) (oi := ⟨some 12, _, _, _, _, _⟩) (v := ?_) rfl (by kernel_rfl) (by kernel_rfl) (by kernel_rfl) (fun _ _ _ h => h) (Or.inl ⟨by rfl, ?_⟩) hHeld ?_
      rotate_left
      · (intro W hSW; (try dsimp only at hSW); go_simp; first | done | with_reducible rfl)
      try simp only [Act.put, List.setIfInBounds_toArray, List.set_cons_zero, List.set_cons_succ]
      refine region_left (todo := [1, 2, 3]) (φ := fun i => Sp.holds (DD O f) O (match i with | 1 => .nm (tk 4) | 2 => .c (.bool (madeP n (tk 4) [])) | 3 => .c (.bool (madeP n (tk 4) [])) | _ => .any)) (by kernel_rfl) (fun i w w' v h hb => Sp.mono _ _ _ h hb) ?_ ⟨?_, ?_, ?_, trivial⟩ ?_
      · exact fun w' hb => ⟨cell_kept hHeld.1 rfl hb, cell_kept hHeld.2.1 rfl hb, cell_kept hHeld.2.2.1 rfl hb, cell_kept hHeld.2.2.2.1 rfl hb, cell_kept hHeld.2.2.2.2.1 rfl hb, cell_kept hHeld.2.2.2.2.2 rfl hb⟩
      · intro a w' hb hr hd
        clear hHeld
        refine rop_call (d := 13) (o := _) rfl rfl rfl (f := 81) (args := #[.int .i64 4]) (by go_simp) ?_
        exact Htok w' (keepF _ _ HFA.out (HB0.out.trans ((below_drew hb).mono HB0.out.size))) 4 (by omega)
      · intro a w' hb hr hd
        clear hHeld
        have e12 : a.tmps.getD 12 undef = .agg #[.int .i64 22, .int .i64 n.fro, .int .i64 n.till, .int .i64 n.at', .string n.name, .slice ia n.kids.length ic] := hr 12 (by kernel_rfl)
        have e12' := getD_q e12
        have p13 : NmV O w' (a.tmps.getD 13 undef) (tk 4) := hd 1 (by kernel_rfl)
        obtain ⟨g13, cap13, e13, r13⟩ := id p13
        rw [e13] at p13
        have e13' := getD_q e13
        refine rop_call (d := 14) (o := _) rfl rfl rfl (f := 27) (args := #[.agg #[.int .i64 22, .int .i64 n.fro, .int .i64 n.till, .int .i64 n.at', .string n.name, .slice ia n.kids.length ic], .func (.func g13) #[] cap13, .slice none 0 0]) (by go_simp) ?_
        refine (made_any (D := DD O f) (ps := []) w' p13 (prow_nil none) HK.out.lim.2.2 HK.out.lim.1 HK.out.kid HK.out.lim.2.1 (by simp) (HN.out.below (HB0.out.trans ((below_drew hb).mono HB0.out.size)))).mono ?_
        rintro e w'' ⟨rfl, hb'⟩
        exact ⟨_, rfl, rfl, hb'⟩
      · intro a w' hb hr hd
        clear hHeld
        have e14 : a.tmps.getD 14 undef = .bool (madeP n (tk 4) []) := hd 2 (by kernel_rfl)
        have e14' := getD_q e14
        exact rop_val (d := 2) (o := _) rfl rfl rfl (v := .bool (madeP n (tk 4) [])) (w' := w') (by go_simp) rfl (Below.refl _ _)
      · intro vs w' hb hφ
        have v2 : vs 2 = .bool (madeP n (tk 4) []) := hφ.2.1
        have v3 : vs 3 = .bool (madeP n (tk 4) []) := hφ.2.2.1
        clear hHeld hφ
        simp only [setAll, dstOf, List.getElem?_toArray, List.getElem?_cons_zero, List.getElem?_cons_succ, Option.bind_some, Option.getD_some, List.setIfInBounds_toArray, List.set_cons_zero, List.set_cons_succ]
        rw [v2, v3]
        have HB1 := Lib.hid (HB0.out.trans ((below_drew hb).mono HB0.out.size))
        clear hb
        obtain ⟨k0, k1, k2, k3, k4, k5⟩ := six_keep HC0.out HB1.out
        go_wp2_with fail
        clear k0 k1 k2 k3 k4 k5
        go_ret
        exact ⟨by rw [HSH.out]; rfl, hb0.out.trans (HB1.out.mono HSZ.out)⟩
    · by_cases h23 : n.kind = 23
      · have hkd := h23
        have HSH : Hid (shp tk (f + 1) .operand n = madeP n (tk 5) []) := Lib.hid (by rw [shp, hkd]; rfl)
        clear h21 h22 h23
        generalize hNN : w.heap.size = N at *
        generalize n.kind = kd at *
        subst hkd
        go_enter Tryz.func78, Tryz.ntmps78
        go_wp2_with fail
        clear hNN
        generalize (w.alloc (.cells #[.int .i64 23, .int .i64 n.fro, .int .i64 n.till, .int .i64 n.at', .string n.name, .slice ia n.kids.length ic] 24)) = w1 at *
        have HB0 := Lib.hid (Below.refl w1.heap.size w1)
        refine wp_region_held_drew (S := fun w' => w'.cell? ⟨N, 0, none⟩ = some (.int .i64 23) ∧ w'.cell? ⟨N, 1, none⟩ = some (.int .i64 n.fro) ∧ w'.cell? ⟨N, 2, none⟩ = some (.int .i64 n.till) ∧ w'.cell? ⟨N, 3, none⟩ = some (.int .i64 n.at') ∧ w'.cell? ⟨N, 4, none⟩ = some (.string n.name) ∧ w'.cell? ⟨N, 5, none⟩ = some (.slice ia n.kids.length ic)) (by kernel_rfl) (six_keep HC0.out HB0.out.drew) (fun hHeld => ?_)
        refine wpAnyH_take (i := 0) (oi := ⟨some 17, _, _, _, _, _⟩) (v := ?_) rfl (by kernel_rfl) (by kernel_rfl) (by kernel_rfl) (fun _ _ _ h => h) (Or.inl ⟨by rfl, ?_⟩) hHeld ?_
        rotate_left
        · (intro W hSW; (try dsimp only at hSW); go_simp; first | done | with_reducible rfl)
        try simp only [Act.put, List.setIfInBounds_toArray, List.set_cons_zero, List.set_cons_succ]
        refine region_left (todo := [1, 2, 3]) (φ := fun i => Sp.holds (DD O f) O (match i with | 1 => .nm (tk 5) | 2 => .c (.bool (madeP n (tk 5) [])) | 3 => .c (.bool (madeP n (tk 5) [])) | _ => .any)) (by kernel_rfl) (fun i w w' v h hb => Sp.mono _ _ _ h hb) ?_ ⟨?_, ?_, ?_, trivial⟩ ?_
        · exact fun w' hb => ⟨cell_kept hHeld.1 rfl hb, cell_kept hHeld.2.1 rfl hb, cell_kept hHeld.2.2.1 rfl hb, cell_kept hHeld.2.2.2.1 rfl hb, cell_kept hHeld.2.2.2.2.1 rfl hb, cell_kept hHeld.2.2.2.2.2 rfl hb⟩
        · intro a w' hb hr hd
          clear hHeld
          refine rop_call (d := 18) (o := _) rfl rfl rfl (f := 81) (args := #[.int .i64 5]) (by go_simp) ?_
          exact Htok w' (keepF _ _ HFA.out (HB0.out.trans ((below_drew hb).mono HB0.out.size))) 5 (by omega)
        · intro a w' hb hr hd
          clear hHeld
          have e17 : a.tmps.getD 17 undef = .agg #[.int .i64 23, .int .i64 n.fro, .int .i64 n.till, .int .i64 n.at', .string n.name, .slice ia n.kids.length ic] := hr 17 (by kernel_rfl)
          have e17' := getD_q e17
          have p18 : NmV O w' (a.tmps.getD 18 undef) (tk 5) := hd 1 (by kernel_rfl)
          obtain ⟨g18, cap18, e18, r18⟩ := id p18
          rw [e18] at p18
          have e18' := getD_q e18
          refine rop_call (d := 19) (o := _) rfl rfl rfl (f := 27) (args := #[.agg #[.int .i64 23, .int .i64 n.fro, .int .i64 n.till, .int .i64 n.at', .string n.name, .slice ia n.kids.length ic], .func (.func g18) #[] cap18, .slice none 0 0]) (by go_simp) ?_
          refine (made_any (D := DD O f) (ps := []) w' p18 (prow_nil none) HK.out.lim.2.2 HK.out.lim.1 HK.out.kid HK.out.lim.2.1 (by simp) (HN.out.below (HB0.out.trans ((below_drew hb).mono HB0.out.size)))).mono ?_
          rintro e w'' ⟨rfl, hb'⟩
          exact ⟨_, rfl, rfl, hb'⟩
        · intro a w' hb hr hd
          clear hHeld
          have e19 : a.tmps.getD 19 undef = .bool (madeP n (tk 5) []) := hd 2 (by kernel_rfl)
          have e19' := getD_q e19
          exact rop_val (d := 2) (o := _) rfl rfl rfl (v := .bool (madeP n (tk 5) [])) (w' := w') (by go_simp) rfl (Below.refl _ _)
        · intro vs w' hb hφ
          have v2 : vs 2 = .bool (madeP n (tk 5) []) := hφ.2.1
          have v3 : vs 3 = .bool (madeP n (tk 5) []) := hφ.2.2.1
          clear hHeld hφ
          simp only [setAll, dstOf, List.getElem?_toArray, List.getElem?_cons_zero, List.getElem?_cons_succ, Option.bind_some, Option.getD_some, List.setIfInBounds_toArray, List.set_cons_zero, List.set_cons_succ]
          rw [v2, v3]
          have HB1 := Lib.hid (HB0.out.trans ((below_drew hb).mono HB0.out.size))
          clear hb
          obtain ⟨k0, k1, k2, k3, k4, k5⟩ := six_keep HC0.out HB1.out
          go_wp2_with fail
          clear k0 k1 k2 k3 k4 k5
          go_ret
          exact ⟨by rw [HSH.out]; rfl, hb0.out.trans (HB1.out.mono HSZ.out)⟩
      · by_cases h24 : n.kind = 24
        · have hkd := h24
          have HSH : Hid (shp tk (f + 1) .operand n = madeP n (fun s => [(ByteArray.mk #[116, 114, 117, 101]), (ByteArray.mk #[102, 97, 108, 115, 101])].any fun x => decide (x = s)) []) := Lib.hid (by rw [shp, hkd]; show madeP n (wdB [[116, 114, 117, 101], [102, 97, 108, 115, 101]]) [] = _; rw [← wd_eq]; rfl)
          clear h21 h22 h23 h24
          generalize hNN : w.heap.size = N at *
          generalize n.kind = kd at *
          subst hkd
          go_enter Tryz.func78, Tryz.ntmps78
          go_wp2_with fail
          clear hNN
          generalize (w.alloc (.cells #[.int .i64 24, .int .i64 n.fro, .int .i64 n.till, .int .i64 n.at', .string n.name, .slice ia n.kids.length ic] 24)) = w1 at *
          have HB0 := Lib.hid (Below.refl w1.heap.size w1)
          refine wp_region_held_drew (S := fun w' => w'.cell? ⟨N, 0, none⟩ = some (.int .i64 24) ∧ w'.cell? ⟨N, 1, none⟩ = some (.int .i64 n.fro) ∧ w'.cell? ⟨N, 2, none⟩ = some (.int .i64 n.till) ∧ w'.cell? ⟨N, 3, none⟩ = some (.int .i64 n.at') ∧ w'.cell? ⟨N, 4, none⟩ = some (.string n.name) ∧ w'.cell? ⟨N, 5, none⟩ = some (.slice ia n.kids.length ic)) (by kernel_rfl) (six_keep HC0.out HB0.out.drew) (fun hHeld => ?_)
          refine wpAnyH_take (i := 0) (oi := ⟨some 22, _, _, _, _, _⟩) (v := ?_) rfl (by kernel_rfl) (by kernel_rfl) (by kernel_rfl) (fun _ _ _ h => h) (Or.inl ⟨by rfl, ?_⟩) hHeld ?_
          rotate_left
          · (intro W hSW; (try dsimp only at hSW); go_simp; first | done | with_reducible rfl)
          try simp only [Act.put, List.setIfInBounds_toArray, List.set_cons_zero, List.set_cons_succ]
          refine region_left (todo := [1, 2, 3, 4]) (φ := fun i => Sp.holds (DD O f) O (match i with | 1 => .wrow [(ByteArray.mk #[116, 114, 117, 101]), (ByteArray.mk #[102, 97, 108, 115, 101])] | 2 => .nm (fun s => [(ByteArray.mk #[116, 114, 117, 101]), (ByteArray.mk #[102, 97, 108, 115, 101])].any fun x => decide (x = s)) | 3 => .c (.bool (madeP n (fun s => [(ByteArray.mk #[116, 114, 117, 101]), (ByteArray.mk #[102, 97, 108, 115, 101])].any fun x => decide (x = s)) [])) | 4 => .c (.bool (madeP n (fun s => [(ByteArray.mk #[116, 114, 117, 101]), (ByteArray.mk #[102, 97, 108, 115, 101])].any fun x => decide (x = s)) [])) | _ => .any)) (by kernel_rfl) (fun i w w' v h hb => Sp.mono _ _ _ h hb) ?_ ⟨?_, ?_, ?_, ?_, trivial⟩ ?_
          · exact fun w' hb => ⟨cell_kept hHeld.1 rfl hb, cell_kept hHeld.2.1 rfl hb, cell_kept hHeld.2.2.1 rfl hb, cell_kept hHeld.2.2.2.1 rfl hb, cell_kept hHeld.2.2.2.2.1 rfl hb, cell_kept hHeld.2.2.2.2.2 rfl hb⟩
          · intro a w' hb hr hd
            clear hHeld
            refine rop_val (d := 23) (o := _) rfl rfl rfl (v := .slice (some ⟨w'.heap.size, 0, none⟩) 2 2) (w' := w'.alloc (.cells #[.string (ByteArray.mk #[116, 114, 117, 101]), .string (ByteArray.mk #[102, 97, 108, 115, 101])] 9)) (by go_simp) ?_ (alloc_below _ _)
            exact ⟨_, _, rfl, wrow_of rfl⟩
          · intro a w' hb hr hd
            clear hHeld
            obtain ⟨A23, c23, e23, q23⟩ := hd 1 (by kernel_rfl)
            have e23 : a.tmps.getD 23 undef = .slice A23 2 c23 := e23
            have e23' := getD_q e23
            refine rop_call (d := 24) (o := _) rfl rfl rfl (f := 53) (args := #[.slice A23 2 c23]) (by go_simp) ?_
            exact isWord_any (O := O) [(ByteArray.mk #[116, 114, 117, 101]), (ByteArray.mk #[102, 97, 108, 115, 101])] _ _ (by simp) w' q23
          · intro a w' hb hr hd
            clear hHeld
            have e22 : a.tmps.getD 22 undef = .agg #[.int .i64 24, .int .i64 n.fro, .int .i64 n.till, .int .i64 n.at', .string n.name, .slice ia n.kids.length ic] := hr 22 (by kernel_rfl)
            have e22' := getD_q e22
            have p24 : NmV O w' (a.tmps.getD 24 undef) (fun s => [(ByteArray.mk #[116, 114, 117, 101]), (ByteArray.mk #[102, 97, 108, 115, 101])].any fun x => decide (x = s)) := hd 2 (by kernel_rfl)
            obtain ⟨g24, cap24, e24, r24⟩ := id p24
            rw [e24] at p24
            have e24' := getD_q e24
            refine rop_call (d := 25) (o := _) rfl rfl rfl (f := 27) (args := #[.agg #[.int .i64 24, .int .i64 n.fro, .int .i64 n.till, .int .i64 n.at', .string n.name, .slice ia n.kids.length ic], .func (.func g24) #[] cap24, .slice none 0 0]) (by go_simp) ?_
            refine (made_any (D := DD O f) (ps := []) w' p24 (prow_nil none) HK.out.lim.2.2 HK.out.lim.1 HK.out.kid HK.out.lim.2.1 (by simp) (HN.out.below (HB0.out.trans ((below_drew hb).mono HB0.out.size)))).mono ?_
            rintro e w'' ⟨rfl, hb'⟩
            exact ⟨_, rfl, rfl, hb'⟩
          · intro a w' hb hr hd
            clear hHeld
            have e25 : a.tmps.getD 25 undef = .bool (madeP n (fun s => [(ByteArray.mk #[116, 114, 117, 101]), (ByteArray.mk #[102, 97, 108, 115, 101])].any fun x => decide (x = s)) []) := hd 3 (by kernel_rfl)
            have e25' := getD_q e25
            exact rop_val (d := 2) (o := _) rfl rfl rfl (v := .bool (madeP n (fun s => [(ByteArray.mk #[116, 114, 117, 101]), (ByteArray.mk #[102, 97, 108, 115, 101])].any fun x => decide (x = s)) [])) (w' := w') (by go_simp) rfl (Below.refl _ _)
          · intro vs w' hb hφ
            have v3 : vs 3 = .bool (madeP n (fun s => [(ByteArray.mk #[116, 114, 117, 101]), (ByteArray.mk #[102, 97, 108, 115, 101])].any fun x => decide (x = s)) []) := hφ.2.2.1
            have v4 : vs 4 = .bool (madeP n (fun s => [(ByteArray.mk #[116, 114, 117, 101]), (ByteArray.mk #[102, 97, 108, 115, 101])].any fun x => decide (x = s)) []) := hφ.2.2.2.1
            clear hHeld hφ
            simp only [setAll, dstOf, List.getElem?_toArray, List.getElem?_cons_zero, List.getElem?_cons_succ, Option.bind_some, Option.getD_some, List.setIfInBounds_toArray, List.set_cons_zero, List.set_cons_succ]
            rw [v3, v4]
            have HB1 := Lib.hid (HB0.out.trans ((below_drew hb).mono HB0.out.size))
            clear hb
            obtain ⟨k0, k1, k2, k3, k4, k5⟩ := six_keep HC0.out HB1.out
            go_wp2_with fail
            clear k0 k1 k2 k3 k4 k5
            go_ret
            exact ⟨by rw [HSH.out]; rfl, hb0.out.trans (HB1.out.mono HSZ.out)⟩
        · by_cases h25 : n.kind = 25
          · have hkd := h25
            have HSH : Hid (shp tk (f + 1) .operand n = shp tk f .ident n) := Lib.hid (by rw [shp, hkd]; rfl)
            have C164 := Lib.hid (fun (W : World) (hb : Below (w.alloc (.cells #[.int .i64 n.kind, .int .i64 n.fro, .int .i64 n.till, .int .i64 n.at', .string n.name, .slice ia n.kids.length ic] 24)).heap.size (w.alloc (.cells #[.int .i64 n.kind, .int .i64 n.fro, .int .i64 n.till, .int .i64 n.at', .string n.name, .slice ia n.kids.length ic] 24)) W) => Hident.cl n _ W (keepF _ _ HFA.out hb) (HK.out.same (by decide)) (HN.out.below hb))
            clear h21 h22 h23 h24 h25
            generalize hNN : w.heap.size = N at *
            generalize n.kind = kd at *
            subst hkd
            go_enter Tryz.func78, Tryz.ntmps78
            go_wp2_with fail
            clear hNN
            generalize (w.alloc (.cells #[.int .i64 25, .int .i64 n.fro, .int .i64 n.till, .int .i64 n.at', .string n.name, .slice ia n.kids.length ic] 24)) = w1 at *
            have HB0 := Lib.hid (Below.refl w1.heap.size w1)
            refine (C164.out _ HB0.out).mono ?_
            rintro e w' ⟨rfl, hb⟩
            have HB1 := Lib.hid (HB0.out.trans (hb.mono HB0.out.size))
            clear hb
            obtain ⟨k0, k1, k2, k3, k4, k5⟩ := six_keep HC0.out HB1.out
            go_wp2_with fail
            clear k0 k1 k2 k3 k4 k5
            go_ret
            exact ⟨by rw [HSH.out]; rfl, hb0.out.trans (HB1.out.mono HSZ.out)⟩
          · by_cases h33 : n.kind = 33
            · have hkd := h33
              have HSH : Hid (shp tk (f + 1) .operand n = madeP n emB [oneP [shp tk f .expr]]) := Lib.hid (by rw [shp, hkd]; rfl)
              clear h21 h22 h23 h24 h25 h33
              generalize hNN : w.heap.size = N at *
              generalize n.kind = kd at *
              subst hkd
              go_enter Tryz.func78, Tryz.ntmps78
              go_wp2_with fail
              clear hNN
              generalize (w.alloc (.cells #[.int .i64 33, .int .i64 n.fro, .int .i64 n.till, .int .i64 n.at', .string n.name, .slice ia n.kids.length ic] 24)) = w1 at *
              have HB0 := Lib.hid (Below.refl w1.heap.size w1)
              refine wp_region_held_drew (S := fun w' => w'.cell? ⟨N, 0, none⟩ = some (.int .i64 33) ∧ w'.cell? ⟨N, 1, none⟩ = some (.int .i64 n.fro) ∧ w'.cell? ⟨N, 2, none⟩ = some (.int .i64 n.till) ∧ w'.cell? ⟨N, 3, none⟩ = some (.int .i64 n.at') ∧ w'.cell? ⟨N, 4, none⟩ = some (.string n.name) ∧ w'.cell? ⟨N, 5, none⟩ = some (.slice ia n.kids.length ic)) (by kernel_rfl) (six_keep HC0.out HB0.out.drew) (fun hHeld => ?_)
              refine wpAnyH_take (i := 0) (oi := ⟨some 32, _, _, _, _, _⟩) (v := ?_) rfl (by kernel_rfl) (by kernel_rfl) (by kernel_rfl) (fun _ _ _ h => h) (Or.inl ⟨by rfl, ?_⟩) hHeld ?_
              rotate_left
              · (intro W hSW; (try dsimp only at hSW); go_simp; first | done | with_reducible rfl)
              try simp only [Act.put, List.setIfInBounds_toArray, List.set_cons_zero, List.set_cons_succ]
              refine region_left (todo := [1, 2, 3, 4, 5]) (φ := fun i => Sp.holds (DD O f) O (match i with | 1 => .frow [(shp tk f .expr)] | 2 => .pt (oneP [(shp tk f .expr)]) | 3 => .prow [(oneP [(shp tk f .expr)])] | 4 => .c (.bool (madeP n emB [(oneP [(shp tk f .expr)])])) | 5 => .c (.bool (madeP n emB [(oneP [(shp tk f .expr)])])) | _ => .any)) (by kernel_rfl) (fun i w w' v h hb => Sp.mono _ _ _ h hb) ?_ ⟨?_, ?_, ?_, ?_, ?_, trivial⟩ ?_
              · exact fun w' hb => ⟨cell_kept hHeld.1 rfl hb, cell_kept hHeld.2.1 rfl hb, cell_kept hHeld.2.2.1 rfl hb, cell_kept hHeld.2.2.2.1 rfl hb, cell_kept hHeld.2.2.2.2.1 rfl hb, cell_kept hHeld.2.2.2.2.2 rfl hb⟩
              · intro a w' hb hr hd
                clear hHeld
                refine rop_val (d := 33) (o := _) rfl rfl rfl (v := .slice (some ⟨w'.heap.size, 0, none⟩) 1 1) (w' := w'.alloc (.cells #[.func (.func 60) #[] #[]] 53)) (by go_simp) ?_ (alloc_below _ _)
                exact ⟨_, _, rfl, frow_of ⟨Hexpr.sf _ (keepF _ _ HFA.out (HB0.out.trans ((below_drew hb).mono HB0.out.size))), trivial⟩⟩
              · intro a w' hb hr hd
                clear hHeld
                obtain ⟨A33, c33, e33, q33⟩ := hd 1 (by kernel_rfl)
                have e33 : a.tmps.getD 33 undef = .slice A33 1 c33 := e33
                have e33' := getD_q e33
                refine rop_call (d := 34) (o := _) rfl rfl rfl (f := 41) (args := #[.slice A33 1 c33]) (by go_simp) ?_
                exact one_any w' q33 (by simp) (by simp)
              · intro a w' hb hr hd
                clear hHeld
                have p34 : PtV (DD O f) w' (a.tmps.getD 34 undef) (oneP [(shp tk f .expr)]) := hd 2 (by kernel_rfl)
                obtain ⟨hs34, g34, cap34, e34, r34⟩ := id p34
                rw [e34] at p34
                have e34' := getD_q e34
                refine rop_val (d := 35) (o := _) rfl rfl rfl (v := .slice (some ⟨w'.heap.size, 0, none⟩) 1 1) (w' := w'.alloc (.cells #[.func (.func g34) #[] cap34] 45)) (by go_simp) ?_ (alloc_below _ _)
                exact ⟨_, _, rfl, prow_of ⟨p34, trivial⟩⟩
              · intro a w' hb hr hd
                clear hHeld
                have e32 : a.tmps.getD 32 undef = .agg #[.int .i64 33, .int .i64 n.fro, .int .i64 n.till, .int .i64 n.at', .string n.name, .slice ia n.kids.length ic] := hr 32 (by kernel_rfl)
                have e32' := getD_q e32
                obtain ⟨A35, c35, e35, q35⟩ := hd 3 (by kernel_rfl)
                have e35 : a.tmps.getD 35 undef = .slice A35 1 c35 := e35
                have e35' := getD_q e35
                refine rop_call (d := 36) (o := _) rfl rfl rfl (f := 27) (args := #[.agg #[.int .i64 33, .int .i64 n.fro, .int .i64 n.till, .int .i64 n.at', .string n.name, .slice ia n.kids.length ic], .func (.func 51) #[] #[], .slice A35 1 c35]) (by go_simp) ?_
                refine (made_any (D := DD O f) (ps := [(oneP [(shp tk f .expr)])]) w' (nm_empty O w') q35 HK.out.lim.2.2 HK.out.lim.1 HK.out.kid HK.out.lim.2.1 (by simp) (HN.out.below (HB0.out.trans ((below_drew hb).mono HB0.out.size)))).mono ?_
                rintro e w'' ⟨rfl, hb'⟩
                exact ⟨_, rfl, rfl, hb'⟩
              · intro a w' hb hr hd
                clear hHeld
                have e36 : a.tmps.getD 36 undef = .bool (madeP n emB [(oneP [(shp tk f .expr)])]) := hd 4 (by kernel_rfl)
                have e36' := getD_q e36
                exact rop_val (d := 2) (o := _) rfl rfl rfl (v := .bool (madeP n emB [(oneP [(shp tk f .expr)])])) (w' := w') (by go_simp) rfl (Below.refl _ _)
              · intro vs w' hb hφ
                have v4 : vs 4 = .bool (madeP n emB [(oneP [(shp tk f .expr)])]) := hφ.2.2.2.1
                have v5 : vs 5 = .bool (madeP n emB [(oneP [(shp tk f .expr)])]) := hφ.2.2.2.2.1
                clear hHeld hφ
                simp only [setAll, dstOf, List.getElem?_toArray, List.getElem?_cons_zero, List.getElem?_cons_succ, Option.bind_some, Option.getD_some, List.setIfInBounds_toArray, List.set_cons_zero, List.set_cons_succ]
                rw [v4, v5]
                have HB1 := Lib.hid (HB0.out.trans ((below_drew hb).mono HB0.out.size))
                clear hb
                obtain ⟨k0, k1, k2, k3, k4, k5⟩ := six_keep HC0.out HB1.out
                go_wp2_with fail
                clear k0 k1 k2 k3 k4 k5
                go_ret
                exact ⟨by rw [HSH.out]; rfl, hb0.out.trans (HB1.out.mono HSZ.out)⟩
            · by_cases h26 : n.kind = 26
              · have hkd := h26
                have HSH : Hid (shp tk (f + 1) .operand n = shp tk f .sel n) := Lib.hid (by rw [shp, hkd]; rfl)
                have C207 := Lib.hid (fun (W : World) (hb : Below (w.alloc (.cells #[.int .i64 n.kind, .int .i64 n.fro, .int .i64 n.till, .int .i64 n.at', .string n.name, .slice ia n.kids.length ic] 24)).heap.size (w.alloc (.cells #[.int .i64 n.kind, .int .i64 n.fro, .int .i64 n.till, .int .i64 n.at', .string n.name, .slice ia n.kids.length ic] 24)) W) => Hsel.cl n _ W (keepF _ _ HFA.out hb) (HK.out.same (by decide)) (HN.out.below hb))
                clear h21 h22 h23 h24 h25 h33 h26
                generalize hNN : w.heap.size = N at *
                generalize n.kind = kd at *
                subst hkd
                go_enter Tryz.func78, Tryz.ntmps78
                go_wp2_with fail
                clear hNN
                generalize (w.alloc (.cells #[.int .i64 26, .int .i64 n.fro, .int .i64 n.till, .int .i64 n.at', .string n.name, .slice ia n.kids.length ic] 24)) = w1 at *
                have HB0 := Lib.hid (Below.refl w1.heap.size w1)
                refine (C207.out _ HB0.out).mono ?_
                rintro e w' ⟨rfl, hb⟩
                have HB1 := Lib.hid (HB0.out.trans (hb.mono HB0.out.size))
                clear hb
                obtain ⟨k0, k1, k2, k3, k4, k5⟩ := six_keep HC0.out HB1.out
                go_wp2_with fail
                clear k0 k1 k2 k3 k4 k5
                go_ret
                exact ⟨by rw [HSH.out]; rfl, hb0.out.trans (HB1.out.mono HSZ.out)⟩
              · by_cases h27 : n.kind = 27
                · have hkd := h27
                  have HSH : Hid (shp tk (f + 1) .operand n = madeP n emB [oneP [shp tk f .ident, shp tk f .sel], manyP (shp tk f .expr)]) := Lib.hid (by rw [shp, hkd]; rfl)
                  clear h21 h22 h23 h24 h25 h33 h26 h27
                  generalize hNN : w.heap.size = N at *
                  generalize n.kind = kd at *
                  subst hkd
                  go_enter Tryz.func78, Tryz.ntmps78
                  go_wp2_with fail
                  clear hNN
                  generalize (w.alloc (.cells #[.int .i64 27, .int .i64 n.fro, .int .i64 n.till, .int .i64 n.at', .string n.name, .slice ia n.kids.length ic] 24)) = w1 at *
                  have HB0 := Lib.hid (Below.refl w1.heap.size w1)
                  refine wp_region_held_drew (S := fun w' => w'.cell? ⟨N, 0, none⟩ = some (.int .i64 27) ∧ w'.cell? ⟨N, 1, none⟩ = some (.int .i64 n.fro) ∧ w'.cell? ⟨N, 2, none⟩ = some (.int .i64 n.till) ∧ w'.cell? ⟨N, 3, none⟩ = some (.int .i64 n.at') ∧ w'.cell? ⟨N, 4, none⟩ = some (.string n.name) ∧ w'.cell? ⟨N, 5, none⟩ = some (.slice ia n.kids.length ic)) (by kernel_rfl) (six_keep HC0.out HB0.out.drew) (fun hHeld => ?_)
                  refine wpAnyH_take (i := 0) (oi := ⟨some 43, _, _, _, _, _⟩) (v := ?_) rfl (by kernel_rfl) (by kernel_rfl) (by kernel_rfl) (fun _ _ _ h => h) (Or.inl ⟨by rfl, ?_⟩) hHeld ?_
                  rotate_left
                  · (intro W hSW; (try dsimp only at hSW); go_simp; first | done | with_reducible rfl)
                  try simp only [Act.put, List.setIfInBounds_toArray, List.set_cons_zero, List.set_cons_succ]
                  refine region_left (todo := [1, 2, 3, 4, 5, 6]) (φ := fun i => Sp.holds (DD O f) O (match i with | 1 => .frow [(shp tk f .ident), (shp tk f .sel)] | 2 => .pt (oneP [(shp tk f .ident), (shp tk f .sel)]) | 3 => .pt (manyP (shp tk f .expr)) | 4 => .prow [(oneP [(shp tk f .ident), (shp tk f .sel)]), (manyP (shp tk f .expr))] | 5 => .c (.bool (madeP n emB [(oneP [(shp tk f .ident), (shp tk f .sel)]), (manyP (shp tk f .expr))])) | 6 => .c (.bool (madeP n emB [(oneP [(shp tk f .ident), (shp tk f .sel)]), (manyP (shp tk f .expr))])) | _ => .any)) (by kernel_rfl) (fun i w w' v h hb => Sp.mono _ _ _ h hb) ?_ ⟨?_, ?_, ?_, ?_, ?_, ?_, trivial⟩ ?_
                  · exact fun w' hb => ⟨cell_kept hHeld.1 rfl hb, cell_kept hHeld.2.1 rfl hb, cell_kept hHeld.2.2.1 rfl hb, cell_kept hHeld.2.2.2.1 rfl hb, cell_kept hHeld.2.2.2.2.1 rfl hb, cell_kept hHeld.2.2.2.2.2 rfl hb⟩
                  · intro a w' hb hr hd
                    clear hHeld
                    refine rop_val (d := 44) (o := _) rfl rfl rfl (v := .slice (some ⟨w'.heap.size, 0, none⟩) 2 2) (w' := w'.alloc (.cells #[.func (.func 54) #[] #[], .func (.func 82) #[] #[]] 53)) (by go_simp) ?_ (alloc_below _ _)
                    exact ⟨_, _, rfl, frow_of ⟨Hident.sf _ (keepF _ _ HFA.out (HB0.out.trans ((below_drew hb).mono HB0.out.size))), Hsel.sf _ (keepF _ _ HFA.out (HB0.out.trans ((below_drew hb).mono HB0.out.size))), trivial⟩⟩
                  · intro a w' hb hr hd
                    clear hHeld
                    obtain ⟨A44, c44, e44, q44⟩ := hd 1 (by kernel_rfl)
                    have e44 : a.tmps.getD 44 undef = .slice A44 2 c44 := e44
                    have e44' := getD_q e44
                    refine rop_call (d := 45) (o := _) rfl rfl rfl (f := 41) (args := #[.slice A44 2 c44]) (by go_simp) ?_
                    exact one_any w' q44 (by simp) (by simp)
                  · intro a w' hb hr hd
                    clear hHeld
                    refine rop_call (d := 46) (o := _) rfl rfl rfl (f := 29) (args := #[.func (.func 60) #[] #[]]) (by go_simp) ?_
                    exact many_any w' (Hexpr.sf _ (keepF _ _ HFA.out (HB0.out.trans ((below_drew hb).mono HB0.out.size))))
                  · intro a w' hb hr hd
                    clear hHeld
                    have p45 : PtV (DD O f) w' (a.tmps.getD 45 undef) (oneP [(shp tk f .ident), (shp tk f .sel)]) := hd 2 (by kernel_rfl)
                    obtain ⟨hs45, g45, cap45, e45, r45⟩ := id p45
                    rw [e45] at p45
                    have e45' := getD_q e45
                    have p46 : PtV (DD O f) w' (a.tmps.getD 46 undef) (manyP (shp tk f .expr)) := hd 3 (by kernel_rfl)
                    obtain ⟨hs46, g46, cap46, e46, r46⟩ := id p46
                    rw [e46] at p46
                    have e46' := getD_q e46
                    refine rop_val (d := 47) (o := _) rfl rfl rfl (v := .slice (some ⟨w'.heap.size, 0, none⟩) 2 2) (w' := w'.alloc (.cells #[.func (.func g45) #[] cap45, .func (.func g46) #[] cap46] 45)) (by go_simp) ?_ (alloc_below _ _)
                    exact ⟨_, _, rfl, prow_of ⟨p45, p46, trivial⟩⟩
                  · intro a w' hb hr hd
                    clear hHeld
                    have e43 : a.tmps.getD 43 undef = .agg #[.int .i64 27, .int .i64 n.fro, .int .i64 n.till, .int .i64 n.at', .string n.name, .slice ia n.kids.length ic] := hr 43 (by kernel_rfl)
                    have e43' := getD_q e43
                    obtain ⟨A47, c47, e47, q47⟩ := hd 4 (by kernel_rfl)
                    have e47 : a.tmps.getD 47 undef = .slice A47 2 c47 := e47
                    have e47' := getD_q e47
                    refine rop_call (d := 48) (o := _) rfl rfl rfl (f := 27) (args := #[.agg #[.int .i64 27, .int .i64 n.fro, .int .i64 n.till, .int .i64 n.at', .string n.name, .slice ia n.kids.length ic], .func (.func 51) #[] #[], .slice A47 2 c47]) (by go_simp) ?_
                    refine (made_any (D := DD O f) (ps := [(oneP [(shp tk f .ident), (shp tk f .sel)]), (manyP (shp tk f .expr))]) w' (nm_empty O w') q47 HK.out.lim.2.2 HK.out.lim.1 HK.out.kid HK.out.lim.2.1 (by simp) (HN.out.below (HB0.out.trans ((below_drew hb).mono HB0.out.size)))).mono ?_
                    rintro e w'' ⟨rfl, hb'⟩
                    exact ⟨_, rfl, rfl, hb'⟩
                  · intro a w' hb hr hd
                    clear hHeld
                    have e48 : a.tmps.getD 48 undef = .bool (madeP n emB [(oneP [(shp tk f .ident), (shp tk f .sel)]), (manyP (shp tk f .expr))]) := hd 5 (by kernel_rfl)
                    have e48' := getD_q e48
                    exact rop_val (d := 2) (o := _) rfl rfl rfl (v := .bool (madeP n emB [(oneP [(shp tk f .ident), (shp tk f .sel)]), (manyP (shp tk f .expr))])) (w' := w') (by go_simp) rfl (Below.refl _ _)
                  · intro vs w' hb hφ
                    have v5 : vs 5 = .bool (madeP n emB [(oneP [(shp tk f .ident), (shp tk f .sel)]), (manyP (shp tk f .expr))]) := hφ.2.2.2.2.1
                    have v6 : vs 6 = .bool (madeP n emB [(oneP [(shp tk f .ident), (shp tk f .sel)]), (manyP (shp tk f .expr))]) := hφ.2.2.2.2.2.1
                    clear hHeld hφ
                    simp only [setAll, dstOf, List.getElem?_toArray, List.getElem?_cons_zero, List.getElem?_cons_succ, Option.bind_some, Option.getD_some, List.setIfInBounds_toArray, List.set_cons_zero, List.set_cons_succ]
                    rw [v5, v6]
                    have HB1 := Lib.hid (HB0.out.trans ((below_drew hb).mono HB0.out.size))
                    clear hb
                    obtain ⟨k0, k1, k2, k3, k4, k5⟩ := six_keep HC0.out HB1.out
                    go_wp2_with fail
                    clear k0 k1 k2 k3 k4 k5
                    go_ret
                    exact ⟨by rw [HSH.out]; rfl, hb0.out.trans (HB1.out.mono HSZ.out)⟩
                · by_cases h32 : n.kind = 32
                  · have hkd := h32
                    have HSH : Hid (shp tk (f + 1) .operand n = madeP n (fun s => [(ByteArray.mk #[105, 110, 116]), (ByteArray.mk #[102, 108, 111, 97, 116, 54, 52]), (ByteArray.mk #[108, 101, 110]), (ByteArray.mk #[112, 114, 105, 110, 116]), (ByteArray.mk #[112, 97, 110, 105, 99])].any fun x => decide (x = s)) [manyP (shp tk f .expr)]) := Lib.hid (by rw [shp, hkd]; show madeP n (wdB builtW) [manyP (shp tk f .expr)] = _; rw [← wd_eq]; rfl)
                    clear h21 h22 h23 h24 h25 h33 h26 h27 h32
                    generalize hNN : w.heap.size = N at *
                    generalize n.kind = kd at *
                    subst hkd
                    go_enter Tryz.func78, Tryz.ntmps78
                    go_wp2_with fail
                    clear hNN
                    generalize (w.alloc (.cells #[.int .i64 32, .int .i64 n.fro, .int .i64 n.till, .int .i64 n.at', .string n.name, .slice ia n.kids.length ic] 24)) = w1 at *
                    have HB0 := Lib.hid (Below.refl w1.heap.size w1)
                    refine wp_region_held_drew (S := fun w' => w'.cell? ⟨N, 0, none⟩ = some (.int .i64 32) ∧ w'.cell? ⟨N, 1, none⟩ = some (.int .i64 n.fro) ∧ w'.cell? ⟨N, 2, none⟩ = some (.int .i64 n.till) ∧ w'.cell? ⟨N, 3, none⟩ = some (.int .i64 n.at') ∧ w'.cell? ⟨N, 4, none⟩ = some (.string n.name) ∧ w'.cell? ⟨N, 5, none⟩ = some (.slice ia n.kids.length ic)) (by kernel_rfl) (six_keep HC0.out HB0.out.drew) (fun hHeld => ?_)
                    refine wpAnyH_take (i := 0) (oi := ⟨some 51, _, _, _, _, _⟩) (v := ?_) rfl (by kernel_rfl) (by kernel_rfl) (by kernel_rfl) (fun _ _ _ h => h) (Or.inl ⟨by rfl, ?_⟩) hHeld ?_
                    rotate_left
                    · (intro W hSW; (try dsimp only at hSW); go_simp; first | done | with_reducible rfl)
                    try simp only [Act.put, List.setIfInBounds_toArray, List.set_cons_zero, List.set_cons_succ]
                    refine region_left (todo := [1, 2, 3, 4, 5, 6]) (φ := fun i => Sp.holds (DD O f) O (match i with | 1 => .wrow [(ByteArray.mk #[105, 110, 116]), (ByteArray.mk #[102, 108, 111, 97, 116, 54, 52]), (ByteArray.mk #[108, 101, 110]), (ByteArray.mk #[112, 114, 105, 110, 116]), (ByteArray.mk #[112, 97, 110, 105, 99])] | 2 => .nm (fun s => [(ByteArray.mk #[105, 110, 116]), (ByteArray.mk #[102, 108, 111, 97, 116, 54, 52]), (ByteArray.mk #[108, 101, 110]), (ByteArray.mk #[112, 114, 105, 110, 116]), (ByteArray.mk #[112, 97, 110, 105, 99])].any fun x => decide (x = s)) | 3 => .pt (manyP (shp tk f .expr)) | 4 => .prow [(manyP (shp tk f .expr))] | 5 => .c (.bool (madeP n (fun s => [(ByteArray.mk #[105, 110, 116]), (ByteArray.mk #[102, 108, 111, 97, 116, 54, 52]), (ByteArray.mk #[108, 101, 110]), (ByteArray.mk #[112, 114, 105, 110, 116]), (ByteArray.mk #[112, 97, 110, 105, 99])].any fun x => decide (x = s)) [(manyP (shp tk f .expr))])) | 6 => .c (.bool (madeP n (fun s => [(ByteArray.mk #[105, 110, 116]), (ByteArray.mk #[102, 108, 111, 97, 116, 54, 52]), (ByteArray.mk #[108, 101, 110]), (ByteArray.mk #[112, 114, 105, 110, 116]), (ByteArray.mk #[112, 97, 110, 105, 99])].any fun x => decide (x = s)) [(manyP (shp tk f .expr))])) | _ => .any)) (by kernel_rfl) (fun i w w' v h hb => Sp.mono _ _ _ h hb) ?_ ⟨?_, ?_, ?_, ?_, ?_, ?_, trivial⟩ ?_
                    · exact fun w' hb => ⟨cell_kept hHeld.1 rfl hb, cell_kept hHeld.2.1 rfl hb, cell_kept hHeld.2.2.1 rfl hb, cell_kept hHeld.2.2.2.1 rfl hb, cell_kept hHeld.2.2.2.2.1 rfl hb, cell_kept hHeld.2.2.2.2.2 rfl hb⟩
                    · intro a w' hb hr hd
                      clear hHeld
                      refine rop_val (d := 52) (o := _) rfl rfl rfl (v := .slice (some ⟨w'.heap.size, 0, none⟩) 5 5) (w' := w'.alloc (.cells #[.string (ByteArray.mk #[105, 110, 116]), .string (ByteArray.mk #[102, 108, 111, 97, 116, 54, 52]), .string (ByteArray.mk #[108, 101, 110]), .string (ByteArray.mk #[112, 114, 105, 110, 116]), .string (ByteArray.mk #[112, 97, 110, 105, 99])] 9)) (by go_simp) ?_ (alloc_below _ _)
                      exact ⟨_, _, rfl, wrow_of rfl⟩
                    · intro a w' hb hr hd
                      clear hHeld
                      obtain ⟨A52, c52, e52, q52⟩ := hd 1 (by kernel_rfl)
                      have e52 : a.tmps.getD 52 undef = .slice A52 5 c52 := e52
                      have e52' := getD_q e52
                      refine rop_call (d := 53) (o := _) rfl rfl rfl (f := 53) (args := #[.slice A52 5 c52]) (by go_simp) ?_
                      exact isWord_any (O := O) [(ByteArray.mk #[105, 110, 116]), (ByteArray.mk #[102, 108, 111, 97, 116, 54, 52]), (ByteArray.mk #[108, 101, 110]), (ByteArray.mk #[112, 114, 105, 110, 116]), (ByteArray.mk #[112, 97, 110, 105, 99])] _ _ (by simp) w' q52
                    · intro a w' hb hr hd
                      clear hHeld
                      refine rop_call (d := 54) (o := _) rfl rfl rfl (f := 29) (args := #[.func (.func 60) #[] #[]]) (by go_simp) ?_
                      exact many_any w' (Hexpr.sf _ (keepF _ _ HFA.out (HB0.out.trans ((below_drew hb).mono HB0.out.size))))
                    · intro a w' hb hr hd
                      clear hHeld
                      have p54 : PtV (DD O f) w' (a.tmps.getD 54 undef) (manyP (shp tk f .expr)) := hd 3 (by kernel_rfl)
                      obtain ⟨hs54, g54, cap54, e54, r54⟩ := id p54
                      rw [e54] at p54
                      have e54' := getD_q e54
                      refine rop_val (d := 55) (o := _) rfl rfl rfl (v := .slice (some ⟨w'.heap.size, 0, none⟩) 1 1) (w' := w'.alloc (.cells #[.func (.func g54) #[] cap54] 45)) (by go_simp) ?_ (alloc_below _ _)
                      exact ⟨_, _, rfl, prow_of ⟨p54, trivial⟩⟩
                    · intro a w' hb hr hd
                      clear hHeld
                      have e51 : a.tmps.getD 51 undef = .agg #[.int .i64 32, .int .i64 n.fro, .int .i64 n.till, .int .i64 n.at', .string n.name, .slice ia n.kids.length ic] := hr 51 (by kernel_rfl)
                      have e51' := getD_q e51
                      have p53 : NmV O w' (a.tmps.getD 53 undef) (fun s => [(ByteArray.mk #[105, 110, 116]), (ByteArray.mk #[102, 108, 111, 97, 116, 54, 52]), (ByteArray.mk #[108, 101, 110]), (ByteArray.mk #[112, 114, 105, 110, 116]), (ByteArray.mk #[112, 97, 110, 105, 99])].any fun x => decide (x = s)) := hd 2 (by kernel_rfl)
                      obtain ⟨g53, cap53, e53, r53⟩ := id p53
                      rw [e53] at p53
                      have e53' := getD_q e53
                      obtain ⟨A55, c55, e55, q55⟩ := hd 4 (by kernel_rfl)
                      have e55 : a.tmps.getD 55 undef = .slice A55 1 c55 := e55
                      have e55' := getD_q e55
                      refine rop_call (d := 56) (o := _) rfl rfl rfl (f := 27) (args := #[.agg #[.int .i64 32, .int .i64 n.fro, .int .i64 n.till, .int .i64 n.at', .string n.name, .slice ia n.kids.length ic], .func (.func g53) #[] cap53, .slice A55 1 c55]) (by go_simp) ?_
                      refine (made_any (D := DD O f) (ps := [(manyP (shp tk f .expr))]) w' p53 q55 HK.out.lim.2.2 HK.out.lim.1 HK.out.kid HK.out.lim.2.1 (by simp) (HN.out.below (HB0.out.trans ((below_drew hb).mono HB0.out.size)))).mono ?_
                      rintro e w'' ⟨rfl, hb'⟩
                      exact ⟨_, rfl, rfl, hb'⟩
                    · intro a w' hb hr hd
                      clear hHeld
                      have e56 : a.tmps.getD 56 undef = .bool (madeP n (fun s => [(ByteArray.mk #[105, 110, 116]), (ByteArray.mk #[102, 108, 111, 97, 116, 54, 52]), (ByteArray.mk #[108, 101, 110]), (ByteArray.mk #[112, 114, 105, 110, 116]), (ByteArray.mk #[112, 97, 110, 105, 99])].any fun x => decide (x = s)) [(manyP (shp tk f .expr))]) := hd 5 (by kernel_rfl)
                      have e56' := getD_q e56
                      exact rop_val (d := 2) (o := _) rfl rfl rfl (v := .bool (madeP n (fun s => [(ByteArray.mk #[105, 110, 116]), (ByteArray.mk #[102, 108, 111, 97, 116, 54, 52]), (ByteArray.mk #[108, 101, 110]), (ByteArray.mk #[112, 114, 105, 110, 116]), (ByteArray.mk #[112, 97, 110, 105, 99])].any fun x => decide (x = s)) [(manyP (shp tk f .expr))])) (w' := w') (by go_simp) rfl (Below.refl _ _)
                    · intro vs w' hb hφ
                      have v5 : vs 5 = .bool (madeP n (fun s => [(ByteArray.mk #[105, 110, 116]), (ByteArray.mk #[102, 108, 111, 97, 116, 54, 52]), (ByteArray.mk #[108, 101, 110]), (ByteArray.mk #[112, 114, 105, 110, 116]), (ByteArray.mk #[112, 97, 110, 105, 99])].any fun x => decide (x = s)) [(manyP (shp tk f .expr))]) := hφ.2.2.2.2.1
                      have v6 : vs 6 = .bool (madeP n (fun s => [(ByteArray.mk #[105, 110, 116]), (ByteArray.mk #[102, 108, 111, 97, 116, 54, 52]), (ByteArray.mk #[108, 101, 110]), (ByteArray.mk #[112, 114, 105, 110, 116]), (ByteArray.mk #[112, 97, 110, 105, 99])].any fun x => decide (x = s)) [(manyP (shp tk f .expr))]) := hφ.2.2.2.2.2.1
                      clear hHeld hφ
                      simp only [setAll, dstOf, List.getElem?_toArray, List.getElem?_cons_zero, List.getElem?_cons_succ, Option.bind_some, Option.getD_some, List.setIfInBounds_toArray, List.set_cons_zero, List.set_cons_succ]
                      rw [v5, v6]
                      have HB1 := Lib.hid (HB0.out.trans ((below_drew hb).mono HB0.out.size))
                      clear hb
                      obtain ⟨k0, k1, k2, k3, k4, k5⟩ := six_keep HC0.out HB1.out
                      go_wp2_with fail
                      clear k0 k1 k2 k3 k4 k5
                      go_ret
                      exact ⟨by rw [HSH.out]; rfl, hb0.out.trans (HB1.out.mono HSZ.out)⟩
                  · by_cases h28 : n.kind = 28
                    · have hkd := h28
                      have HSH : Hid (shp tk (f + 1) .operand n = madeP n emB [oneP [shp tk f .own, shp tk f .far], manyP (shp tk f .keyed)]) := Lib.hid (by rw [shp, hkd]; rfl)
                      clear h21 h22 h23 h24 h25 h33 h26 h27 h32 h28
                      generalize hNN : w.heap.size = N at *
                      generalize n.kind = kd at *
                      subst hkd
                      go_enter Tryz.func78, Tryz.ntmps78
                      go_wp2_with fail
                      clear hNN
                      generalize (w.alloc (.cells #[.int .i64 28, .int .i64 n.fro, .int .i64 n.till, .int .i64 n.at', .string n.name, .slice ia n.kids.length ic] 24)) = w1 at *
                      have HB0 := Lib.hid (Below.refl w1.heap.size w1)
                      refine wp_region_held_drew (S := fun w' => w'.cell? ⟨N, 0, none⟩ = some (.int .i64 28) ∧ w'.cell? ⟨N, 1, none⟩ = some (.int .i64 n.fro) ∧ w'.cell? ⟨N, 2, none⟩ = some (.int .i64 n.till) ∧ w'.cell? ⟨N, 3, none⟩ = some (.int .i64 n.at') ∧ w'.cell? ⟨N, 4, none⟩ = some (.string n.name) ∧ w'.cell? ⟨N, 5, none⟩ = some (.slice ia n.kids.length ic)) (by kernel_rfl) (six_keep HC0.out HB0.out.drew) (fun hHeld => ?_)
                      refine wpAnyH_take (i := 0) (oi := ⟨some 59, _, _, _, _, _⟩) (v := ?_) rfl (by kernel_rfl) (by kernel_rfl) (by kernel_rfl) (fun _ _ _ h => h) (Or.inl ⟨by rfl, ?_⟩) hHeld ?_
                      rotate_left
                      · (intro W hSW; (try dsimp only at hSW); go_simp; first | done | with_reducible rfl)
                      try simp only [Act.put, List.setIfInBounds_toArray, List.set_cons_zero, List.set_cons_succ]
                      refine region_left (todo := [1, 2, 3, 4, 5, 6]) (φ := fun i => Sp.holds (DD O f) O (match i with | 1 => .frow [(shp tk f .own), (shp tk f .far)] | 2 => .pt (oneP [(shp tk f .own), (shp tk f .far)]) | 3 => .pt (manyP (shp tk f .keyed)) | 4 => .prow [(oneP [(shp tk f .own), (shp tk f .far)]), (manyP (shp tk f .keyed))] | 5 => .c (.bool (madeP n emB [(oneP [(shp tk f .own), (shp tk f .far)]), (manyP (shp tk f .keyed))])) | 6 => .c (.bool (madeP n emB [(oneP [(shp tk f .own), (shp tk f .far)]), (manyP (shp tk f .keyed))])) | _ => .any)) (by kernel_rfl) (fun i w w' v h hb => Sp.mono _ _ _ h hb) ?_ ⟨?_, ?_, ?_, ?_, ?_, ?_, trivial⟩ ?_
                      · exact fun w' hb => ⟨cell_kept hHeld.1 rfl hb, cell_kept hHeld.2.1 rfl hb, cell_kept hHeld.2.2.1 rfl hb, cell_kept hHeld.2.2.2.1 rfl hb, cell_kept hHeld.2.2.2.2.1 rfl hb, cell_kept hHeld.2.2.2.2.2 rfl hb⟩
                      · intro a w' hb hr hd
                        clear hHeld
                        refine rop_val (d := 60) (o := _) rfl rfl rfl (v := .slice (some ⟨w'.heap.size, 0, none⟩) 2 2) (w' := w'.alloc (.cells #[.func (.func 40) #[] #[], .func (.func 48) #[] #[]] 53)) (by go_simp) ?_ (alloc_below _ _)
                        exact ⟨_, _, rfl, frow_of ⟨Hown.sf _ (keepF _ _ HFA.out (HB0.out.trans ((below_drew hb).mono HB0.out.size))), Hfar.sf _ (keepF _ _ HFA.out (HB0.out.trans ((below_drew hb).mono HB0.out.size))), trivial⟩⟩
                      · intro a w' hb hr hd
                        clear hHeld
                        obtain ⟨A60, c60, e60, q60⟩ := hd 1 (by kernel_rfl)
                        have e60 : a.tmps.getD 60 undef = .slice A60 2 c60 := e60
                        have e60' := getD_q e60
                        refine rop_call (d := 61) (o := _) rfl rfl rfl (f := 41) (args := #[.slice A60 2 c60]) (by go_simp) ?_
                        exact one_any w' q60 (by simp) (by simp)
                      · intro a w' hb hr hd
                        clear hHeld
                        refine rop_call (d := 62) (o := _) rfl rfl rfl (f := 29) (args := #[.func (.func 83) #[] #[]]) (by go_simp) ?_
                        exact many_any w' (Hkeyed.sf _ (keepF _ _ HFA.out (HB0.out.trans ((below_drew hb).mono HB0.out.size))))
                      · intro a w' hb hr hd
                        clear hHeld
                        have p61 : PtV (DD O f) w' (a.tmps.getD 61 undef) (oneP [(shp tk f .own), (shp tk f .far)]) := hd 2 (by kernel_rfl)
                        obtain ⟨hs61, g61, cap61, e61, r61⟩ := id p61
                        rw [e61] at p61
                        have e61' := getD_q e61
                        have p62 : PtV (DD O f) w' (a.tmps.getD 62 undef) (manyP (shp tk f .keyed)) := hd 3 (by kernel_rfl)
                        obtain ⟨hs62, g62, cap62, e62, r62⟩ := id p62
                        rw [e62] at p62
                        have e62' := getD_q e62
                        refine rop_val (d := 63) (o := _) rfl rfl rfl (v := .slice (some ⟨w'.heap.size, 0, none⟩) 2 2) (w' := w'.alloc (.cells #[.func (.func g61) #[] cap61, .func (.func g62) #[] cap62] 45)) (by go_simp) ?_ (alloc_below _ _)
                        exact ⟨_, _, rfl, prow_of ⟨p61, p62, trivial⟩⟩
                      · intro a w' hb hr hd
                        clear hHeld
                        have e59 : a.tmps.getD 59 undef = .agg #[.int .i64 28, .int .i64 n.fro, .int .i64 n.till, .int .i64 n.at', .string n.name, .slice ia n.kids.length ic] := hr 59 (by kernel_rfl)
                        have e59' := getD_q e59
                        obtain ⟨A63, c63, e63, q63⟩ := hd 4 (by kernel_rfl)
                        have e63 : a.tmps.getD 63 undef = .slice A63 2 c63 := e63
                        have e63' := getD_q e63
                        refine rop_call (d := 64) (o := _) rfl rfl rfl (f := 27) (args := #[.agg #[.int .i64 28, .int .i64 n.fro, .int .i64 n.till, .int .i64 n.at', .string n.name, .slice ia n.kids.length ic], .func (.func 51) #[] #[], .slice A63 2 c63]) (by go_simp) ?_
                        refine (made_any (D := DD O f) (ps := [(oneP [(shp tk f .own), (shp tk f .far)]), (manyP (shp tk f .keyed))]) w' (nm_empty O w') q63 HK.out.lim.2.2 HK.out.lim.1 HK.out.kid HK.out.lim.2.1 (by simp) (HN.out.below (HB0.out.trans ((below_drew hb).mono HB0.out.size)))).mono ?_
                        rintro e w'' ⟨rfl, hb'⟩
                        exact ⟨_, rfl, rfl, hb'⟩
                      · intro a w' hb hr hd
                        clear hHeld
                        have e64 : a.tmps.getD 64 undef = .bool (madeP n emB [(oneP [(shp tk f .own), (shp tk f .far)]), (manyP (shp tk f .keyed))]) := hd 5 (by kernel_rfl)
                        have e64' := getD_q e64
                        exact rop_val (d := 2) (o := _) rfl rfl rfl (v := .bool (madeP n emB [(oneP [(shp tk f .own), (shp tk f .far)]), (manyP (shp tk f .keyed))])) (w' := w') (by go_simp) rfl (Below.refl _ _)
                      · intro vs w' hb hφ
                        have v5 : vs 5 = .bool (madeP n emB [(oneP [(shp tk f .own), (shp tk f .far)]), (manyP (shp tk f .keyed))]) := hφ.2.2.2.2.1
                        have v6 : vs 6 = .bool (madeP n emB [(oneP [(shp tk f .own), (shp tk f .far)]), (manyP (shp tk f .keyed))]) := hφ.2.2.2.2.2.1
                        clear hHeld hφ
                        simp only [setAll, dstOf, List.getElem?_toArray, List.getElem?_cons_zero, List.getElem?_cons_succ, Option.bind_some, Option.getD_some, List.setIfInBounds_toArray, List.set_cons_zero, List.set_cons_succ]
                        rw [v5, v6]
                        have HB1 := Lib.hid (HB0.out.trans ((below_drew hb).mono HB0.out.size))
                        clear hb
                        obtain ⟨k0, k1, k2, k3, k4, k5⟩ := six_keep HC0.out HB1.out
                        go_wp2_with fail
                        clear k0 k1 k2 k3 k4 k5
                        go_ret
                        exact ⟨by rw [HSH.out]; rfl, hb0.out.trans (HB1.out.mono HSZ.out)⟩
                    · skip
                      have HSH : Hid (shp tk (f + 1) .operand n = false) := Lib.hid (by rw [shp]; simp only [if_neg h21, if_neg h22, if_neg h23, if_neg h24, if_neg h25, if_neg h33, if_neg h26, if_neg h27, if_neg h32, if_neg h28])
                      have g21 : (n.kind == 21) = false := by simpa using h21
                      have g22 : (n.kind == 22) = false := by simpa using h22
                      have g23 : (n.kind == 23) = false := by simpa using h23
                      have g24 : (n.kind == 24) = false := by simpa using h24
                      have g25 : (n.kind == 25) = false := by simpa using h25
                      have g33 : (n.kind == 33) = false := by simpa using h33
                      have g26 : (n.kind == 26) = false := by simpa using h26
                      have g27 : (n.kind == 27) = false := by simpa using h27
                      have g32 : (n.kind == 32) = false := by simpa using h32
                      have g28 : (n.kind == 28) = false := by simpa using h28
                      clear h21 h22 h23 h24 h25 h33 h26 h27 h32 h28
                      generalize hNN : w.heap.size = N at *
                      go_enter Tryz.func78, Tryz.ntmps78
                      go_wp2_with fail
                      clear hNN
                      generalize (w.alloc (.cells #[.int .i64 n.kind, .int .i64 n.fro, .int .i64 n.till, .int .i64 n.at', .string n.name, .slice ia n.kids.length ic] 24)) = w1 at *
                      have HB0 := Lib.hid (Below.refl w1.heap.size w1)
                      go_ret
                      exact ⟨by rw [HSH.out]; rfl, hb0.out.trans (HB0.out.mono HSZ.out)⟩
end Go.Proofs.YtkpddjbdmjbefaaGreatDoor
