/-
  ast shapes: statements. (Written by wip/tools/genshape10.py.)
-/
import Derived.Test.YtkpddjbdmjbefaaGreatDoorNSBase
namespace Go.Proofs.YtkpddjbdmjbefaaGreatDoor
open Go.RowKit
variable {tk : Int → ByteArray → Bool} {O : ByteArray → Prop} {FAC : World → Prop}
set_option maxRecDepth 100000 in
set_option maxHeartbeats 2000000 in
theorem isStmt_s (f : Nat) (keepF : ∀ w w', FAC w → Below w.heap.size w w' → FAC w') (Hvar : SL FAC tk O f 57 .var) (Hblock : SL FAC tk O f 44 .block) (Hiff : SL FAC tk O f 58 .iff) (Hforr : SL FAC tk O f 59 .forr) (Hexpr : SL FAC tk O f 60 .expr) (Hdefine : SL FAC tk O f 61 .define) (Hassign : SL FAC tk O f 62 .assign) (HcallS : SL FAC tk O f 63 .callS) : CL FAC tk O (f + 1) 52 .stmt := by
  intro n nv w HFA0 hF hn
  obtain ⟨ia, ic, rfl, hcc, hk⟩ := hn.open
  have hb0 := Lib.hid (alloc_below w (.cells #[.int .i64 n.kind, .int .i64 n.fro, .int .i64 n.till, .int .i64 n.at', .string n.name, .slice ia n.kids.length ic] 24))
  have HSZ := Lib.hid hb0.out.size
  have HFA := Lib.hid (keepF _ _ HFA0 hb0.out)
  have HT := alloc_top w #[.int .i64 n.kind, .int .i64 n.fro, .int .i64 n.till, .int .i64 n.at', .string n.name, .slice ia n.kids.length ic] 24
  have HC0 := Lib.hid (six_cells HT)
  have HN := Lib.hid (NIn.shut (n := n) hcc (hk.below hb0.out))
  have HK := Lib.hid hF
  clear HT hk hn HFA0 hF hcc
  by_cases h11 : n.kind = 11
  · have hkd := h11
    have HSH : Hid (shp tk (f + 1) .stmt n = shp tk f .var n) := Lib.hid (by rw [shp, hkd]; rfl)
    have C167 := Lib.hid (fun (W : World) (hb : Below (w.alloc (.cells #[.int .i64 n.kind, .int .i64 n.fro, .int .i64 n.till, .int .i64 n.at', .string n.name, .slice ia n.kids.length ic] 24)).heap.size (w.alloc (.cells #[.int .i64 n.kind, .int .i64 n.fro, .int .i64 n.till, .int .i64 n.at', .string n.name, .slice ia n.kids.length ic] 24)) W) => Hvar.cl n _ W (keepF _ _ HFA.out hb) (HK.out.same (by decide)) (HN.out.below hb))
    clear h11
    generalize hNN : w.heap.size = N at *
    generalize n.kind = kd at *
    subst hkd
    go_enter Tryz.func52, Tryz.ntmps52
    go_wp2_with fail
    clear hNN
    generalize (w.alloc (.cells #[.int .i64 11, .int .i64 n.fro, .int .i64 n.till, .int .i64 n.at', .string n.name, .slice ia n.kids.length ic] 24)) = w1 at *
    have HB0 := Lib.hid (Below.refl w1.heap.size w1)
    refine (C167.out _ HB0.out).mono ?_
    rintro e w' ⟨rfl, hb⟩
    have HB1 := Lib.hid (HB0.out.trans (hb.mono HB0.out.size))
    clear hb
    obtain ⟨k0, k1, k2, k3, k4, k5⟩ := six_keep HC0.out HB1.out
    go_wp2_with fail
    clear k0 k1 k2 k3 k4 k5
    go_ret
    exact ⟨by rw [HSH.out]; rfl, hb0.out.trans (HB1.out.mono HSZ.out)⟩
  · by_cases h10 : n.kind = 10
    · have hkd := h10
      have HSH : Hid (shp tk (f + 1) .stmt n = shp tk f .block n) := Lib.hid (by rw [shp, hkd]; rfl)
      have C119 := Lib.hid (fun (W : World) (hb : Below (w.alloc (.cells #[.int .i64 n.kind, .int .i64 n.fro, .int .i64 n.till, .int .i64 n.at', .string n.name, .slice ia n.kids.length ic] 24)).heap.size (w.alloc (.cells #[.int .i64 n.kind, .int .i64 n.fro, .int .i64 n.till, .int .i64 n.at', .string n.name, .slice ia n.kids.length ic] 24)) W) => Hblock.cl n _ W (keepF _ _ HFA.out hb) (HK.out.same (by decide)) (HN.out.below hb))
      clear h11 h10
      generalize hNN : w.heap.size = N at *
      generalize n.kind = kd at *
      subst hkd
      go_enter Tryz.func52, Tryz.ntmps52
      go_wp2_with fail
      clear hNN
      generalize (w.alloc (.cells #[.int .i64 10, .int .i64 n.fro, .int .i64 n.till, .int .i64 n.at', .string n.name, .slice ia n.kids.length ic] 24)) = w1 at *
      have HB0 := Lib.hid (Below.refl w1.heap.size w1)
      refine (C119.out _ HB0.out).mono ?_
      rintro e w' ⟨rfl, hb⟩
      have HB1 := Lib.hid (HB0.out.trans (hb.mono HB0.out.size))
      clear hb
      obtain ⟨k0, k1, k2, k3, k4, k5⟩ := six_keep HC0.out HB1.out
      go_wp2_with fail
      clear k0 k1 k2 k3 k4 k5
      go_ret
      exact ⟨by rw [HSH.out]; rfl, hb0.out.trans (HB1.out.mono HSZ.out)⟩
    · by_cases h14 : n.kind = 14
      · have hkd := h14
        have HSH : Hid (shp tk (f + 1) .stmt n = shp tk f .iff n) := Lib.hid (by rw [shp, hkd]; rfl)
        have C168 := Lib.hid (fun (W : World) (hb : Below (w.alloc (.cells #[.int .i64 n.kind, .int .i64 n.fro, .int .i64 n.till, .int .i64 n.at', .string n.name, .slice ia n.kids.length ic] 24)).heap.size (w.alloc (.cells #[.int .i64 n.kind, .int .i64 n.fro, .int .i64 n.till, .int .i64 n.at', .string n.name, .slice ia n.kids.length ic] 24)) W) => Hiff.cl n _ W (keepF _ _ HFA.out hb) (HK.out.same (by decide)) (HN.out.below hb))
        clear h11 h10 h14
        generalize hNN : w.heap.size = N at *
        generalize n.kind = kd at *
        subst hkd
        go_enter Tryz.func52, Tryz.ntmps52
        go_wp2_with fail
        clear hNN
        generalize (w.alloc (.cells #[.int .i64 14, .int .i64 n.fro, .int .i64 n.till, .int .i64 n.at', .string n.name, .slice ia n.kids.length ic] 24)) = w1 at *
        have HB0 := Lib.hid (Below.refl w1.heap.size w1)
        refine (C168.out _ HB0.out).mono ?_
        rintro e w' ⟨rfl, hb⟩
        have HB1 := Lib.hid (HB0.out.trans (hb.mono HB0.out.size))
        clear hb
        obtain ⟨k0, k1, k2, k3, k4, k5⟩ := six_keep HC0.out HB1.out
        go_wp2_with fail
        clear k0 k1 k2 k3 k4 k5
        go_ret
        exact ⟨by rw [HSH.out]; rfl, hb0.out.trans (HB1.out.mono HSZ.out)⟩
      · by_cases h15 : n.kind = 15
        · have hkd := h15
          have HSH : Hid (shp tk (f + 1) .stmt n = shp tk f .forr n) := Lib.hid (by rw [shp, hkd]; rfl)
          have C169 := Lib.hid (fun (W : World) (hb : Below (w.alloc (.cells #[.int .i64 n.kind, .int .i64 n.fro, .int .i64 n.till, .int .i64 n.at', .string n.name, .slice ia n.kids.length ic] 24)).heap.size (w.alloc (.cells #[.int .i64 n.kind, .int .i64 n.fro, .int .i64 n.till, .int .i64 n.at', .string n.name, .slice ia n.kids.length ic] 24)) W) => Hforr.cl n _ W (keepF _ _ HFA.out hb) (HK.out.same (by decide)) (HN.out.below hb))
          clear h11 h10 h14 h15
          generalize hNN : w.heap.size = N at *
          generalize n.kind = kd at *
          subst hkd
          go_enter Tryz.func52, Tryz.ntmps52
          go_wp2_with fail
          clear hNN
          generalize (w.alloc (.cells #[.int .i64 15, .int .i64 n.fro, .int .i64 n.till, .int .i64 n.at', .string n.name, .slice ia n.kids.length ic] 24)) = w1 at *
          have HB0 := Lib.hid (Below.refl w1.heap.size w1)
          refine (C169.out _ HB0.out).mono ?_
          rintro e w' ⟨rfl, hb⟩
          have HB1 := Lib.hid (HB0.out.trans (hb.mono HB0.out.size))
          clear hb
          obtain ⟨k0, k1, k2, k3, k4, k5⟩ := six_keep HC0.out HB1.out
          go_wp2_with fail
          clear k0 k1 k2 k3 k4 k5
          go_ret
          exact ⟨by rw [HSH.out]; rfl, hb0.out.trans (HB1.out.mono HSZ.out)⟩
        · by_cases h16 : n.kind = 16
          · have hkd := h16
            have HSH : Hid (shp tk (f + 1) .stmt n = madeP n nmB [oneP [shp tk f .forr]]) := Lib.hid (by rw [shp, hkd]; rfl)
            clear h11 h10 h14 h15 h16
            generalize hNN : w.heap.size = N at *
            generalize n.kind = kd at *
            subst hkd
            go_enter Tryz.func52, Tryz.ntmps52
            go_wp2_with fail
            clear hNN
            generalize (w.alloc (.cells #[.int .i64 16, .int .i64 n.fro, .int .i64 n.till, .int .i64 n.at', .string n.name, .slice ia n.kids.length ic] 24)) = w1 at *
            have HB0 := Lib.hid (Below.refl w1.heap.size w1)
            refine wp_region_held_drew (S := fun w' => w'.cell? ⟨N, 0, none⟩ = some (.int .i64 16) ∧ w'.cell? ⟨N, 1, none⟩ = some (.int .i64 n.fro) ∧ w'.cell? ⟨N, 2, none⟩ = some (.int .i64 n.till) ∧ w'.cell? ⟨N, 3, none⟩ = some (.int .i64 n.at') ∧ w'.cell? ⟨N, 4, none⟩ = some (.string n.name) ∧ w'.cell? ⟨N, 5, none⟩ = some (.slice ia n.kids.length ic)) (by kernel_rfl) (six_keep HC0.out HB0.out.drew) (fun hHeld => ?_)
            refine wpAnyH_take (i := 0) (oi := ⟨some 23, _, _, _, _, _⟩) (v := ?_) rfl (by kernel_rfl) (by kernel_rfl) (by kernel_rfl) (fun _ _ _ h => h) (Or.inl ⟨by rfl, ?_⟩) hHeld ?_
            rotate_left
            · (intro W hSW; (try dsimp only at hSW); go_simp; first | done | with_reducible rfl)
            try simp only [Act.put, List.setIfInBounds_toArray, List.set_cons_zero, List.set_cons_succ]
            refine region_left (todo := [1, 2, 3, 4, 5]) (φ := fun i => Sp.holds (DD O f) O (match i with | 1 => .frow [(shp tk f .forr)] | 2 => .pt (oneP [(shp tk f .forr)]) | 3 => .prow [(oneP [(shp tk f .forr)])] | 4 => .c (.bool (madeP n nmB [(oneP [(shp tk f .forr)])])) | 5 => .c (.bool (madeP n nmB [(oneP [(shp tk f .forr)])])) | _ => .any)) (by kernel_rfl) (fun i w w' v h hb => Sp.mono _ _ _ h hb) ?_ ⟨?_, ?_, ?_, ?_, ?_, trivial⟩ ?_
            · exact fun w' hb => ⟨cell_kept hHeld.1 rfl hb, cell_kept hHeld.2.1 rfl hb, cell_kept hHeld.2.2.1 rfl hb, cell_kept hHeld.2.2.2.1 rfl hb, cell_kept hHeld.2.2.2.2.1 rfl hb, cell_kept hHeld.2.2.2.2.2 rfl hb⟩
            · intro a w' hb hr hd
              clear hHeld
              refine rop_val (d := 24) (o := _) rfl rfl rfl (v := .slice (some ⟨w'.heap.size, 0, none⟩) 1 1) (w' := w'.alloc (.cells #[.func (.func 59) #[] #[]] 53)) (by go_simp) ?_ (alloc_below _ _)
              exact ⟨_, _, rfl, frow_of ⟨Hforr.sf _ (keepF _ _ HFA.out (HB0.out.trans ((below_drew hb).mono HB0.out.size))), trivial⟩⟩
            · intro a w' hb hr hd
              clear hHeld
              obtain ⟨A24, c24, e24, q24⟩ := hd 1 (by kernel_rfl)
              have e24 : a.tmps.getD 24 undef = .slice A24 1 c24 := e24
              have e24' := getD_q e24
              refine rop_call (d := 25) (o := _) rfl rfl rfl (f := 41) (args := #[.slice A24 1 c24]) (by go_simp) ?_
              exact one_any w' q24 (by simp) (by simp)
            · intro a w' hb hr hd
              clear hHeld
              have p25 : PtV (DD O f) w' (a.tmps.getD 25 undef) (oneP [(shp tk f .forr)]) := hd 2 (by kernel_rfl)
              obtain ⟨hs25, g25, cap25, e25, r25⟩ := id p25
              rw [e25] at p25
              have e25' := getD_q e25
              refine rop_val (d := 26) (o := _) rfl rfl rfl (v := .slice (some ⟨w'.heap.size, 0, none⟩) 1 1) (w' := w'.alloc (.cells #[.func (.func g25) #[] cap25] 45)) (by go_simp) ?_ (alloc_below _ _)
              exact ⟨_, _, rfl, prow_of ⟨p25, trivial⟩⟩
            · intro a w' hb hr hd
              clear hHeld
              have e23 : a.tmps.getD 23 undef = .agg #[.int .i64 16, .int .i64 n.fro, .int .i64 n.till, .int .i64 n.at', .string n.name, .slice ia n.kids.length ic] := hr 23 (by kernel_rfl)
              have e23' := getD_q e23
              obtain ⟨A26, c26, e26, q26⟩ := hd 3 (by kernel_rfl)
              have e26 : a.tmps.getD 26 undef = .slice A26 1 c26 := e26
              have e26' := getD_q e26
              refine rop_call (d := 27) (o := _) rfl rfl rfl (f := 27) (args := #[.agg #[.int .i64 16, .int .i64 n.fro, .int .i64 n.till, .int .i64 n.at', .string n.name, .slice ia n.kids.length ic], .func (.func 28) #[] #[], .slice A26 1 c26]) (by go_simp) ?_
              refine (made_any (D := DD O f) (ps := [(oneP [(shp tk f .forr)])]) w' (nm_name O w') q26 HK.out.lim.2.2 HK.out.lim.1 HK.out.kid HK.out.lim.2.1 (by simp) (HN.out.below (HB0.out.trans ((below_drew hb).mono HB0.out.size)))).mono ?_
              rintro e w'' ⟨rfl, hb'⟩
              exact ⟨_, rfl, rfl, hb'⟩
            · intro a w' hb hr hd
              clear hHeld
              have e27 : a.tmps.getD 27 undef = .bool (madeP n nmB [(oneP [(shp tk f .forr)])]) := hd 4 (by kernel_rfl)
              have e27' := getD_q e27
              exact rop_val (d := 2) (o := _) rfl rfl rfl (v := .bool (madeP n nmB [(oneP [(shp tk f .forr)])])) (w' := w') (by go_simp) rfl (Below.refl _ _)
            · intro vs w' hb hφ
              have v4 : vs 4 = .bool (madeP n nmB [(oneP [(shp tk f .forr)])]) := hφ.2.2.2.1
              have v5 : vs 5 = .bool (madeP n nmB [(oneP [(shp tk f .forr)])]) := hφ.2.2.2.2.1
              clear hHeld hφ
              simp only [setAll, dstOf, List.getElem?_toArray, List.getElem?_cons_zero, List.getElem?_cons_succ, Option.bind_some, Option.getD_some, List.setIfInBounds_toArray, List.set_cons_zero, List.set_cons_succ]
              rw [v4, v5]
              have HB1 := Lib.hid (HB0.out.trans ((below_drew hb).mono HB0.out.size))
              clear hb
              obtain ⟨k0, k1, k2, k3, k4, k5⟩ := six_keep HC0.out HB1.out
              go_wp2_with fail
              clear k0 k1 k2 k3 k4 k5
              go_ret
              exact ⟨by rw [HSH.out]; rfl, hb0.out.trans (HB1.out.mono HSZ.out)⟩
          · by_cases h17 : n.kind = 17
            · have hkd := h17
              cases q1 : madeP n emB [] with
              | true =>
                have HSH : Hid (shp tk (f + 1) .stmt n = true) := Lib.hid (by rw [shp, hkd]; show (madeP n emB [] || madeP n nmB []) = true; rw [q1]; rfl)
                have CA := Lib.hid (fun (W : World) (hb : Below (w.alloc (.cells #[.int .i64 n.kind, .int .i64 n.fro, .int .i64 n.till, .int .i64 n.at', .string n.name, .slice ia n.kids.length ic] 24)).heap.size (w.alloc (.cells #[.int .i64 n.kind, .int .i64 n.fro, .int .i64 n.till, .int .i64 n.at', .string n.name, .slice ia n.kids.length ic] 24)) W) => made_any (D := DD O f) (ps := []) W (nm_empty O W) (prow_nil none) HK.out.lim.2.2 HK.out.lim.1 HK.out.kid HK.out.lim.2.1 (by simp) (HN.out.below hb) (cp := 0))
                rw [q1] at CA
                clear h11 h10 h14 h15 h16 h17
                clear q1
                generalize hNN : w.heap.size = N at *
                generalize n.kind = kd at *
                subst hkd
                go_enter Tryz.func52, Tryz.ntmps52
                go_wp2_with fail
                clear hNN
                generalize (w.alloc (.cells #[.int .i64 17, .int .i64 n.fro, .int .i64 n.till, .int .i64 n.at', .string n.name, .slice ia n.kids.length ic] 24)) = w1 at *
                have HB0 := Lib.hid (Below.refl w1.heap.size w1)
                refine (CA.out _ HB0.out).mono ?_
                rintro e w' ⟨rfl, hb⟩
                have HB1 := Lib.hid (HB0.out.trans (hb.mono HB0.out.size))
                clear hb
                obtain ⟨k0, k1, k2, k3, k4, k5⟩ := six_keep HC0.out HB1.out
                go_wp2_with fail
                clear k0 k1 k2 k3 k4 k5
                go_ret
                exact ⟨by rw [HSH.out]; rfl, hb0.out.trans (HB1.out.mono HSZ.out)⟩
              | false =>
                have HSH : Hid (shp tk (f + 1) .stmt n = madeP n nmB []) := Lib.hid (by rw [shp, hkd]; show (madeP n emB [] || madeP n nmB []) = _; rw [q1]; rfl)
                have CA := Lib.hid (fun (W : World) (hb : Below (w.alloc (.cells #[.int .i64 n.kind, .int .i64 n.fro, .int .i64 n.till, .int .i64 n.at', .string n.name, .slice ia n.kids.length ic] 24)).heap.size (w.alloc (.cells #[.int .i64 n.kind, .int .i64 n.fro, .int .i64 n.till, .int .i64 n.at', .string n.name, .slice ia n.kids.length ic] 24)) W) => made_any (D := DD O f) (ps := []) W (nm_empty O W) (prow_nil none) HK.out.lim.2.2 HK.out.lim.1 HK.out.kid HK.out.lim.2.1 (by simp) (HN.out.below hb) (cp := 0))
                rw [q1] at CA
                have CB := Lib.hid (fun (W : World) (hb : Below (w.alloc (.cells #[.int .i64 n.kind, .int .i64 n.fro, .int .i64 n.till, .int .i64 n.at', .string n.name, .slice ia n.kids.length ic] 24)).heap.size (w.alloc (.cells #[.int .i64 n.kind, .int .i64 n.fro, .int .i64 n.till, .int .i64 n.at', .string n.name, .slice ia n.kids.length ic] 24)) W) => made_any (D := DD O f) (ps := []) W (nm_name O W) (prow_nil none) HK.out.lim.2.2 HK.out.lim.1 HK.out.kid HK.out.lim.2.1 (by simp) (HN.out.below hb) (cp := 0))
                clear h11 h10 h14 h15 h16 h17
                clear q1
                generalize hNN : w.heap.size = N at *
                generalize n.kind = kd at *
                subst hkd
                go_enter Tryz.func52, Tryz.ntmps52
                go_wp2_with fail
                clear hNN
                generalize (w.alloc (.cells #[.int .i64 17, .int .i64 n.fro, .int .i64 n.till, .int .i64 n.at', .string n.name, .slice ia n.kids.length ic] 24)) = w1 at *
                have HB0 := Lib.hid (Below.refl w1.heap.size w1)
                refine (CA.out _ HB0.out).mono ?_
                rintro e w' ⟨rfl, hb⟩
                have HB1 := Lib.hid (HB0.out.trans (hb.mono HB0.out.size))
                clear hb
                obtain ⟨k0, k1, k2, k3, k4, k5⟩ := six_keep HC0.out HB1.out
                go_wp2_with fail
                clear k0 k1 k2 k3 k4 k5
                refine (CB.out _ HB1.out).mono ?_
                rintro e w' ⟨rfl, hb⟩
                have HB2 := Lib.hid (HB1.out.trans (hb.mono HB1.out.size))
                clear hb
                obtain ⟨k0, k1, k2, k3, k4, k5⟩ := six_keep HC0.out HB2.out
                go_wp2_with fail
                clear k0 k1 k2 k3 k4 k5
                go_ret
                exact ⟨by rw [HSH.out]; rfl, hb0.out.trans (HB2.out.mono HSZ.out)⟩
            · by_cases h18 : n.kind = 18
              · have hkd := h18
                cases q1 : madeP n emB [] with
                | true =>
                  have HSH : Hid (shp tk (f + 1) .stmt n = true) := Lib.hid (by rw [shp, hkd]; show (madeP n emB [] || madeP n nmB []) = true; rw [q1]; rfl)
                  have CA := Lib.hid (fun (W : World) (hb : Below (w.alloc (.cells #[.int .i64 n.kind, .int .i64 n.fro, .int .i64 n.till, .int .i64 n.at', .string n.name, .slice ia n.kids.length ic] 24)).heap.size (w.alloc (.cells #[.int .i64 n.kind, .int .i64 n.fro, .int .i64 n.till, .int .i64 n.at', .string n.name, .slice ia n.kids.length ic] 24)) W) => made_any (D := DD O f) (ps := []) W (nm_empty O W) (prow_nil none) HK.out.lim.2.2 HK.out.lim.1 HK.out.kid HK.out.lim.2.1 (by simp) (HN.out.below hb) (cp := 0))
                  rw [q1] at CA
                  clear h11 h10 h14 h15 h16 h17 h18
                  clear q1
                  generalize hNN : w.heap.size = N at *
                  generalize n.kind = kd at *
                  subst hkd
                  go_enter Tryz.func52, Tryz.ntmps52
                  go_wp2_with fail
                  clear hNN
                  generalize (w.alloc (.cells #[.int .i64 18, .int .i64 n.fro, .int .i64 n.till, .int .i64 n.at', .string n.name, .slice ia n.kids.length ic] 24)) = w1 at *
                  have HB0 := Lib.hid (Below.refl w1.heap.size w1)
                  refine (CA.out _ HB0.out).mono ?_
                  rintro e w' ⟨rfl, hb⟩
                  have HB1 := Lib.hid (HB0.out.trans (hb.mono HB0.out.size))
                  clear hb
                  obtain ⟨k0, k1, k2, k3, k4, k5⟩ := six_keep HC0.out HB1.out
                  go_wp2_with fail
                  clear k0 k1 k2 k3 k4 k5
                  go_ret
                  exact ⟨by rw [HSH.out]; rfl, hb0.out.trans (HB1.out.mono HSZ.out)⟩
                | false =>
                  have HSH : Hid (shp tk (f + 1) .stmt n = madeP n nmB []) := Lib.hid (by rw [shp, hkd]; show (madeP n emB [] || madeP n nmB []) = _; rw [q1]; rfl)
                  have CA := Lib.hid (fun (W : World) (hb : Below (w.alloc (.cells #[.int .i64 n.kind, .int .i64 n.fro, .int .i64 n.till, .int .i64 n.at', .string n.name, .slice ia n.kids.length ic] 24)).heap.size (w.alloc (.cells #[.int .i64 n.kind, .int .i64 n.fro, .int .i64 n.till, .int .i64 n.at', .string n.name, .slice ia n.kids.length ic] 24)) W) => made_any (D := DD O f) (ps := []) W (nm_empty O W) (prow_nil none) HK.out.lim.2.2 HK.out.lim.1 HK.out.kid HK.out.lim.2.1 (by simp) (HN.out.below hb) (cp := 0))
                  rw [q1] at CA
                  have CB := Lib.hid (fun (W : World) (hb : Below (w.alloc (.cells #[.int .i64 n.kind, .int .i64 n.fro, .int .i64 n.till, .int .i64 n.at', .string n.name, .slice ia n.kids.length ic] 24)).heap.size (w.alloc (.cells #[.int .i64 n.kind, .int .i64 n.fro, .int .i64 n.till, .int .i64 n.at', .string n.name, .slice ia n.kids.length ic] 24)) W) => made_any (D := DD O f) (ps := []) W (nm_name O W) (prow_nil none) HK.out.lim.2.2 HK.out.lim.1 HK.out.kid HK.out.lim.2.1 (by simp) (HN.out.below hb) (cp := 0))
                  clear h11 h10 h14 h15 h16 h17 h18
                  clear q1
                  generalize hNN : w.heap.size = N at *
                  generalize n.kind = kd at *
                  subst hkd
                  go_enter Tryz.func52, Tryz.ntmps52
                  go_wp2_with fail
                  clear hNN
                  generalize (w.alloc (.cells #[.int .i64 18, .int .i64 n.fro, .int .i64 n.till, .int .i64 n.at', .string n.name, .slice ia n.kids.length ic] 24)) = w1 at *
                  have HB0 := Lib.hid (Below.refl w1.heap.size w1)
                  refine (CA.out _ HB0.out).mono ?_
                  rintro e w' ⟨rfl, hb⟩
                  have HB1 := Lib.hid (HB0.out.trans (hb.mono HB0.out.size))
                  clear hb
                  obtain ⟨k0, k1, k2, k3, k4, k5⟩ := six_keep HC0.out HB1.out
                  go_wp2_with fail
                  clear k0 k1 k2 k3 k4 k5
                  refine (CB.out _ HB1.out).mono ?_
                  rintro e w' ⟨rfl, hb⟩
                  have HB2 := Lib.hid (HB1.out.trans (hb.mono HB1.out.size))
                  clear hb
                  obtain ⟨k0, k1, k2, k3, k4, k5⟩ := six_keep HC0.out HB2.out
                  go_wp2_with fail
                  clear k0 k1 k2 k3 k4 k5
                  go_ret
                  exact ⟨by rw [HSH.out]; rfl, hb0.out.trans (HB2.out.mono HSZ.out)⟩
              · by_cases h19 : n.kind = 19
                · have hkd := h19
                  cases q1 : madeP n emB [] with
                  | true =>
                    have HSH : Hid (shp tk (f + 1) .stmt n = true) := Lib.hid (by rw [shp, hkd]; show (madeP n emB [] || madeP n emB [oneP [shp tk f .expr]]) = _; rw [q1]; rfl)
                    have Q1 := Lib.hid q1
                    clear h11 h10 h14 h15 h16 h17 h18 h19
                    clear q1
                    generalize hNN : w.heap.size = N at *
                    generalize n.kind = kd at *
                    subst hkd
                    go_enter Tryz.func52, Tryz.ntmps52
                    go_wp2_with fail
                    clear hNN
                    generalize (w.alloc (.cells #[.int .i64 19, .int .i64 n.fro, .int .i64 n.till, .int .i64 n.at', .string n.name, .slice ia n.kids.length ic] 24)) = w1 at *
                    have HB0 := Lib.hid (Below.refl w1.heap.size w1)
                    refine wp_region_held_drew (S := fun w' => w'.cell? ⟨N, 0, none⟩ = some (.int .i64 19) ∧ w'.cell? ⟨N, 1, none⟩ = some (.int .i64 n.fro) ∧ w'.cell? ⟨N, 2, none⟩ = some (.int .i64 n.till) ∧ w'.cell? ⟨N, 3, none⟩ = some (.int .i64 n.at') ∧ w'.cell? ⟨N, 4, none⟩ = some (.string n.name) ∧ w'.cell? ⟨N, 5, none⟩ = some (.slice ia n.kids.length ic)) (by kernel_rfl) (six_keep HC0.out HB0.out.drew) (fun hHeld => ?_)
                    refine wpAnyH_take (i := 0) (oi := ⟨some 39, _, _, _, _, _⟩) (v := ?_) rfl (by kernel_rfl) (by kernel_rfl) (by kernel_rfl) (fun _ _ _ h => h) (Or.inl ⟨by rfl, ?_⟩) hHeld ?_
                    rotate_left
                    · (intro W hSW; (try dsimp only at hSW); go_simp; first | done | with_reducible rfl)
                    try simp only [Act.put, List.setIfInBounds_toArray, List.set_cons_zero, List.set_cons_succ]
                    refine region_left (todo := [1, 2, 3, 4, 5, 6, 7, 8, 9]) (φ := fun i => Sp.holds (DD O f) O (match i with | 1 => .c (.bool true) | 2 => .c (.bool true) | 3 => .c undef | 4 => .c undef | 5 => .c undef | 6 => .c undef | 7 => .c undef | 8 => .c (.bool true) | 9 => .c (.bool true) | _ => .any)) (by kernel_rfl) (fun i w w' v h hb => Sp.mono _ _ _ h hb) ?_ ⟨?_, ?_, ?_, ?_, ?_, ?_, ?_, ?_, ?_, trivial⟩ ?_
                    · exact fun w' hb => ⟨cell_kept hHeld.1 rfl hb, cell_kept hHeld.2.1 rfl hb, cell_kept hHeld.2.2.1 rfl hb, cell_kept hHeld.2.2.2.1 rfl hb, cell_kept hHeld.2.2.2.2.1 rfl hb, cell_kept hHeld.2.2.2.2.2 rfl hb⟩
                    · intro a w' hb hr hd
                      clear hHeld
                      have e39 : a.tmps.getD 39 undef = .agg #[.int .i64 19, .int .i64 n.fro, .int .i64 n.till, .int .i64 n.at', .string n.name, .slice ia n.kids.length ic] := hr 39 (by kernel_rfl)
                      have e39' := getD_q e39
                      refine rop_call (d := 40) (o := _) rfl rfl rfl (f := 27) (args := #[.agg #[.int .i64 19, .int .i64 n.fro, .int .i64 n.till, .int .i64 n.at', .string n.name, .slice ia n.kids.length ic], .func (.func 51) #[] #[], .slice none 0 0]) (by go_simp) ?_
                      refine (made_any (D := DD O f) (ps := []) w' (nm_empty O w') (prow_nil none) HK.out.lim.2.2 HK.out.lim.1 HK.out.kid HK.out.lim.2.1 (by simp) (HN.out.below (HB0.out.trans ((below_drew hb).mono HB0.out.size)))).mono ?_
                      rintro e w'' ⟨rfl, hb'⟩
                      exact ⟨_, rfl, by rw [Q1.out]; rfl, hb'⟩
                    · intro a w' hb hr hd
                      clear hHeld
                      have e40 : a.tmps.getD 40 undef = .bool true := hd 1 (by kernel_rfl)
                      have e40' := getD_q e40
                      exact rop_val (d := 41) (o := _) rfl rfl rfl (v := .bool true) (w' := w') (by go_simp) rfl (Below.refl _ _)
                    · intro a w' hb hr hd
                      clear hHeld
                      have hg : a.tmps.getD 41 undef = .bool true := hd 2 (by kernel_rfl)
                      exact rop_skip (d := 42) (o := _) rfl rfl (unwanted_of rfl rfl hg (by decide)) rfl
                    · intro a w' hb hr hd
                      clear hHeld
                      have hg : a.tmps.getD 41 undef = .bool true := hd 2 (by kernel_rfl)
                      exact rop_skip (d := 43) (o := _) rfl rfl (unwanted_of rfl rfl hg (by decide)) rfl
                    · intro a w' hb hr hd
                      clear hHeld
                      have hg : a.tmps.getD 41 undef = .bool true := hd 2 (by kernel_rfl)
                      exact rop_skip (d := 44) (o := _) rfl rfl (unwanted_of rfl rfl hg (by decide)) rfl
                    · intro a w' hb hr hd
                      clear hHeld
                      have hg : a.tmps.getD 41 undef = .bool true := hd 2 (by kernel_rfl)
                      exact rop_skip (d := 45) (o := _) rfl rfl (unwanted_of rfl rfl hg (by decide)) rfl
                    · intro a w' hb hr hd
                      clear hHeld
                      have hg : a.tmps.getD 41 undef = .bool true := hd 2 (by kernel_rfl)
                      exact rop_skip (d := 46) (o := _) rfl rfl (unwanted_of rfl rfl hg (by decide)) rfl
                    · intro a w' hb hr hd
                      clear hHeld
                      have e41 : a.tmps.getD 41 undef = .bool true := hd 2 (by kernel_rfl)
                      have e41' := getD_q e41
                      have e46 : a.tmps.getD 46 undef = undef := hd 7 (by kernel_rfl)
                      have e46' := getD_q e46
                      exact rop_val (d := 47) (o := _) rfl rfl rfl (v := .bool true) (w' := w') (by go_simp) rfl (Below.refl _ _)
                    · intro a w' hb hr hd
                      clear hHeld
                      have e47 : a.tmps.getD 47 undef = .bool true := hd 8 (by kernel_rfl)
                      have e47' := getD_q e47
                      exact rop_val (d := 2) (o := _) rfl rfl rfl (v := .bool true) (w' := w') (by go_simp) rfl (Below.refl _ _)
                    · intro vs w' hb hφ
                      have v1 : vs 1 = .bool true := hφ.1
                      have v2 : vs 2 = .bool true := hφ.2.1
                      have v3 : vs 3 = undef := hφ.2.2.1
                      have v4 : vs 4 = undef := hφ.2.2.2.1
                      have v5 : vs 5 = undef := hφ.2.2.2.2.1
                      have v6 : vs 6 = undef := hφ.2.2.2.2.2.1
                      have v7 : vs 7 = undef := hφ.2.2.2.2.2.2.1
                      have v8 : vs 8 = .bool true := hφ.2.2.2.2.2.2.2.1
                      have v9 : vs 9 = .bool true := hφ.2.2.2.2.2.2.2.2.1
                      clear hHeld hφ
                      simp only [setAll, dstOf, List.getElem?_toArray, List.getElem?_cons_zero, List.getElem?_cons_succ, Option.bind_some, Option.getD_some, List.setIfInBounds_toArray, List.set_cons_zero, List.set_cons_succ]
                      rw [v1, v2, v3, v4, v5, v6, v7, v8, v9]
                      have HB1 := Lib.hid (HB0.out.trans ((below_drew hb).mono HB0.out.size))
                      clear hb
                      obtain ⟨k0, k1, k2, k3, k4, k5⟩ := six_keep HC0.out HB1.out
                      go_wp2_with fail
                      clear k0 k1 k2 k3 k4 k5
                      go_ret
                      exact ⟨by rw [HSH.out]; rfl, hb0.out.trans (HB1.out.mono HSZ.out)⟩
                  | false =>
                    have HSH : Hid (shp tk (f + 1) .stmt n = madeP n emB [oneP [shp tk f .expr]]) := Lib.hid (by rw [shp, hkd]; show (madeP n emB [] || madeP n emB [oneP [shp tk f .expr]]) = _; rw [q1]; rfl)
                    have Q1 := Lib.hid q1
                    clear h11 h10 h14 h15 h16 h17 h18 h19
                    clear q1
                    generalize hNN : w.heap.size = N at *
                    generalize n.kind = kd at *
                    subst hkd
                    go_enter Tryz.func52, Tryz.ntmps52
                    go_wp2_with fail
                    clear hNN
                    generalize (w.alloc (.cells #[.int .i64 19, .int .i64 n.fro, .int .i64 n.till, .int .i64 n.at', .string n.name, .slice ia n.kids.length ic] 24)) = w1 at *
                    have HB0 := Lib.hid (Below.refl w1.heap.size w1)
                    refine wp_region_held_drew (S := fun w' => w'.cell? ⟨N, 0, none⟩ = some (.int .i64 19) ∧ w'.cell? ⟨N, 1, none⟩ = some (.int .i64 n.fro) ∧ w'.cell? ⟨N, 2, none⟩ = some (.int .i64 n.till) ∧ w'.cell? ⟨N, 3, none⟩ = some (.int .i64 n.at') ∧ w'.cell? ⟨N, 4, none⟩ = some (.string n.name) ∧ w'.cell? ⟨N, 5, none⟩ = some (.slice ia n.kids.length ic)) (by kernel_rfl) (six_keep HC0.out HB0.out.drew) (fun hHeld => ?_)
                    refine wpAnyH_take (i := 0) (oi := ⟨some 39, _, _, _, _, _⟩) (v := ?_) rfl (by kernel_rfl) (by kernel_rfl) (by kernel_rfl) (fun _ _ _ h => h) (Or.inl ⟨by rfl, ?_⟩) hHeld ?_
                    rotate_left
                    · (intro W hSW; (try dsimp only at hSW); go_simp; first | done | with_reducible rfl)
                    try simp only [Act.put, List.setIfInBounds_toArray, List.set_cons_zero, List.set_cons_succ]
                    refine region_left (todo := [1, 2, 3, 4, 5, 6, 7, 8, 9]) (φ := fun i => Sp.holds (DD O f) O (match i with | 1 => .c (.bool false) | 2 => .c (.bool false) | 3 => .c (.agg #[.int .i64 19, .int .i64 n.fro, .int .i64 n.till, .int .i64 n.at', .string n.name, .slice ia n.kids.length ic]) | 4 => .frow [(shp tk f .expr)] | 5 => .pt (oneP [(shp tk f .expr)]) | 6 => .prow [(oneP [(shp tk f .expr)])] | 7 => .c (.bool (madeP n emB [(oneP [(shp tk f .expr)])])) | 8 => .c (.bool (madeP n emB [(oneP [(shp tk f .expr)])])) | 9 => .c (.bool (madeP n emB [(oneP [(shp tk f .expr)])])) | _ => .any)) (by kernel_rfl) (fun i w w' v h hb => Sp.mono _ _ _ h hb) ?_ ⟨?_, ?_, ?_, ?_, ?_, ?_, ?_, ?_, ?_, trivial⟩ ?_
                    · exact fun w' hb => ⟨cell_kept hHeld.1 rfl hb, cell_kept hHeld.2.1 rfl hb, cell_kept hHeld.2.2.1 rfl hb, cell_kept hHeld.2.2.2.1 rfl hb, cell_kept hHeld.2.2.2.2.1 rfl hb, cell_kept hHeld.2.2.2.2.2 rfl hb⟩
                    · intro a w' hb hr hd
                      clear hHeld
                      have e39 : a.tmps.getD 39 undef = .agg #[.int .i64 19, .int .i64 n.fro, .int .i64 n.till, .int .i64 n.at', .string n.name, .slice ia n.kids.length ic] := hr 39 (by kernel_rfl)
                      have e39' := getD_q e39
                      refine rop_call (d := 40) (o := _) rfl rfl rfl (f := 27) (args := #[.agg #[.int .i64 19, .int .i64 n.fro, .int .i64 n.till, .int .i64 n.at', .string n.name, .slice ia n.kids.length ic], .func (.func 51) #[] #[], .slice none 0 0]) (by go_simp) ?_
                      refine (made_any (D := DD O f) (ps := []) w' (nm_empty O w') (prow_nil none) HK.out.lim.2.2 HK.out.lim.1 HK.out.kid HK.out.lim.2.1 (by simp) (HN.out.below (HB0.out.trans ((below_drew hb).mono HB0.out.size)))).mono ?_
                      rintro e w'' ⟨rfl, hb'⟩
                      exact ⟨_, rfl, by rw [Q1.out]; rfl, hb'⟩
                    · intro a w' hb hr hd
                      clear hHeld
                      have e40 : a.tmps.getD 40 undef = .bool false := hd 1 (by kernel_rfl)
                      have e40' := getD_q e40
                      exact rop_val (d := 41) (o := _) rfl rfl rfl (v := .bool false) (w' := w') (by go_simp) rfl (Below.refl _ _)
                    · intro a w' hb hr hd
                      have hg : a.tmps.getD 41 undef = .bool false := hd 2 (by kernel_rfl)
                      have e1 : a.tmps.getD 1 undef = .pointer (some ⟨N, 0, none⟩) := hr 1 (by kernel_rfl)
                      have e1' := getD_q e1
                      have hc0 : w'.cell? ⟨N, 0, none⟩ = some (.int .i64 19) := cell_kept hHeld.1 rfl hb
                      have hc1 : w'.cell? ⟨N, 1, none⟩ = some (.int .i64 n.fro) := cell_kept hHeld.2.1 rfl hb
                      have hc2 : w'.cell? ⟨N, 2, none⟩ = some (.int .i64 n.till) := cell_kept hHeld.2.2.1 rfl hb
                      have hc3 : w'.cell? ⟨N, 3, none⟩ = some (.int .i64 n.at') := cell_kept hHeld.2.2.2.1 rfl hb
                      have hc4 : w'.cell? ⟨N, 4, none⟩ = some (.string n.name) := cell_kept hHeld.2.2.2.2.1 rfl hb
                      have hc5 : w'.cell? ⟨N, 5, none⟩ = some (.slice ia n.kids.length ic) := cell_kept hHeld.2.2.2.2.2 rfl hb
                      exact rop_val (d := 42) (o := _) rfl rfl (wanted_of rfl rfl hg) (v := .agg #[.int .i64 19, .int .i64 n.fro, .int .i64 n.till, .int .i64 n.at', .string n.name, .slice ia n.kids.length ic]) (w' := w') (by go_simp) rfl (Below.refl _ _)
                    · intro a w' hb hr hd
                      clear hHeld
                      have hg : a.tmps.getD 41 undef = .bool false := hd 2 (by kernel_rfl)
                      refine rop_val (d := 43) (o := _) rfl rfl (wanted_of rfl rfl hg) (v := .slice (some ⟨w'.heap.size, 0, none⟩) 1 1) (w' := w'.alloc (.cells #[.func (.func 60) #[] #[]] 53)) (by go_simp) ?_ (alloc_below _ _)
                      exact ⟨_, _, rfl, frow_of ⟨Hexpr.sf _ (keepF _ _ HFA.out (HB0.out.trans ((below_drew hb).mono HB0.out.size))), trivial⟩⟩
                    · intro a w' hb hr hd
                      clear hHeld
                      have hg : a.tmps.getD 41 undef = .bool false := hd 2 (by kernel_rfl)
                      obtain ⟨A43, c43, e43, q43⟩ := hd 4 (by kernel_rfl)
                      have e43 : a.tmps.getD 43 undef = .slice A43 1 c43 := e43
                      have e43' := getD_q e43
                      refine rop_call (d := 44) (o := _) rfl rfl (wanted_of rfl rfl hg) (f := 41) (args := #[.slice A43 1 c43]) (by go_simp) ?_
                      exact one_any w' q43 (by simp) (by simp)
                    · intro a w' hb hr hd
                      clear hHeld
                      have hg : a.tmps.getD 41 undef = .bool false := hd 2 (by kernel_rfl)
                      have p44 : PtV (DD O f) w' (a.tmps.getD 44 undef) (oneP [(shp tk f .expr)]) := hd 5 (by kernel_rfl)
                      obtain ⟨hs44, g44, cap44, e44, r44⟩ := id p44
                      rw [e44] at p44
                      have e44' := getD_q e44
                      refine rop_val (d := 45) (o := _) rfl rfl (wanted_of rfl rfl hg) (v := .slice (some ⟨w'.heap.size, 0, none⟩) 1 1) (w' := w'.alloc (.cells #[.func (.func g44) #[] cap44] 45)) (by go_simp) ?_ (alloc_below _ _)
                      exact ⟨_, _, rfl, prow_of ⟨p44, trivial⟩⟩
                    · intro a w' hb hr hd
                      clear hHeld
                      have hg : a.tmps.getD 41 undef = .bool false := hd 2 (by kernel_rfl)
                      have e42 : a.tmps.getD 42 undef = .agg #[.int .i64 19, .int .i64 n.fro, .int .i64 n.till, .int .i64 n.at', .string n.name, .slice ia n.kids.length ic] := hd 3 (by kernel_rfl)
                      have e42' := getD_q e42
                      obtain ⟨A45, c45, e45, q45⟩ := hd 6 (by kernel_rfl)
                      have e45 : a.tmps.getD 45 undef = .slice A45 1 c45 := e45
                      have e45' := getD_q e45
                      refine rop_call (d := 46) (o := _) rfl rfl (wanted_of rfl rfl hg) (f := 27) (args := #[.agg #[.int .i64 19, .int .i64 n.fro, .int .i64 n.till, .int .i64 n.at', .string n.name, .slice ia n.kids.length ic], .func (.func 51) #[] #[], .slice A45 1 c45]) (by go_simp) ?_
                      refine (made_any (D := DD O f) (ps := [(oneP [(shp tk f .expr)])]) w' (nm_empty O w') q45 HK.out.lim.2.2 HK.out.lim.1 HK.out.kid HK.out.lim.2.1 (by simp) (HN.out.below (HB0.out.trans ((below_drew hb).mono HB0.out.size)))).mono ?_
                      rintro e w'' ⟨rfl, hb'⟩
                      exact ⟨_, rfl, rfl, hb'⟩
                    · intro a w' hb hr hd
                      clear hHeld
                      have e41 : a.tmps.getD 41 undef = .bool false := hd 2 (by kernel_rfl)
                      have e41' := getD_q e41
                      have e46 : a.tmps.getD 46 undef = .bool (madeP n emB [(oneP [(shp tk f .expr)])]) := hd 7 (by kernel_rfl)
                      have e46' := getD_q e46
                      exact rop_val (d := 47) (o := _) rfl rfl rfl (v := .bool (madeP n emB [(oneP [(shp tk f .expr)])])) (w' := w') (by go_simp) rfl (Below.refl _ _)
                    · intro a w' hb hr hd
                      clear hHeld
                      have e47 : a.tmps.getD 47 undef = .bool (madeP n emB [(oneP [(shp tk f .expr)])]) := hd 8 (by kernel_rfl)
                      have e47' := getD_q e47
                      exact rop_val (d := 2) (o := _) rfl rfl rfl (v := .bool (madeP n emB [(oneP [(shp tk f .expr)])])) (w' := w') (by go_simp) rfl (Below.refl _ _)
                    · intro vs w' hb hφ
                      have v1 : vs 1 = .bool false := hφ.1
                      have v2 : vs 2 = .bool false := hφ.2.1
                      have v3 : vs 3 = .agg #[.int .i64 19, .int .i64 n.fro, .int .i64 n.till, .int .i64 n.at', .string n.name, .slice ia n.kids.length ic] := hφ.2.2.1
                      have v7 : vs 7 = .bool (madeP n emB [(oneP [(shp tk f .expr)])]) := hφ.2.2.2.2.2.2.1
                      have v8 : vs 8 = .bool (madeP n emB [(oneP [(shp tk f .expr)])]) := hφ.2.2.2.2.2.2.2.1
                      have v9 : vs 9 = .bool (madeP n emB [(oneP [(shp tk f .expr)])]) := hφ.2.2.2.2.2.2.2.2.1
                      clear hHeld hφ
                      simp only [setAll, dstOf, List.getElem?_toArray, List.getElem?_cons_zero, List.getElem?_cons_succ, Option.bind_some, Option.getD_some, List.setIfInBounds_toArray, List.set_cons_zero, List.set_cons_succ]
                      rw [v1, v2, v3, v7, v8, v9]
                      have HB1 := Lib.hid (HB0.out.trans ((below_drew hb).mono HB0.out.size))
                      clear hb
                      obtain ⟨k0, k1, k2, k3, k4, k5⟩ := six_keep HC0.out HB1.out
                      go_wp2_with fail
                      clear k0 k1 k2 k3 k4 k5
                      go_ret
                      exact ⟨by rw [HSH.out]; rfl, hb0.out.trans (HB1.out.mono HSZ.out)⟩
                · cases q1 : shp tk f .define n with
                  | true =>
                    have HSH : Hid (shp tk (f + 1) .stmt n = true) := Lib.hid (by rw [shp]; simp only [if_neg h11, if_neg h10, if_neg h14, if_neg h15, if_neg h16, if_neg (show ¬ (n.kind = 17 ∨ n.kind = 18) by simp [h17, h18]), if_neg h19]; rw [q1]; rfl)
                    have g11 : (n.kind == 11) = false := by simpa using h11
                    have g10 : (n.kind == 10) = false := by simpa using h10
                    have g14 : (n.kind == 14) = false := by simpa using h14
                    have g15 : (n.kind == 15) = false := by simpa using h15
                    have g16 : (n.kind == 16) = false := by simpa using h16
                    have g17 : (n.kind == 17) = false := by simpa using h17
                    have g18 : (n.kind == 18) = false := by simpa using h18
                    have g19 : (n.kind == 19) = false := by simpa using h19
                    clear h11 h10 h14 h15 h16 h17 h18 h19
                    have C171 := Lib.hid (fun (W : World) (hb : Below (w.alloc (.cells #[.int .i64 n.kind, .int .i64 n.fro, .int .i64 n.till, .int .i64 n.at', .string n.name, .slice ia n.kids.length ic] 24)).heap.size (w.alloc (.cells #[.int .i64 n.kind, .int .i64 n.fro, .int .i64 n.till, .int .i64 n.at', .string n.name, .slice ia n.kids.length ic] 24)) W) => Hdefine.cl n _ W (keepF _ _ HFA.out hb) (HK.out.same (by decide)) (HN.out.below hb))
                    rw [q1] at C171
                    clear q1
                    generalize hNN : w.heap.size = N at *
                    go_enter Tryz.func52, Tryz.ntmps52
                    go_wp2_with fail
                    clear hNN
                    generalize (w.alloc (.cells #[.int .i64 n.kind, .int .i64 n.fro, .int .i64 n.till, .int .i64 n.at', .string n.name, .slice ia n.kids.length ic] 24)) = w1 at *
                    have HB0 := Lib.hid (Below.refl w1.heap.size w1)
                    refine (C171.out _ HB0.out).mono ?_
                    rintro e w' ⟨rfl, hb⟩
                    have HB1 := Lib.hid (HB0.out.trans (hb.mono HB0.out.size))
                    clear hb
                    obtain ⟨k0, k1, k2, k3, k4, k5⟩ := six_keep HC0.out HB1.out
                    go_wp2_with fail
                    clear k0 k1 k2 k3 k4 k5
                    go_ret
                    exact ⟨by rw [HSH.out]; rfl, hb0.out.trans (HB1.out.mono HSZ.out)⟩
                  | false =>
                    cases q2 : shp tk f .assign n with
                    | true =>
                      have HSH : Hid (shp tk (f + 1) .stmt n = true) := Lib.hid (by rw [shp]; simp only [if_neg h11, if_neg h10, if_neg h14, if_neg h15, if_neg h16, if_neg (show ¬ (n.kind = 17 ∨ n.kind = 18) by simp [h17, h18]), if_neg h19]; rw [q1, q2]; rfl)
                      have g11 : (n.kind == 11) = false := by simpa using h11
                      have g10 : (n.kind == 10) = false := by simpa using h10
                      have g14 : (n.kind == 14) = false := by simpa using h14
                      have g15 : (n.kind == 15) = false := by simpa using h15
                      have g16 : (n.kind == 16) = false := by simpa using h16
                      have g17 : (n.kind == 17) = false := by simpa using h17
                      have g18 : (n.kind == 18) = false := by simpa using h18
                      have g19 : (n.kind == 19) = false := by simpa using h19
                      clear h11 h10 h14 h15 h16 h17 h18 h19
                      have C171 := Lib.hid (fun (W : World) (hb : Below (w.alloc (.cells #[.int .i64 n.kind, .int .i64 n.fro, .int .i64 n.till, .int .i64 n.at', .string n.name, .slice ia n.kids.length ic] 24)).heap.size (w.alloc (.cells #[.int .i64 n.kind, .int .i64 n.fro, .int .i64 n.till, .int .i64 n.at', .string n.name, .slice ia n.kids.length ic] 24)) W) => Hdefine.cl n _ W (keepF _ _ HFA.out hb) (HK.out.same (by decide)) (HN.out.below hb))
                      rw [q1] at C171
                      have C172 := Lib.hid (fun (W : World) (hb : Below (w.alloc (.cells #[.int .i64 n.kind, .int .i64 n.fro, .int .i64 n.till, .int .i64 n.at', .string n.name, .slice ia n.kids.length ic] 24)).heap.size (w.alloc (.cells #[.int .i64 n.kind, .int .i64 n.fro, .int .i64 n.till, .int .i64 n.at', .string n.name, .slice ia n.kids.length ic] 24)) W) => Hassign.cl n _ W (keepF _ _ HFA.out hb) (HK.out.same (by decide)) (HN.out.below hb))
                      rw [q2] at C172
                      clear q1 q2
                      generalize hNN : w.heap.size = N at *
                      go_enter Tryz.func52, Tryz.ntmps52
                      go_wp2_with fail
                      clear hNN
                      generalize (w.alloc (.cells #[.int .i64 n.kind, .int .i64 n.fro, .int .i64 n.till, .int .i64 n.at', .string n.name, .slice ia n.kids.length ic] 24)) = w1 at *
                      have HB0 := Lib.hid (Below.refl w1.heap.size w1)
                      refine (C171.out _ HB0.out).mono ?_
                      rintro e w' ⟨rfl, hb⟩
                      have HB1 := Lib.hid (HB0.out.trans (hb.mono HB0.out.size))
                      clear hb
                      obtain ⟨k0, k1, k2, k3, k4, k5⟩ := six_keep HC0.out HB1.out
                      go_wp2_with fail
                      clear k0 k1 k2 k3 k4 k5
                      refine (C172.out _ HB1.out).mono ?_
                      rintro e w' ⟨rfl, hb⟩
                      have HB2 := Lib.hid (HB1.out.trans (hb.mono HB1.out.size))
                      clear hb
                      obtain ⟨k0, k1, k2, k3, k4, k5⟩ := six_keep HC0.out HB2.out
                      go_wp2_with fail
                      clear k0 k1 k2 k3 k4 k5
                      go_ret
                      exact ⟨by rw [HSH.out]; rfl, hb0.out.trans (HB2.out.mono HSZ.out)⟩
                    | false =>
                      have HSH : Hid (shp tk (f + 1) .stmt n = shp tk f .callS n) := Lib.hid (by rw [shp]; simp only [if_neg h11, if_neg h10, if_neg h14, if_neg h15, if_neg h16, if_neg (show ¬ (n.kind = 17 ∨ n.kind = 18) by simp [h17, h18]), if_neg h19]; rw [q1, q2]; rfl)
                      have g11 : (n.kind == 11) = false := by simpa using h11
                      have g10 : (n.kind == 10) = false := by simpa using h10
                      have g14 : (n.kind == 14) = false := by simpa using h14
                      have g15 : (n.kind == 15) = false := by simpa using h15
                      have g16 : (n.kind == 16) = false := by simpa using h16
                      have g17 : (n.kind == 17) = false := by simpa using h17
                      have g18 : (n.kind == 18) = false := by simpa using h18
                      have g19 : (n.kind == 19) = false := by simpa using h19
                      clear h11 h10 h14 h15 h16 h17 h18 h19
                      have C171 := Lib.hid (fun (W : World) (hb : Below (w.alloc (.cells #[.int .i64 n.kind, .int .i64 n.fro, .int .i64 n.till, .int .i64 n.at', .string n.name, .slice ia n.kids.length ic] 24)).heap.size (w.alloc (.cells #[.int .i64 n.kind, .int .i64 n.fro, .int .i64 n.till, .int .i64 n.at', .string n.name, .slice ia n.kids.length ic] 24)) W) => Hdefine.cl n _ W (keepF _ _ HFA.out hb) (HK.out.same (by decide)) (HN.out.below hb))
                      rw [q1] at C171
                      have C172 := Lib.hid (fun (W : World) (hb : Below (w.alloc (.cells #[.int .i64 n.kind, .int .i64 n.fro, .int .i64 n.till, .int .i64 n.at', .string n.name, .slice ia n.kids.length ic] 24)).heap.size (w.alloc (.cells #[.int .i64 n.kind, .int .i64 n.fro, .int .i64 n.till, .int .i64 n.at', .string n.name, .slice ia n.kids.length ic] 24)) W) => Hassign.cl n _ W (keepF _ _ HFA.out hb) (HK.out.same (by decide)) (HN.out.below hb))
                      rw [q2] at C172
                      have C173 := Lib.hid (fun (W : World) (hb : Below (w.alloc (.cells #[.int .i64 n.kind, .int .i64 n.fro, .int .i64 n.till, .int .i64 n.at', .string n.name, .slice ia n.kids.length ic] 24)).heap.size (w.alloc (.cells #[.int .i64 n.kind, .int .i64 n.fro, .int .i64 n.till, .int .i64 n.at', .string n.name, .slice ia n.kids.length ic] 24)) W) => HcallS.cl n _ W (keepF _ _ HFA.out hb) (HK.out.same (by decide)) (HN.out.below hb))
                      clear q1 q2
                      generalize hNN : w.heap.size = N at *
                      go_enter Tryz.func52, Tryz.ntmps52
                      go_wp2_with fail
                      clear hNN
                      generalize (w.alloc (.cells #[.int .i64 n.kind, .int .i64 n.fro, .int .i64 n.till, .int .i64 n.at', .string n.name, .slice ia n.kids.length ic] 24)) = w1 at *
                      have HB0 := Lib.hid (Below.refl w1.heap.size w1)
                      refine (C171.out _ HB0.out).mono ?_
                      rintro e w' ⟨rfl, hb⟩
                      have HB1 := Lib.hid (HB0.out.trans (hb.mono HB0.out.size))
                      clear hb
                      obtain ⟨k0, k1, k2, k3, k4, k5⟩ := six_keep HC0.out HB1.out
                      go_wp2_with fail
                      clear k0 k1 k2 k3 k4 k5
                      refine (C172.out _ HB1.out).mono ?_
                      rintro e w' ⟨rfl, hb⟩
                      have HB2 := Lib.hid (HB1.out.trans (hb.mono HB1.out.size))
                      clear hb
                      obtain ⟨k0, k1, k2, k3, k4, k5⟩ := six_keep HC0.out HB2.out
                      go_wp2_with fail
                      clear k0 k1 k2 k3 k4 k5
                      refine (C173.out _ HB2.out).mono ?_
                      rintro e w' ⟨rfl, hb⟩
                      have HB3 := Lib.hid (HB2.out.trans (hb.mono HB2.out.size))
                      clear hb
                      obtain ⟨k0, k1, k2, k3, k4, k5⟩ := six_keep HC0.out HB3.out
                      go_wp2_with fail
                      clear k0 k1 k2 k3 k4 k5
                      go_ret
                      exact ⟨by rw [HSH.out]; rfl, hb0.out.trans (HB3.out.mono HSZ.out)⟩
end Go.Proofs.YtkpddjbdmjbefaaGreatDoor
