/-
  ast shapes of one form: a kind, a name, parts. (Written by wip/tools/genshape10.py.)
-/
import Derived.Test.YtkpddjbdmjbefaaGreatDoorNSBase
namespace Go.Proofs.YtkpddjbdmjbefaaGreatDoor
open Go.RowKit
variable {tk : Int → ByteArray → Bool} {O : ByteArray → Prop} {FAC : World → Prop}
set_option maxRecDepth 100000 in
set_option maxHeartbeats 2000000 in
theorem isIdent_s (f : Nat) (keepF : ∀ w w', FAC w → Below w.heap.size w w' → FAC w')  : CL FAC tk O (f + 1) 54 .ident := by
  intro n nv w HFA0 hF hn
  obtain ⟨ia, ic, rfl, hcc, hk⟩ := hn.open
  have hb0 := Lib.hid (alloc_below w (.cells #[.int .i64 n.kind, .int .i64 n.fro, .int .i64 n.till, .int .i64 n.at', .string n.name, .slice ia n.kids.length ic] 24))
  have HSZ := Lib.hid hb0.out.size
  have HFA := Lib.hid (keepF _ _ HFA0 hb0.out)
  have HT := alloc_top w #[.int .i64 n.kind, .int .i64 n.fro, .int .i64 n.till, .int .i64 n.at', .string n.name, .slice ia n.kids.length ic] 24
  have HC0 := Lib.hid (six_cells HT)
  have HN := Lib.hid (NIn.shut (n := n) hcc (hk.below hb0.out))
  have HK := Lib.hid hF
  clear HT hk hn HFA0 hF hcc
  by_cases hkd : n.kind = 25
  · skip
    have HSH : Hid (shp tk (f + 1) .ident n = madeP n nmB []) := Lib.hid (by rw [shp, hkd]; rfl)
    generalize hNN : w.heap.size = N at *
    generalize n.kind = kd at *
    subst hkd
    go_enter Tryz.func54, Tryz.ntmps54
    go_wp2_with fail
    clear hNN
    generalize (w.alloc (.cells #[.int .i64 25, .int .i64 n.fro, .int .i64 n.till, .int .i64 n.at', .string n.name, .slice ia n.kids.length ic] 24)) = w1 at *
    have HB0 := Lib.hid (Below.refl w1.heap.size w1)
    refine (made_any (D := DD O f) (ps := []) _ (nm_name O _) (prow_nil none) HK.out.lim.2.2 HK.out.lim.1 HK.out.kid HK.out.lim.2.1 (by simp) (HN.out.below HB0.out)).mono ?_
    rintro e w' ⟨rfl, hb⟩
    have HB1 := Lib.hid (HB0.out.trans (hb.mono HB0.out.size))
    clear hb
    obtain ⟨k0, k1, k2, k3, k4, k5⟩ := six_keep HC0.out HB1.out
    go_wp2_with fail
    clear k0 k1 k2 k3 k4 k5
    go_ret
    exact ⟨by rw [HSH.out]; rfl, hb0.out.trans (HB1.out.mono HSZ.out)⟩
  · skip
    have HSH : Hid (shp tk (f + 1) .ident n = false) := Lib.hid (by rw [shp]; simp [hkd])
    have hkd' : (n.kind == 25) = false := by simpa using hkd
    clear hkd
    generalize hNN : w.heap.size = N at *
    go_enter Tryz.func54, Tryz.ntmps54
    go_wp2_with fail
    clear hNN
    generalize (w.alloc (.cells #[.int .i64 n.kind, .int .i64 n.fro, .int .i64 n.till, .int .i64 n.at', .string n.name, .slice ia n.kids.length ic] 24)) = w1 at *
    have HB0 := Lib.hid (Below.refl w1.heap.size w1)
    go_ret
    exact ⟨by rw [HSH.out]; rfl, hb0.out.trans (HB0.out.mono HSZ.out)⟩
set_option maxRecDepth 100000 in
set_option maxHeartbeats 2000000 in
theorem isOwnType_s (f : Nat) (keepF : ∀ w w', FAC w → Below w.heap.size w w' → FAC w')  : CL FAC tk O (f + 1) 40 .own := by
  intro n nv w HFA0 hF hn
  obtain ⟨ia, ic, rfl, hcc, hk⟩ := hn.open
  have hb0 := Lib.hid (alloc_below w (.cells #[.int .i64 n.kind, .int .i64 n.fro, .int .i64 n.till, .int .i64 n.at', .string n.name, .slice ia n.kids.length ic] 24))
  have HSZ := Lib.hid hb0.out.size
  have HFA := Lib.hid (keepF _ _ HFA0 hb0.out)
  have HT := alloc_top w #[.int .i64 n.kind, .int .i64 n.fro, .int .i64 n.till, .int .i64 n.at', .string n.name, .slice ia n.kids.length ic] 24
  have HC0 := Lib.hid (six_cells HT)
  have HN := Lib.hid (NIn.shut (n := n) hcc (hk.below hb0.out))
  have HK := Lib.hid hF
  clear HT hk hn HFA0 hF hcc
  by_cases hkd : n.kind = 8
  · skip
    have HSH : Hid (shp tk (f + 1) .own n = madeP n nmB []) := Lib.hid (by rw [shp, hkd]; rfl)
    generalize hNN : w.heap.size = N at *
    generalize n.kind = kd at *
    subst hkd
    go_enter Tryz.func40, Tryz.ntmps40
    go_wp2_with fail
    clear hNN
    generalize (w.alloc (.cells #[.int .i64 8, .int .i64 n.fro, .int .i64 n.till, .int .i64 n.at', .string n.name, .slice ia n.kids.length ic] 24)) = w1 at *
    have HB0 := Lib.hid (Below.refl w1.heap.size w1)
    refine (made_any (D := DD O f) (ps := []) _ (nm_name O _) (prow_nil none) HK.out.lim.2.2 HK.out.lim.1 HK.out.kid HK.out.lim.2.1 (by simp) (HN.out.below HB0.out)).mono ?_
    rintro e w' ⟨rfl, hb⟩
    have HB1 := Lib.hid (HB0.out.trans (hb.mono HB0.out.size))
    clear hb
    obtain ⟨k0, k1, k2, k3, k4, k5⟩ := six_keep HC0.out HB1.out
    go_wp2_with fail
    clear k0 k1 k2 k3 k4 k5
    go_ret
    exact ⟨by rw [HSH.out]; rfl, hb0.out.trans (HB1.out.mono HSZ.out)⟩
  · skip
    have HSH : Hid (shp tk (f + 1) .own n = false) := Lib.hid (by rw [shp]; simp [hkd])
    have hkd' : (n.kind == 8) = false := by simpa using hkd
    clear hkd
    generalize hNN : w.heap.size = N at *
    go_enter Tryz.func40, Tryz.ntmps40
    go_wp2_with fail
    clear hNN
    generalize (w.alloc (.cells #[.int .i64 n.kind, .int .i64 n.fro, .int .i64 n.till, .int .i64 n.at', .string n.name, .slice ia n.kids.length ic] 24)) = w1 at *
    have HB0 := Lib.hid (Below.refl w1.heap.size w1)
    go_ret
    exact ⟨by rw [HSH.out]; rfl, hb0.out.trans (HB0.out.mono HSZ.out)⟩
set_option maxRecDepth 100000 in
set_option maxHeartbeats 2000000 in
theorem isImport_s (f : Nat) (keepF : ∀ w w', FAC w → Below w.heap.size w w' → FAC w')  : CL FAC tk O (f + 1) 30 .imp := by
  intro n nv w HFA0 hF hn
  obtain ⟨ia, ic, rfl, hcc, hk⟩ := hn.open
  have hb0 := Lib.hid (alloc_below w (.cells #[.int .i64 n.kind, .int .i64 n.fro, .int .i64 n.till, .int .i64 n.at', .string n.name, .slice ia n.kids.length ic] 24))
  have HSZ := Lib.hid hb0.out.size
  have HFA := Lib.hid (keepF _ _ HFA0 hb0.out)
  have HT := alloc_top w #[.int .i64 n.kind, .int .i64 n.fro, .int .i64 n.till, .int .i64 n.at', .string n.name, .slice ia n.kids.length ic] 24
  have HC0 := Lib.hid (six_cells HT)
  have HN := Lib.hid (NIn.shut (n := n) hcc (hk.below hb0.out))
  have HK := Lib.hid hF
  clear HT hk hn HFA0 hF hcc
  by_cases hkd : n.kind = 2
  · skip
    have HSH : Hid (shp tk (f + 1) .imp n = madeP n nmB []) := Lib.hid (by rw [shp, hkd]; rfl)
    generalize hNN : w.heap.size = N at *
    generalize n.kind = kd at *
    subst hkd
    go_enter Tryz.func30, Tryz.ntmps30
    go_wp2_with fail
    clear hNN
    generalize (w.alloc (.cells #[.int .i64 2, .int .i64 n.fro, .int .i64 n.till, .int .i64 n.at', .string n.name, .slice ia n.kids.length ic] 24)) = w1 at *
    have HB0 := Lib.hid (Below.refl w1.heap.size w1)
    refine (made_any (D := DD O f) (ps := []) _ (nm_name O _) (prow_nil none) HK.out.lim.2.2 HK.out.lim.1 HK.out.kid HK.out.lim.2.1 (by simp) (HN.out.below HB0.out)).mono ?_
    rintro e w' ⟨rfl, hb⟩
    have HB1 := Lib.hid (HB0.out.trans (hb.mono HB0.out.size))
    clear hb
    obtain ⟨k0, k1, k2, k3, k4, k5⟩ := six_keep HC0.out HB1.out
    go_wp2_with fail
    clear k0 k1 k2 k3 k4 k5
    go_ret
    exact ⟨by rw [HSH.out]; rfl, hb0.out.trans (HB1.out.mono HSZ.out)⟩
  · skip
    have HSH : Hid (shp tk (f + 1) .imp n = false) := Lib.hid (by rw [shp]; simp [hkd])
    have hkd' : (n.kind == 2) = false := by simpa using hkd
    clear hkd
    generalize hNN : w.heap.size = N at *
    go_enter Tryz.func30, Tryz.ntmps30
    go_wp2_with fail
    clear hNN
    generalize (w.alloc (.cells #[.int .i64 n.kind, .int .i64 n.fro, .int .i64 n.till, .int .i64 n.at', .string n.name, .slice ia n.kids.length ic] 24)) = w1 at *
    have HB0 := Lib.hid (Below.refl w1.heap.size w1)
    go_ret
    exact ⟨by rw [HSH.out]; rfl, hb0.out.trans (HB0.out.mono HSZ.out)⟩
set_option maxRecDepth 100000 in
set_option maxHeartbeats 2000000 in
theorem isNothing_s (f : Nat) (keepF : ∀ w w', FAC w → Below w.heap.size w w' → FAC w')  : CL FAC tk O (f + 1) 42 .nothing := by
  intro n nv w HFA0 hF hn
  obtain ⟨ia, ic, rfl, hcc, hk⟩ := hn.open
  have hb0 := Lib.hid (alloc_below w (.cells #[.int .i64 n.kind, .int .i64 n.fro, .int .i64 n.till, .int .i64 n.at', .string n.name, .slice ia n.kids.length ic] 24))
  have HSZ := Lib.hid hb0.out.size
  have HFA := Lib.hid (keepF _ _ HFA0 hb0.out)
  have HT := alloc_top w #[.int .i64 n.kind, .int .i64 n.fro, .int .i64 n.till, .int .i64 n.at', .string n.name, .slice ia n.kids.length ic] 24
  have HC0 := Lib.hid (six_cells HT)
  have HN := Lib.hid (NIn.shut (n := n) hcc (hk.below hb0.out))
  have HK := Lib.hid hF
  clear HT hk hn HFA0 hF hcc
  by_cases hkd : n.kind = 0
  · skip
    have HSH : Hid (shp tk (f + 1) .nothing n = madeP n emB []) := Lib.hid (by rw [shp, hkd]; rfl)
    generalize hNN : w.heap.size = N at *
    generalize n.kind = kd at *
    subst hkd
    go_enter Tryz.func42, Tryz.ntmps42
    go_wp2_with fail
    clear hNN
    generalize (w.alloc (.cells #[.int .i64 0, .int .i64 n.fro, .int .i64 n.till, .int .i64 n.at', .string n.name, .slice ia n.kids.length ic] 24)) = w1 at *
    have HB0 := Lib.hid (Below.refl w1.heap.size w1)
    refine (made_any (D := DD O f) (ps := []) _ (nm_empty O _) (prow_nil none) HK.out.lim.2.2 HK.out.lim.1 HK.out.kid HK.out.lim.2.1 (by simp) (HN.out.below HB0.out)).mono ?_
    rintro e w' ⟨rfl, hb⟩
    have HB1 := Lib.hid (HB0.out.trans (hb.mono HB0.out.size))
    clear hb
    obtain ⟨k0, k1, k2, k3, k4, k5⟩ := six_keep HC0.out HB1.out
    go_wp2_with fail
    clear k0 k1 k2 k3 k4 k5
    go_ret
    exact ⟨by rw [HSH.out]; rfl, hb0.out.trans (HB1.out.mono HSZ.out)⟩
  · skip
    have HSH : Hid (shp tk (f + 1) .nothing n = false) := Lib.hid (by rw [shp]; simp [hkd])
    have hkd' : (n.kind == 0) = false := by simpa using hkd
    clear hkd
    generalize hNN : w.heap.size = N at *
    go_enter Tryz.func42, Tryz.ntmps42
    go_wp2_with fail
    clear hNN
    generalize (w.alloc (.cells #[.int .i64 n.kind, .int .i64 n.fro, .int .i64 n.till, .int .i64 n.at', .string n.name, .slice ia n.kids.length ic] 24)) = w1 at *
    have HB0 := Lib.hid (Below.refl w1.heap.size w1)
    go_ret
    exact ⟨by rw [HSH.out]; rfl, hb0.out.trans (HB0.out.mono HSZ.out)⟩
set_option maxRecDepth 100000 in
set_option maxHeartbeats 2000000 in
theorem isFarType_s (f : Nat) (keepF : ∀ w w', FAC w → Below w.heap.size w w' → FAC w') (Hident : SL FAC tk O f 54 .ident) : CL FAC tk O (f + 1) 48 .far := by
  intro n nv w HFA0 hF hn
  obtain ⟨ia, ic, rfl, hcc, hk⟩ := hn.open
  have hb0 := Lib.hid (alloc_below w (.cells #[.int .i64 n.kind, .int .i64 n.fro, .int .i64 n.till, .int .i64 n.at', .string n.name, .slice ia n.kids.length ic] 24))
  have HSZ := Lib.hid hb0.out.size
  have HFA := Lib.hid (keepF _ _ HFA0 hb0.out)
  have HT := alloc_top w #[.int .i64 n.kind, .int .i64 n.fro, .int .i64 n.till, .int .i64 n.at', .string n.name, .slice ia n.kids.length ic] 24
  have HC0 := Lib.hid (six_cells HT)
  have HN := Lib.hid (NIn.shut (n := n) hcc (hk.below hb0.out))
  have HK := Lib.hid hF
  clear HT hk hn HFA0 hF hcc
  by_cases hkd : n.kind = 9
  · skip
    have HSH : Hid (shp tk (f + 1) .far n = madeP n nmB [oneP [shp tk f .ident]]) := Lib.hid (by rw [shp, hkd]; rfl)
    generalize hNN : w.heap.size = N at *
    generalize n.kind = kd at *
    subst hkd
    go_enter Tryz.func48, Tryz.ntmps48
    go_wp2_with fail
    clear hNN
    generalize (w.alloc (.cells #[.int .i64 9, .int .i64 n.fro, .int .i64 n.till, .int .i64 n.at', .string n.name, .slice ia n.kids.length ic] 24)) = w1 at *
    have HB0 := Lib.hid (Below.refl w1.heap.size w1)
    refine wp_region_held_drew (S := fun w' => w'.cell? ⟨N, 0, none⟩ = some (.int .i64 9) ∧ w'.cell? ⟨N, 1, none⟩ = some (.int .i64 n.fro) ∧ w'.cell? ⟨N, 2, none⟩ = some (.int .i64 n.till) ∧ w'.cell? ⟨N, 3, none⟩ = some (.int .i64 n.at') ∧ w'.cell? ⟨N, 4, none⟩ = some (.string n.name) ∧ w'.cell? ⟨N, 5, none⟩ = some (.slice ia n.kids.length ic)) (by kernel_rfl) (six_keep HC0.out HB0.out.drew) (fun hHeld => ?_)
    refine wpAnyH_take (i := 0) (oi := ⟨some 3, _, _, _, _, _⟩) (v := ?_) rfl (by kernel_rfl) (by kernel_rfl) (by kernel_rfl) (fun _ _ _ h => h) (Or.inl ⟨by rfl, ?_⟩) hHeld ?_
    rotate_left
    · (intro W hSW; (try dsimp only at hSW); go_simp; first | done | with_reducible rfl)
    try simp only [Act.put, List.setIfInBounds_toArray, List.set_cons_zero, List.set_cons_succ]
    refine wpAnyH_take (i := 1) (oi := ⟨some 4, _, _, _, _, _⟩) (v := ?_) rfl (by kernel_rfl) (by kernel_rfl) (by kernel_rfl) (fun _ _ _ h => h) (Or.inl ⟨by rfl, ?_⟩) hHeld ?_
    rotate_left
    · (intro W hSW; (try dsimp only at hSW); go_simp; first | done | with_reducible rfl)
    try simp only [Act.put, List.setIfInBounds_toArray, List.set_cons_zero, List.set_cons_succ]
    refine wpAnyH_take (i := 2) (oi := ⟨some 5, _, _, _, _, _⟩) (v := ?_) rfl (by kernel_rfl) (by kernel_rfl) (by kernel_rfl) (fun _ _ _ h => h) (Or.inl ⟨by rfl, ?_⟩) hHeld ?_
    rotate_left
    · (intro W hSW; (try dsimp only at hSW); go_simp; first | done | with_reducible rfl)
    try simp only [Act.put, List.setIfInBounds_toArray, List.set_cons_zero, List.set_cons_succ]
    refine wpAnyH_take (i := 3) (oi := ⟨some 6, _, _, _, _, _⟩) (v := ?_) rfl (by kernel_rfl) (by kernel_rfl) (by kernel_rfl) (fun _ _ _ h => h) (Or.inl ⟨by rfl, ?_⟩) hHeld ?_
    rotate_left
    · (intro W hSW; (try dsimp only at hSW); go_simp; first | done | with_reducible rfl)
    try simp only [Act.put, List.setIfInBounds_toArray, List.set_cons_zero, List.set_cons_succ]
    refine wpAnyH_take (i := 4) (oi := ⟨some 7, _, _, _, _, _⟩) (v := ?_) rfl (by kernel_rfl) (by kernel_rfl) (by kernel_rfl) (fun _ _ _ h => h) (Or.inl ⟨by rfl, ?_⟩) hHeld ?_
    rotate_left
    · (intro W hSW; (try dsimp only at hSW); go_simp; first | done | with_reducible rfl)
    try simp only [Act.put, List.setIfInBounds_toArray, List.set_cons_zero, List.set_cons_succ]
    refine region_left (todo := [5, 6, 7, 8, 9, 10]) (φ := fun i => Sp.holds (DD O f) O (match i with | 5 => .frow [(shp tk f .ident)] | 6 => .pt (oneP [(shp tk f .ident)]) | 7 => .prow [(oneP [(shp tk f .ident)])] | 8 => .c (.bool (madeP n nmB [(oneP [(shp tk f .ident)])])) | 9 => .c (.bool (madeP n nmB [(oneP [(shp tk f .ident)])])) | 10 => .c (.bool (madeP n nmB [(oneP [(shp tk f .ident)])])) | _ => .any)) (by kernel_rfl) (fun i w w' v h hb => Sp.mono _ _ _ h hb) ?_ ⟨?_, ?_, ?_, ?_, ?_, ?_, trivial⟩ ?_
    · exact fun w' hb => ⟨cell_kept hHeld.1 rfl hb, cell_kept hHeld.2.1 rfl hb, cell_kept hHeld.2.2.1 rfl hb, cell_kept hHeld.2.2.2.1 rfl hb, cell_kept hHeld.2.2.2.2.1 rfl hb, cell_kept hHeld.2.2.2.2.2 rfl hb⟩
    · intro a w' hb hr hd
      clear hHeld
      have hg : a.tmps.getD 6 undef = .bool true := hr 6 (by kernel_rfl)
      refine rop_val (d := 8) (o := _) rfl rfl (wanted_of rfl rfl hg) (v := .slice (some ⟨w'.heap.size, 0, none⟩) 1 1) (w' := w'.alloc (.cells #[.func (.func 54) #[] #[]] 53)) (by go_simp) ?_ (alloc_below _ _)
      exact ⟨_, _, rfl, frow_of ⟨Hident.sf _ (keepF _ _ HFA.out (HB0.out.trans ((below_drew hb).mono HB0.out.size))), trivial⟩⟩
    · intro a w' hb hr hd
      clear hHeld
      have hg : a.tmps.getD 6 undef = .bool true := hr 6 (by kernel_rfl)
      obtain ⟨A8, c8, e8, q8⟩ := hd 5 (by kernel_rfl)
      have e8 : a.tmps.getD 8 undef = .slice A8 1 c8 := e8
      have e8' := getD_q e8
      refine rop_call (d := 9) (o := _) rfl rfl (wanted_of rfl rfl hg) (f := 41) (args := #[.slice A8 1 c8]) (by go_simp) ?_
      exact one_any w' q8 (by simp) (by simp)
    · intro a w' hb hr hd
      clear hHeld
      have hg : a.tmps.getD 6 undef = .bool true := hr 6 (by kernel_rfl)
      have p9 : PtV (DD O f) w' (a.tmps.getD 9 undef) (oneP [(shp tk f .ident)]) := hd 6 (by kernel_rfl)
      obtain ⟨hs9, g9, cap9, e9, r9⟩ := id p9
      rw [e9] at p9
      have e9' := getD_q e9
      refine rop_val (d := 10) (o := _) rfl rfl (wanted_of rfl rfl hg) (v := .slice (some ⟨w'.heap.size, 0, none⟩) 1 1) (w' := w'.alloc (.cells #[.func (.func g9) #[] cap9] 45)) (by go_simp) ?_ (alloc_below _ _)
      exact ⟨_, _, rfl, prow_of ⟨p9, trivial⟩⟩
    · intro a w' hb hr hd
      clear hHeld
      have hg : a.tmps.getD 6 undef = .bool true := hr 6 (by kernel_rfl)
      have e7 : a.tmps.getD 7 undef = .agg #[.int .i64 9, .int .i64 n.fro, .int .i64 n.till, .int .i64 n.at', .string n.name, .slice ia n.kids.length ic] := hr 7 (by kernel_rfl)
      have e7' := getD_q e7
      obtain ⟨A10, c10, e10, q10⟩ := hd 7 (by kernel_rfl)
      have e10 : a.tmps.getD 10 undef = .slice A10 1 c10 := e10
      have e10' := getD_q e10
      refine rop_call (d := 11) (o := _) rfl rfl (wanted_of rfl rfl hg) (f := 27) (args := #[.agg #[.int .i64 9, .int .i64 n.fro, .int .i64 n.till, .int .i64 n.at', .string n.name, .slice ia n.kids.length ic], .func (.func 28) #[] #[], .slice A10 1 c10]) (by go_simp) ?_
      refine (made_any (D := DD O f) (ps := [(oneP [(shp tk f .ident)])]) w' (nm_name O w') q10 HK.out.lim.2.2 HK.out.lim.1 HK.out.kid HK.out.lim.2.1 (by simp) (HN.out.below (HB0.out.trans ((below_drew hb).mono HB0.out.size)))).mono ?_
      rintro e w'' ⟨rfl, hb'⟩
      exact ⟨_, rfl, rfl, hb'⟩
    · intro a w' hb hr hd
      clear hHeld
      have e6 : a.tmps.getD 6 undef = .bool true := hr 6 (by kernel_rfl)
      have e6' := getD_q e6
      have e11 : a.tmps.getD 11 undef = .bool (madeP n nmB [(oneP [(shp tk f .ident)])]) := hd 8 (by kernel_rfl)
      have e11' := getD_q e11
      exact rop_val (d := 12) (o := _) rfl rfl rfl (v := .bool (madeP n nmB [(oneP [(shp tk f .ident)])])) (w' := w') (by go_simp) rfl (Below.refl _ _)
    · intro a w' hb hr hd
      clear hHeld
      have e12 : a.tmps.getD 12 undef = .bool (madeP n nmB [(oneP [(shp tk f .ident)])]) := hd 9 (by kernel_rfl)
      have e12' := getD_q e12
      exact rop_val (d := 2) (o := _) rfl rfl rfl (v := .bool (madeP n nmB [(oneP [(shp tk f .ident)])])) (w' := w') (by go_simp) rfl (Below.refl _ _)
    · intro vs w' hb hφ
      have v8 : vs 8 = .bool (madeP n nmB [(oneP [(shp tk f .ident)])]) := hφ.2.2.2.1
      have v9 : vs 9 = .bool (madeP n nmB [(oneP [(shp tk f .ident)])]) := hφ.2.2.2.2.1
      have v10 : vs 10 = .bool (madeP n nmB [(oneP [(shp tk f .ident)])]) := hφ.2.2.2.2.2.1
      clear hHeld hφ
      simp only [setAll, dstOf, List.getElem?_toArray, List.getElem?_cons_zero, List.getElem?_cons_succ, Option.bind_some, Option.getD_some, List.setIfInBounds_toArray, List.set_cons_zero, List.set_cons_succ]
      rw [v8, v9, v10]
      have HB1 := Lib.hid (HB0.out.trans ((below_drew hb).mono HB0.out.size))
      clear hb 
      go_wp2_with fail
      go_ret
      exact ⟨by rw [HSH.out]; rfl, hb0.out.trans (HB1.out.mono HSZ.out)⟩
  · skip
    have HSH : Hid (shp tk (f + 1) .far n = false) := Lib.hid (by rw [shp]; simp [hkd])
    have hkd' : (n.kind == 9) = false := by simpa using hkd
    clear hkd
    generalize hNN : w.heap.size = N at *
    go_enter Tryz.func48, Tryz.ntmps48
    go_wp2_with fail
    clear hNN
    generalize (w.alloc (.cells #[.int .i64 n.kind, .int .i64 n.fro, .int .i64 n.till, .int .i64 n.at', .string n.name, .slice ia n.kids.length ic] 24)) = w1 at *
    have HB0 := Lib.hid (Below.refl w1.heap.size w1)
    obtain ⟨k0, k1, k2, k3, k4, k5⟩ := six_keep HC0.out HB0.out
    go_quiet (fail)
    have HB1 := Lib.hid (drewN_belowA HB0.out nq)
    go_wp2_with fail
    clear k0 k1 k2 k3 k4 k5
    go_ret
    exact ⟨by rw [HSH.out]; rfl, hb0.out.trans (HB1.out.mono HSZ.out)⟩
set_option maxRecDepth 100000 in
set_option maxHeartbeats 2000000 in
theorem isBlock_s (f : Nat) (keepF : ∀ w w', FAC w → Below w.heap.size w w' → FAC w') (Hstmt : SL FAC tk O f 52 .stmt) : CL FAC tk O (f + 1) 44 .block := by
  intro n nv w HFA0 hF hn
  obtain ⟨ia, ic, rfl, hcc, hk⟩ := hn.open
  have hb0 := Lib.hid (alloc_below w (.cells #[.int .i64 n.kind, .int .i64 n.fro, .int .i64 n.till, .int .i64 n.at', .string n.name, .slice ia n.kids.length ic] 24))
  have HSZ := Lib.hid hb0.out.size
  have HFA := Lib.hid (keepF _ _ HFA0 hb0.out)
  have HT := alloc_top w #[.int .i64 n.kind, .int .i64 n.fro, .int .i64 n.till, .int .i64 n.at', .string n.name, .slice ia n.kids.length ic] 24
  have HC0 := Lib.hid (six_cells HT)
  have HN := Lib.hid (NIn.shut (n := n) hcc (hk.below hb0.out))
  have HK := Lib.hid hF
  clear HT hk hn HFA0 hF hcc
  by_cases hkd : n.kind = 10
  · skip
    have HSH : Hid (shp tk (f + 1) .block n = madeP n emB [manyP (shp tk f .stmt)]) := Lib.hid (by rw [shp, hkd]; rfl)
    generalize hNN : w.heap.size = N at *
    generalize n.kind = kd at *
    subst hkd
    go_enter Tryz.func44, Tryz.ntmps44
    go_wp2_with fail
    clear hNN
    generalize (w.alloc (.cells #[.int .i64 10, .int .i64 n.fro, .int .i64 n.till, .int .i64 n.at', .string n.name, .slice ia n.kids.length ic] 24)) = w1 at *
    have HB0 := Lib.hid (Below.refl w1.heap.size w1)
    refine wp_region_held_drew (S := fun w' => w'.cell? ⟨N, 0, none⟩ = some (.int .i64 10) ∧ w'.cell? ⟨N, 1, none⟩ = some (.int .i64 n.fro) ∧ w'.cell? ⟨N, 2, none⟩ = some (.int .i64 n.till) ∧ w'.cell? ⟨N, 3, none⟩ = some (.int .i64 n.at') ∧ w'.cell? ⟨N, 4, none⟩ = some (.string n.name) ∧ w'.cell? ⟨N, 5, none⟩ = some (.slice ia n.kids.length ic)) (by kernel_rfl) (six_keep HC0.out HB0.out.drew) (fun hHeld => ?_)
    refine wpAnyH_take (i := 0) (oi := ⟨some 3, _, _, _, _, _⟩) (v := ?_) rfl (by kernel_rfl) (by kernel_rfl) (by kernel_rfl) (fun _ _ _ h => h) (Or.inl ⟨by rfl, ?_⟩) hHeld ?_
    rotate_left
    · (intro W hSW; (try dsimp only at hSW); go_simp; first | done | with_reducible rfl)
    try simp only [Act.put, List.setIfInBounds_toArray, List.set_cons_zero, List.set_cons_succ]
    refine wpAnyH_take (i := 1) (oi := ⟨some 4, _, _, _, _, _⟩) (v := ?_) rfl (by kernel_rfl) (by kernel_rfl) (by kernel_rfl) (fun _ _ _ h => h) (Or.inl ⟨by rfl, ?_⟩) hHeld ?_
    rotate_left
    · (intro W hSW; (try dsimp only at hSW); go_simp; first | done | with_reducible rfl)
    try simp only [Act.put, List.setIfInBounds_toArray, List.set_cons_zero, List.set_cons_succ]
    refine wpAnyH_take (i := 2) (oi := ⟨some 5, _, _, _, _, _⟩) (v := ?_) rfl (by kernel_rfl) (by kernel_rfl) (by kernel_rfl) (fun _ _ _ h => h) (Or.inl ⟨by rfl, ?_⟩) hHeld ?_
    rotate_left
    · (intro W hSW; (try dsimp only at hSW); go_simp; first | done | with_reducible rfl)
    try simp only [Act.put, List.setIfInBounds_toArray, List.set_cons_zero, List.set_cons_succ]
    refine wpAnyH_take (i := 3) (oi := ⟨some 6, _, _, _, _, _⟩) (v := ?_) rfl (by kernel_rfl) (by kernel_rfl) (by kernel_rfl) (fun _ _ _ h => h) (Or.inl ⟨by rfl, ?_⟩) hHeld ?_
    rotate_left
    · (intro W hSW; (try dsimp only at hSW); go_simp; first | done | with_reducible rfl)
    try simp only [Act.put, List.setIfInBounds_toArray, List.set_cons_zero, List.set_cons_succ]
    refine wpAnyH_take (i := 4) (oi := ⟨some 7, _, _, _, _, _⟩) (v := ?_) rfl (by kernel_rfl) (by kernel_rfl) (by kernel_rfl) (fun _ _ _ h => h) (Or.inl ⟨by rfl, ?_⟩) hHeld ?_
    rotate_left
    · (intro W hSW; (try dsimp only at hSW); go_simp; first | done | with_reducible rfl)
    try simp only [Act.put, List.setIfInBounds_toArray, List.set_cons_zero, List.set_cons_succ]
    refine region_left (todo := [5, 6, 7, 8, 9]) (φ := fun i => Sp.holds (DD O f) O (match i with | 5 => .pt (manyP (shp tk f .stmt)) | 6 => .prow [(manyP (shp tk f .stmt))] | 7 => .c (.bool (madeP n emB [(manyP (shp tk f .stmt))])) | 8 => .c (.bool (madeP n emB [(manyP (shp tk f .stmt))])) | 9 => .c (.bool (madeP n emB [(manyP (shp tk f .stmt))])) | _ => .any)) (by kernel_rfl) (fun i w w' v h hb => Sp.mono _ _ _ h hb) ?_ ⟨?_, ?_, ?_, ?_, ?_, trivial⟩ ?_
    · exact fun w' hb => ⟨cell_kept hHeld.1 rfl hb, cell_kept hHeld.2.1 rfl hb, cell_kept hHeld.2.2.1 rfl hb, cell_kept hHeld.2.2.2.1 rfl hb, cell_kept hHeld.2.2.2.2.1 rfl hb, cell_kept hHeld.2.2.2.2.2 rfl hb⟩
    · intro a w' hb hr hd
      clear hHeld
      have hg : a.tmps.getD 6 undef = .bool true := hr 6 (by kernel_rfl)
      refine rop_call (d := 8) (o := _) rfl rfl (wanted_of rfl rfl hg) (f := 29) (args := #[.func (.func 52) #[] #[]]) (by go_simp) ?_
      exact many_any w' (Hstmt.sf _ (keepF _ _ HFA.out (HB0.out.trans ((below_drew hb).mono HB0.out.size))))
    · intro a w' hb hr hd
      clear hHeld
      have hg : a.tmps.getD 6 undef = .bool true := hr 6 (by kernel_rfl)
      have p8 : PtV (DD O f) w' (a.tmps.getD 8 undef) (manyP (shp tk f .stmt)) := hd 5 (by kernel_rfl)
      obtain ⟨hs8, g8, cap8, e8, r8⟩ := id p8
      rw [e8] at p8
      have e8' := getD_q e8
      refine rop_val (d := 9) (o := _) rfl rfl (wanted_of rfl rfl hg) (v := .slice (some ⟨w'.heap.size, 0, none⟩) 1 1) (w' := w'.alloc (.cells #[.func (.func g8) #[] cap8] 45)) (by go_simp) ?_ (alloc_below _ _)
      exact ⟨_, _, rfl, prow_of ⟨p8, trivial⟩⟩
    · intro a w' hb hr hd
      clear hHeld
      have hg : a.tmps.getD 6 undef = .bool true := hr 6 (by kernel_rfl)
      have e7 : a.tmps.getD 7 undef = .agg #[.int .i64 10, .int .i64 n.fro, .int .i64 n.till, .int .i64 n.at', .string n.name, .slice ia n.kids.length ic] := hr 7 (by kernel_rfl)
      have e7' := getD_q e7
      obtain ⟨A9, c9, e9, q9⟩ := hd 6 (by kernel_rfl)
      have e9 : a.tmps.getD 9 undef = .slice A9 1 c9 := e9
      have e9' := getD_q e9
      refine rop_call (d := 10) (o := _) rfl rfl (wanted_of rfl rfl hg) (f := 27) (args := #[.agg #[.int .i64 10, .int .i64 n.fro, .int .i64 n.till, .int .i64 n.at', .string n.name, .slice ia n.kids.length ic], .func (.func 51) #[] #[], .slice A9 1 c9]) (by go_simp) ?_
      refine (made_any (D := DD O f) (ps := [(manyP (shp tk f .stmt))]) w' (nm_empty O w') q9 HK.out.lim.2.2 HK.out.lim.1 HK.out.kid HK.out.lim.2.1 (by simp) (HN.out.below (HB0.out.trans ((below_drew hb).mono HB0.out.size)))).mono ?_
      rintro e w'' ⟨rfl, hb'⟩
      exact ⟨_, rfl, rfl, hb'⟩
    · intro a w' hb hr hd
      clear hHeld
      have e6 : a.tmps.getD 6 undef = .bool true := hr 6 (by kernel_rfl)
      have e6' := getD_q e6
      have e10 : a.tmps.getD 10 undef = .bool (madeP n emB [(manyP (shp tk f .stmt))]) := hd 7 (by kernel_rfl)
      have e10' := getD_q e10
      exact rop_val (d := 11) (o := _) rfl rfl rfl (v := .bool (madeP n emB [(manyP (shp tk f .stmt))])) (w' := w') (by go_simp) rfl (Below.refl _ _)
    · intro a w' hb hr hd
      clear hHeld
      have e11 : a.tmps.getD 11 undef = .bool (madeP n emB [(manyP (shp tk f .stmt))]) := hd 8 (by kernel_rfl)
      have e11' := getD_q e11
      exact rop_val (d := 2) (o := _) rfl rfl rfl (v := .bool (madeP n emB [(manyP (shp tk f .stmt))])) (w' := w') (by go_simp) rfl (Below.refl _ _)
    · intro vs w' hb hφ
      have v7 : vs 7 = .bool (madeP n emB [(manyP (shp tk f .stmt))]) := hφ.2.2.1
      have v8 : vs 8 = .bool (madeP n emB [(manyP (shp tk f .stmt))]) := hφ.2.2.2.1
      have v9 : vs 9 = .bool (madeP n emB [(manyP (shp tk f .stmt))]) := hφ.2.2.2.2.1
      clear hHeld hφ
      simp only [setAll, dstOf, List.getElem?_toArray, List.getElem?_cons_zero, List.getElem?_cons_succ, Option.bind_some, Option.getD_some, List.setIfInBounds_toArray, List.set_cons_zero, List.set_cons_succ]
      rw [v7, v8, v9]
      have HB1 := Lib.hid (HB0.out.trans ((below_drew hb).mono HB0.out.size))
      clear hb 
      go_wp2_with fail
      go_ret
      exact ⟨by rw [HSH.out]; rfl, hb0.out.trans (HB1.out.mono HSZ.out)⟩
  · skip
    have HSH : Hid (shp tk (f + 1) .block n = false) := Lib.hid (by rw [shp]; simp [hkd])
    have hkd' : (n.kind == 10) = false := by simpa using hkd
    clear hkd
    generalize hNN : w.heap.size = N at *
    go_enter Tryz.func44, Tryz.ntmps44
    go_wp2_with fail
    clear hNN
    generalize (w.alloc (.cells #[.int .i64 n.kind, .int .i64 n.fro, .int .i64 n.till, .int .i64 n.at', .string n.name, .slice ia n.kids.length ic] 24)) = w1 at *
    have HB0 := Lib.hid (Below.refl w1.heap.size w1)
    obtain ⟨k0, k1, k2, k3, k4, k5⟩ := six_keep HC0.out HB0.out
    go_quiet (fail)
    have HB1 := Lib.hid (drewN_belowA HB0.out nq)
    go_wp2_with fail
    clear k0 k1 k2 k3 k4 k5
    go_ret
    exact ⟨by rw [HSH.out]; rfl, hb0.out.trans (HB1.out.mono HSZ.out)⟩
set_option maxRecDepth 100000 in
set_option maxHeartbeats 2000000 in
theorem isDefine_s (f : Nat) (keepF : ∀ w w', FAC w → Below w.heap.size w w' → FAC w') (Hexpr : SL FAC tk O f 60 .expr) : CL FAC tk O (f + 1) 61 .define := by
  intro n nv w HFA0 hF hn
  obtain ⟨ia, ic, rfl, hcc, hk⟩ := hn.open
  have hb0 := Lib.hid (alloc_below w (.cells #[.int .i64 n.kind, .int .i64 n.fro, .int .i64 n.till, .int .i64 n.at', .string n.name, .slice ia n.kids.length ic] 24))
  have HSZ := Lib.hid hb0.out.size
  have HFA := Lib.hid (keepF _ _ HFA0 hb0.out)
  have HT := alloc_top w #[.int .i64 n.kind, .int .i64 n.fro, .int .i64 n.till, .int .i64 n.at', .string n.name, .slice ia n.kids.length ic] 24
  have HC0 := Lib.hid (six_cells HT)
  have HN := Lib.hid (NIn.shut (n := n) hcc (hk.below hb0.out))
  have HK := Lib.hid hF
  clear HT hk hn HFA0 hF hcc
  by_cases hkd : n.kind = 12
  · skip
    have HSH : Hid (shp tk (f + 1) .define n = madeP n nmB [oneP [shp tk f .expr]]) := Lib.hid (by rw [shp, hkd]; rfl)
    generalize hNN : w.heap.size = N at *
    generalize n.kind = kd at *
    subst hkd
    go_enter Tryz.func61, Tryz.ntmps61
    go_wp2_with fail
    clear hNN
    generalize (w.alloc (.cells #[.int .i64 12, .int .i64 n.fro, .int .i64 n.till, .int .i64 n.at', .string n.name, .slice ia n.kids.length ic] 24)) = w1 at *
    have HB0 := Lib.hid (Below.refl w1.heap.size w1)
    refine wp_region_held_drew (S := fun w' => w'.cell? ⟨N, 0, none⟩ = some (.int .i64 12) ∧ w'.cell? ⟨N, 1, none⟩ = some (.int .i64 n.fro) ∧ w'.cell? ⟨N, 2, none⟩ = some (.int .i64 n.till) ∧ w'.cell? ⟨N, 3, none⟩ = some (.int .i64 n.at') ∧ w'.cell? ⟨N, 4, none⟩ = some (.string n.name) ∧ w'.cell? ⟨N, 5, none⟩ = some (.slice ia n.kids.length ic)) (by kernel_rfl) (six_keep HC0.out HB0.out.drew) (fun hHeld => ?_)
    refine wpAnyH_take (i := 0) (oi := ⟨some 3, _, _, _, _, _⟩) (v := ?_) rfl (by kernel_rfl) (by kernel_rfl) (by kernel_rfl) (fun _ _ _ h => h) (Or.inl ⟨by rfl, ?_⟩) hHeld ?_
    rotate_left
    · (intro W hSW; (try dsimp only at hSW); go_simp; first | done | with_reducible rfl)
    try simp only [Act.put, List.setIfInBounds_toArray, List.set_cons_zero, List.set_cons_succ]
    refine wpAnyH_take (i := 1) (oi := ⟨some 4, _, _, _, _, _⟩) (v := ?_) rfl (by kernel_rfl) (by kernel_rfl) (by kernel_rfl) (fun _ _ _ h => h) (Or.inl ⟨by rfl, ?_⟩) hHeld ?_
    rotate_left
    · (intro W hSW; (try dsimp only at hSW); go_simp; first | done | with_reducible rfl)
    try simp only [Act.put, List.setIfInBounds_toArray, List.set_cons_zero, List.set_cons_succ]
    refine wpAnyH_take (i := 2) (oi := ⟨some 5, _, _, _, _, _⟩) (v := ?_) rfl (by kernel_rfl) (by kernel_rfl) (by kernel_rfl) (fun _ _ _ h => h) (Or.inl ⟨by rfl, ?_⟩) hHeld ?_
    rotate_left
    · (intro W hSW; (try dsimp only at hSW); go_simp; first | done | with_reducible rfl)
    try simp only [Act.put, List.setIfInBounds_toArray, List.set_cons_zero, List.set_cons_succ]
    refine wpAnyH_take (i := 3) (oi := ⟨some 6, _, _, _, _, _⟩) (v := ?_) rfl (by kernel_rfl) (by kernel_rfl) (by kernel_rfl) (fun _ _ _ h => h) (Or.inl ⟨by rfl, ?_⟩) hHeld ?_
    rotate_left
    · (intro W hSW; (try dsimp only at hSW); go_simp; first | done | with_reducible rfl)
    try simp only [Act.put, List.setIfInBounds_toArray, List.set_cons_zero, List.set_cons_succ]
    refine wpAnyH_take (i := 4) (oi := ⟨some 7, _, _, _, _, _⟩) (v := ?_) rfl (by kernel_rfl) (by kernel_rfl) (by kernel_rfl) (fun _ _ _ h => h) (Or.inl ⟨by rfl, ?_⟩) hHeld ?_
    rotate_left
    · (intro W hSW; (try dsimp only at hSW); go_simp; first | done | with_reducible rfl)
    try simp only [Act.put, List.setIfInBounds_toArray, List.set_cons_zero, List.set_cons_succ]
    refine region_left (todo := [5, 6, 7, 8, 9, 10]) (φ := fun i => Sp.holds (DD O f) O (match i with | 5 => .frow [(shp tk f .expr)] | 6 => .pt (oneP [(shp tk f .expr)]) | 7 => .prow [(oneP [(shp tk f .expr)])] | 8 => .c (.bool (madeP n nmB [(oneP [(shp tk f .expr)])])) | 9 => .c (.bool (madeP n nmB [(oneP [(shp tk f .expr)])])) | 10 => .c (.bool (madeP n nmB [(oneP [(shp tk f .expr)])])) | _ => .any)) (by kernel_rfl) (fun i w w' v h hb => Sp.mono _ _ _ h hb) ?_ ⟨?_, ?_, ?_, ?_, ?_, ?_, trivial⟩ ?_
    · exact fun w' hb => ⟨cell_kept hHeld.1 rfl hb, cell_kept hHeld.2.1 rfl hb, cell_kept hHeld.2.2.1 rfl hb, cell_kept hHeld.2.2.2.1 rfl hb, cell_kept hHeld.2.2.2.2.1 rfl hb, cell_kept hHeld.2.2.2.2.2 rfl hb⟩
    · intro a w' hb hr hd
      clear hHeld
      have hg : a.tmps.getD 6 undef = .bool true := hr 6 (by kernel_rfl)
      refine rop_val (d := 8) (o := _) rfl rfl (wanted_of rfl rfl hg) (v := .slice (some ⟨w'.heap.size, 0, none⟩) 1 1) (w' := w'.alloc (.cells #[.func (.func 60) #[] #[]] 53)) (by go_simp) ?_ (alloc_below _ _)
      exact ⟨_, _, rfl, frow_of ⟨Hexpr.sf _ (keepF _ _ HFA.out (HB0.out.trans ((below_drew hb).mono HB0.out.size))), trivial⟩⟩
    · intro a w' hb hr hd
      clear hHeld
      have hg : a.tmps.getD 6 undef = .bool true := hr 6 (by kernel_rfl)
      obtain ⟨A8, c8, e8, q8⟩ := hd 5 (by kernel_rfl)
      have e8 : a.tmps.getD 8 undef = .slice A8 1 c8 := e8
      have e8' := getD_q e8
      refine rop_call (d := 9) (o := _) rfl rfl (wanted_of rfl rfl hg) (f := 41) (args := #[.slice A8 1 c8]) (by go_simp) ?_
      exact one_any w' q8 (by simp) (by simp)
    · intro a w' hb hr hd
      clear hHeld
      have hg : a.tmps.getD 6 undef = .bool true := hr 6 (by kernel_rfl)
      have p9 : PtV (DD O f) w' (a.tmps.getD 9 undef) (oneP [(shp tk f .expr)]) := hd 6 (by kernel_rfl)
      obtain ⟨hs9, g9, cap9, e9, r9⟩ := id p9
      rw [e9] at p9
      have e9' := getD_q e9
      refine rop_val (d := 10) (o := _) rfl rfl (wanted_of rfl rfl hg) (v := .slice (some ⟨w'.heap.size, 0, none⟩) 1 1) (w' := w'.alloc (.cells #[.func (.func g9) #[] cap9] 45)) (by go_simp) ?_ (alloc_below _ _)
      exact ⟨_, _, rfl, prow_of ⟨p9, trivial⟩⟩
    · intro a w' hb hr hd
      clear hHeld
      have hg : a.tmps.getD 6 undef = .bool true := hr 6 (by kernel_rfl)
      have e7 : a.tmps.getD 7 undef = .agg #[.int .i64 12, .int .i64 n.fro, .int .i64 n.till, .int .i64 n.at', .string n.name, .slice ia n.kids.length ic] := hr 7 (by kernel_rfl)
      have e7' := getD_q e7
      obtain ⟨A10, c10, e10, q10⟩ := hd 7 (by kernel_rfl)
      have e10 : a.tmps.getD 10 undef = .slice A10 1 c10 := e10
      have e10' := getD_q e10
      refine rop_call (d := 11) (o := _) rfl rfl (wanted_of rfl rfl hg) (f := 27) (args := #[.agg #[.int .i64 12, .int .i64 n.fro, .int .i64 n.till, .int .i64 n.at', .string n.name, .slice ia n.kids.length ic], .func (.func 28) #[] #[], .slice A10 1 c10]) (by go_simp) ?_
      refine (made_any (D := DD O f) (ps := [(oneP [(shp tk f .expr)])]) w' (nm_name O w') q10 HK.out.lim.2.2 HK.out.lim.1 HK.out.kid HK.out.lim.2.1 (by simp) (HN.out.below (HB0.out.trans ((below_drew hb).mono HB0.out.size)))).mono ?_
      rintro e w'' ⟨rfl, hb'⟩
      exact ⟨_, rfl, rfl, hb'⟩
    · intro a w' hb hr hd
      clear hHeld
      have e6 : a.tmps.getD 6 undef = .bool true := hr 6 (by kernel_rfl)
      have e6' := getD_q e6
      have e11 : a.tmps.getD 11 undef = .bool (madeP n nmB [(oneP [(shp tk f .expr)])]) := hd 8 (by kernel_rfl)
      have e11' := getD_q e11
      exact rop_val (d := 12) (o := _) rfl rfl rfl (v := .bool (madeP n nmB [(oneP [(shp tk f .expr)])])) (w' := w') (by go_simp) rfl (Below.refl _ _)
    · intro a w' hb hr hd
      clear hHeld
      have e12 : a.tmps.getD 12 undef = .bool (madeP n nmB [(oneP [(shp tk f .expr)])]) := hd 9 (by kernel_rfl)
      have e12' := getD_q e12
      exact rop_val (d := 2) (o := _) rfl rfl rfl (v := .bool (madeP n nmB [(oneP [(shp tk f .expr)])])) (w' := w') (by go_simp) rfl (Below.refl _ _)
    · intro vs w' hb hφ
      have v8 : vs 8 = .bool (madeP n nmB [(oneP [(shp tk f .expr)])]) := hφ.2.2.2.1
      have v9 : vs 9 = .bool (madeP n nmB [(oneP [(shp tk f .expr)])]) := hφ.2.2.2.2.1
      have v10 : vs 10 = .bool (madeP n nmB [(oneP [(shp tk f .expr)])]) := hφ.2.2.2.2.2.1
      clear hHeld hφ
      simp only [setAll, dstOf, List.getElem?_toArray, List.getElem?_cons_zero, List.getElem?_cons_succ, Option.bind_some, Option.getD_some, List.setIfInBounds_toArray, List.set_cons_zero, List.set_cons_succ]
      rw [v8, v9, v10]
      have HB1 := Lib.hid (HB0.out.trans ((below_drew hb).mono HB0.out.size))
      clear hb 
      go_wp2_with fail
      go_ret
      exact ⟨by rw [HSH.out]; rfl, hb0.out.trans (HB1.out.mono HSZ.out)⟩
  · skip
    have HSH : Hid (shp tk (f + 1) .define n = false) := Lib.hid (by rw [shp]; simp [hkd])
    have hkd' : (n.kind == 12) = false := by simpa using hkd
    clear hkd
    generalize hNN : w.heap.size = N at *
    go_enter Tryz.func61, Tryz.ntmps61
    go_wp2_with fail
    clear hNN
    generalize (w.alloc (.cells #[.int .i64 n.kind, .int .i64 n.fro, .int .i64 n.till, .int .i64 n.at', .string n.name, .slice ia n.kids.length ic] 24)) = w1 at *
    have HB0 := Lib.hid (Below.refl w1.heap.size w1)
    obtain ⟨k0, k1, k2, k3, k4, k5⟩ := six_keep HC0.out HB0.out
    go_quiet (fail)
    have HB1 := Lib.hid (drewN_belowA HB0.out nq)
    go_wp2_with fail
    clear k0 k1 k2 k3 k4 k5
    go_ret
    exact ⟨by rw [HSH.out]; rfl, hb0.out.trans (HB1.out.mono HSZ.out)⟩
set_option maxRecDepth 100000 in
set_option maxHeartbeats 2000000 in
theorem isAssign_s (f : Nat) (keepF : ∀ w w', FAC w → Below w.heap.size w w' → FAC w') (Hpath : SL FAC tk O f 69 .path) (Hexpr : SL FAC tk O f 60 .expr) : CL FAC tk O (f + 1) 62 .assign := by
  intro n nv w HFA0 hF hn
  obtain ⟨ia, ic, rfl, hcc, hk⟩ := hn.open
  have hb0 := Lib.hid (alloc_below w (.cells #[.int .i64 n.kind, .int .i64 n.fro, .int .i64 n.till, .int .i64 n.at', .string n.name, .slice ia n.kids.length ic] 24))
  have HSZ := Lib.hid hb0.out.size
  have HFA := Lib.hid (keepF _ _ HFA0 hb0.out)
  have HT := alloc_top w #[.int .i64 n.kind, .int .i64 n.fro, .int .i64 n.till, .int .i64 n.at', .string n.name, .slice ia n.kids.length ic] 24
  have HC0 := Lib.hid (six_cells HT)
  have HN := Lib.hid (NIn.shut (n := n) hcc (hk.below hb0.out))
  have HK := Lib.hid hF
  clear HT hk hn HFA0 hF hcc
  by_cases hkd : n.kind = 13
  · skip
    have HSH : Hid (shp tk (f + 1) .assign n = madeP n emB [oneP [shp tk f .path], oneP [shp tk f .expr]]) := Lib.hid (by rw [shp, hkd]; rfl)
    generalize hNN : w.heap.size = N at *
    generalize n.kind = kd at *
    subst hkd
    go_enter Tryz.func62, Tryz.ntmps62
    go_wp2_with fail
    clear hNN
    generalize (w.alloc (.cells #[.int .i64 13, .int .i64 n.fro, .int .i64 n.till, .int .i64 n.at', .string n.name, .slice ia n.kids.length ic] 24)) = w1 at *
    have HB0 := Lib.hid (Below.refl w1.heap.size w1)
    refine wp_region_held_drew (S := fun w' => w'.cell? ⟨N, 0, none⟩ = some (.int .i64 13) ∧ w'.cell? ⟨N, 1, none⟩ = some (.int .i64 n.fro) ∧ w'.cell? ⟨N, 2, none⟩ = some (.int .i64 n.till) ∧ w'.cell? ⟨N, 3, none⟩ = some (.int .i64 n.at') ∧ w'.cell? ⟨N, 4, none⟩ = some (.string n.name) ∧ w'.cell? ⟨N, 5, none⟩ = some (.slice ia n.kids.length ic)) (by kernel_rfl) (six_keep HC0.out HB0.out.drew) (fun hHeld => ?_)
    refine wpAnyH_take (i := 0) (oi := ⟨some 3, _, _, _, _, _⟩) (v := ?_) rfl (by kernel_rfl) (by kernel_rfl) (by kernel_rfl) (fun _ _ _ h => h) (Or.inl ⟨by rfl, ?_⟩) hHeld ?_
    rotate_left
    · (intro W hSW; (try dsimp only at hSW); go_simp; first | done | with_reducible rfl)
    try simp only [Act.put, List.setIfInBounds_toArray, List.set_cons_zero, List.set_cons_succ]
    refine wpAnyH_take (i := 1) (oi := ⟨some 4, _, _, _, _, _⟩) (v := ?_) rfl (by kernel_rfl) (by kernel_rfl) (by kernel_rfl) (fun _ _ _ h => h) (Or.inl ⟨by rfl, ?_⟩) hHeld ?_
    rotate_left
    · (intro W hSW; (try dsimp only at hSW); go_simp; first | done | with_reducible rfl)
    try simp only [Act.put, List.setIfInBounds_toArray, List.set_cons_zero, List.set_cons_succ]
    refine wpAnyH_take (i := 2) (oi := ⟨some 5, _, _, _, _, _⟩) (v := ?_) rfl (by kernel_rfl) (by kernel_rfl) (by kernel_rfl) (fun _ _ _ h => h) (Or.inl ⟨by rfl, ?_⟩) hHeld ?_
    rotate_left
    · (intro W hSW; (try dsimp only at hSW); go_simp; first | done | with_reducible rfl)
    try simp only [Act.put, List.setIfInBounds_toArray, List.set_cons_zero, List.set_cons_succ]
    refine wpAnyH_take (i := 3) (oi := ⟨some 6, _, _, _, _, _⟩) (v := ?_) rfl (by kernel_rfl) (by kernel_rfl) (by kernel_rfl) (fun _ _ _ h => h) (Or.inl ⟨by rfl, ?_⟩) hHeld ?_
    rotate_left
    · (intro W hSW; (try dsimp only at hSW); go_simp; first | done | with_reducible rfl)
    try simp only [Act.put, List.setIfInBounds_toArray, List.set_cons_zero, List.set_cons_succ]
    refine wpAnyH_take (i := 4) (oi := ⟨some 7, _, _, _, _, _⟩) (v := ?_) rfl (by kernel_rfl) (by kernel_rfl) (by kernel_rfl) (fun _ _ _ h => h) (Or.inl ⟨by rfl, ?_⟩) hHeld ?_
    rotate_left
    · (intro W hSW; (try dsimp only at hSW); go_simp; first | done | with_reducible rfl)
    try simp only [Act.put, List.setIfInBounds_toArray, List.set_cons_zero, List.set_cons_succ]
    refine region_left (todo := [5, 6, 7, 8, 9, 10, 11, 12]) (φ := fun i => Sp.holds (DD O f) O (match i with | 5 => .frow [(shp tk f .path)] | 6 => .pt (oneP [(shp tk f .path)]) | 7 => .frow [(shp tk f .expr)] | 8 => .pt (oneP [(shp tk f .expr)]) | 9 => .prow [(oneP [(shp tk f .path)]), (oneP [(shp tk f .expr)])] | 10 => .c (.bool (madeP n emB [(oneP [(shp tk f .path)]), (oneP [(shp tk f .expr)])])) | 11 => .c (.bool (madeP n emB [(oneP [(shp tk f .path)]), (oneP [(shp tk f .expr)])])) | 12 => .c (.bool (madeP n emB [(oneP [(shp tk f .path)]), (oneP [(shp tk f .expr)])])) | _ => .any)) (by kernel_rfl) (fun i w w' v h hb => Sp.mono _ _ _ h hb) ?_ ⟨?_, ?_, ?_, ?_, ?_, ?_, ?_, ?_, trivial⟩ ?_
    · exact fun w' hb => ⟨cell_kept hHeld.1 rfl hb, cell_kept hHeld.2.1 rfl hb, cell_kept hHeld.2.2.1 rfl hb, cell_kept hHeld.2.2.2.1 rfl hb, cell_kept hHeld.2.2.2.2.1 rfl hb, cell_kept hHeld.2.2.2.2.2 rfl hb⟩
    · intro a w' hb hr hd
      clear hHeld
      have hg : a.tmps.getD 6 undef = .bool true := hr 6 (by kernel_rfl)
      refine rop_val (d := 8) (o := _) rfl rfl (wanted_of rfl rfl hg) (v := .slice (some ⟨w'.heap.size, 0, none⟩) 1 1) (w' := w'.alloc (.cells #[.func (.func 69) #[] #[]] 53)) (by go_simp) ?_ (alloc_below _ _)
      exact ⟨_, _, rfl, frow_of ⟨Hpath.sf _ (keepF _ _ HFA.out (HB0.out.trans ((below_drew hb).mono HB0.out.size))), trivial⟩⟩
    · intro a w' hb hr hd
      clear hHeld
      have hg : a.tmps.getD 6 undef = .bool true := hr 6 (by kernel_rfl)
      obtain ⟨A8, c8, e8, q8⟩ := hd 5 (by kernel_rfl)
      have e8 : a.tmps.getD 8 undef = .slice A8 1 c8 := e8
      have e8' := getD_q e8
      refine rop_call (d := 9) (o := _) rfl rfl (wanted_of rfl rfl hg) (f := 41) (args := #[.slice A8 1 c8]) (by go_simp) ?_
      exact one_any w' q8 (by simp) (by simp)
    · intro a w' hb hr hd
      clear hHeld
      have hg : a.tmps.getD 6 undef = .bool true := hr 6 (by kernel_rfl)
      refine rop_val (d := 10) (o := _) rfl rfl (wanted_of rfl rfl hg) (v := .slice (some ⟨w'.heap.size, 0, none⟩) 1 1) (w' := w'.alloc (.cells #[.func (.func 60) #[] #[]] 53)) (by go_simp) ?_ (alloc_below _ _)
      exact ⟨_, _, rfl, frow_of ⟨Hexpr.sf _ (keepF _ _ HFA.out (HB0.out.trans ((below_drew hb).mono HB0.out.size))), trivial⟩⟩
    · intro a w' hb hr hd
      clear hHeld
      have hg : a.tmps.getD 6 undef = .bool true := hr 6 (by kernel_rfl)
      obtain ⟨A10, c10, e10, q10⟩ := hd 7 (by kernel_rfl)
      have e10 : a.tmps.getD 10 undef = .slice A10 1 c10 := e10
      have e10' := getD_q e10
      refine rop_call (d := 11) (o := _) rfl rfl (wanted_of rfl rfl hg) (f := 41) (args := #[.slice A10 1 c10]) (by go_simp) ?_
      exact one_any w' q10 (by simp) (by simp)
    · intro a w' hb hr hd
      clear hHeld
      have hg : a.tmps.getD 6 undef = .bool true := hr 6 (by kernel_rfl)
      have p9 : PtV (DD O f) w' (a.tmps.getD 9 undef) (oneP [(shp tk f .path)]) := hd 6 (by kernel_rfl)
      obtain ⟨hs9, g9, cap9, e9, r9⟩ := id p9
      rw [e9] at p9
      have e9' := getD_q e9
      have p11 : PtV (DD O f) w' (a.tmps.getD 11 undef) (oneP [(shp tk f .expr)]) := hd 8 (by kernel_rfl)
      obtain ⟨hs11, g11, cap11, e11, r11⟩ := id p11
      rw [e11] at p11
      have e11' := getD_q e11
      refine rop_val (d := 12) (o := _) rfl rfl (wanted_of rfl rfl hg) (v := .slice (some ⟨w'.heap.size, 0, none⟩) 2 2) (w' := w'.alloc (.cells #[.func (.func g9) #[] cap9, .func (.func g11) #[] cap11] 45)) (by go_simp) ?_ (alloc_below _ _)
      exact ⟨_, _, rfl, prow_of ⟨p9, p11, trivial⟩⟩
    · intro a w' hb hr hd
      clear hHeld
      have hg : a.tmps.getD 6 undef = .bool true := hr 6 (by kernel_rfl)
      have e7 : a.tmps.getD 7 undef = .agg #[.int .i64 13, .int .i64 n.fro, .int .i64 n.till, .int .i64 n.at', .string n.name, .slice ia n.kids.length ic] := hr 7 (by kernel_rfl)
      have e7' := getD_q e7
      obtain ⟨A12, c12, e12, q12⟩ := hd 9 (by kernel_rfl)
      have e12 : a.tmps.getD 12 undef = .slice A12 2 c12 := e12
      have e12' := getD_q e12
      refine rop_call (d := 13) (o := _) rfl rfl (wanted_of rfl rfl hg) (f := 27) (args := #[.agg #[.int .i64 13, .int .i64 n.fro, .int .i64 n.till, .int .i64 n.at', .string n.name, .slice ia n.kids.length ic], .func (.func 51) #[] #[], .slice A12 2 c12]) (by go_simp) ?_
      refine (made_any (D := DD O f) (ps := [(oneP [(shp tk f .path)]), (oneP [(shp tk f .expr)])]) w' (nm_empty O w') q12 HK.out.lim.2.2 HK.out.lim.1 HK.out.kid HK.out.lim.2.1 (by simp) (HN.out.below (HB0.out.trans ((below_drew hb).mono HB0.out.size)))).mono ?_
      rintro e w'' ⟨rfl, hb'⟩
      exact ⟨_, rfl, rfl, hb'⟩
    · intro a w' hb hr hd
      clear hHeld
      have e6 : a.tmps.getD 6 undef = .bool true := hr 6 (by kernel_rfl)
      have e6' := getD_q e6
      have e13 : a.tmps.getD 13 undef = .bool (madeP n emB [(oneP [(shp tk f .path)]), (oneP [(shp tk f .expr)])]) := hd 10 (by kernel_rfl)
      have e13' := getD_q e13
      exact rop_val (d := 14) (o := _) rfl rfl rfl (v := .bool (madeP n emB [(oneP [(shp tk f .path)]), (oneP [(shp tk f .expr)])])) (w' := w') (by go_simp) rfl (Below.refl _ _)
    · intro a w' hb hr hd
      clear hHeld
      have e14 : a.tmps.getD 14 undef = .bool (madeP n emB [(oneP [(shp tk f .path)]), (oneP [(shp tk f .expr)])]) := hd 11 (by kernel_rfl)
      have e14' := getD_q e14
      exact rop_val (d := 2) (o := _) rfl rfl rfl (v := .bool (madeP n emB [(oneP [(shp tk f .path)]), (oneP [(shp tk f .expr)])])) (w' := w') (by go_simp) rfl (Below.refl _ _)
    · intro vs w' hb hφ
      have v10 : vs 10 = .bool (madeP n emB [(oneP [(shp tk f .path)]), (oneP [(shp tk f .expr)])]) := hφ.2.2.2.2.2.1
      have v11 : vs 11 = .bool (madeP n emB [(oneP [(shp tk f .path)]), (oneP [(shp tk f .expr)])]) := hφ.2.2.2.2.2.2.1
      have v12 : vs 12 = .bool (madeP n emB [(oneP [(shp tk f .path)]), (oneP [(shp tk f .expr)])]) := hφ.2.2.2.2.2.2.2.1
      clear hHeld hφ
      simp only [setAll, dstOf, List.getElem?_toArray, List.getElem?_cons_zero, List.getElem?_cons_succ, Option.bind_some, Option.getD_some, List.setIfInBounds_toArray, List.set_cons_zero, List.set_cons_succ]
      rw [v10, v11, v12]
      have HB1 := Lib.hid (HB0.out.trans ((below_drew hb).mono HB0.out.size))
      clear hb 
      go_wp2_with fail
      go_ret
      exact ⟨by rw [HSH.out]; rfl, hb0.out.trans (HB1.out.mono HSZ.out)⟩
  · skip
    have HSH : Hid (shp tk (f + 1) .assign n = false) := Lib.hid (by rw [shp]; simp [hkd])
    have hkd' : (n.kind == 13) = false := by simpa using hkd
    clear hkd
    generalize hNN : w.heap.size = N at *
    go_enter Tryz.func62, Tryz.ntmps62
    go_wp2_with fail
    clear hNN
    generalize (w.alloc (.cells #[.int .i64 n.kind, .int .i64 n.fro, .int .i64 n.till, .int .i64 n.at', .string n.name, .slice ia n.kids.length ic] 24)) = w1 at *
    have HB0 := Lib.hid (Below.refl w1.heap.size w1)
    obtain ⟨k0, k1, k2, k3, k4, k5⟩ := six_keep HC0.out HB0.out
    go_quiet (fail)
    have HB1 := Lib.hid (drewN_belowA HB0.out nq)
    go_wp2_with fail
    clear k0 k1 k2 k3 k4 k5
    go_ret
    exact ⟨by rw [HSH.out]; rfl, hb0.out.trans (HB1.out.mono HSZ.out)⟩
set_option maxRecDepth 100000 in
set_option maxHeartbeats 2000000 in
theorem isCallStmt_s (f : Nat) (keepF : ∀ w w', FAC w → Below w.heap.size w w' → FAC w') (Hcall : SL FAC tk O f 70 .call) : CL FAC tk O (f + 1) 63 .callS := by
  intro n nv w HFA0 hF hn
  obtain ⟨ia, ic, rfl, hcc, hk⟩ := hn.open
  have hb0 := Lib.hid (alloc_below w (.cells #[.int .i64 n.kind, .int .i64 n.fro, .int .i64 n.till, .int .i64 n.at', .string n.name, .slice ia n.kids.length ic] 24))
  have HSZ := Lib.hid hb0.out.size
  have HFA := Lib.hid (keepF _ _ HFA0 hb0.out)
  have HT := alloc_top w #[.int .i64 n.kind, .int .i64 n.fro, .int .i64 n.till, .int .i64 n.at', .string n.name, .slice ia n.kids.length ic] 24
  have HC0 := Lib.hid (six_cells HT)
  have HN := Lib.hid (NIn.shut (n := n) hcc (hk.below hb0.out))
  have HK := Lib.hid hF
  clear HT hk hn HFA0 hF hcc
  by_cases hkd : n.kind = 20
  · skip
    have HSH : Hid (shp tk (f + 1) .callS n = madeP n emB [oneP [shp tk f .call]]) := Lib.hid (by rw [shp, hkd]; rfl)
    generalize hNN : w.heap.size = N at *
    generalize n.kind = kd at *
    subst hkd
    go_enter Tryz.func63, Tryz.ntmps63
    go_wp2_with fail
    clear hNN
    generalize (w.alloc (.cells #[.int .i64 20, .int .i64 n.fro, .int .i64 n.till, .int .i64 n.at', .string n.name, .slice ia n.kids.length ic] 24)) = w1 at *
    have HB0 := Lib.hid (Below.refl w1.heap.size w1)
    refine wp_region_held_drew (S := fun w' => w'.cell? ⟨N, 0, none⟩ = some (.int .i64 20) ∧ w'.cell? ⟨N, 1, none⟩ = some (.int .i64 n.fro) ∧ w'.cell? ⟨N, 2, none⟩ = some (.int .i64 n.till) ∧ w'.cell? ⟨N, 3, none⟩ = some (.int .i64 n.at') ∧ w'.cell? ⟨N, 4, none⟩ = some (.string n.name) ∧ w'.cell? ⟨N, 5, none⟩ = some (.slice ia n.kids.length ic)) (by kernel_rfl) (six_keep HC0.out HB0.out.drew) (fun hHeld => ?_)
    refine wpAnyH_take (i := 0) (oi := ⟨some 3, _, _, _, _, _⟩) (v := ?_) rfl (by kernel_rfl) (by kernel_rfl) (by kernel_rfl) (fun _ _ _ h => h) (Or.inl ⟨by rfl, ?_⟩) hHeld ?_
    rotate_left
    · (intro W hSW; (try dsimp only at hSW); go_simp; first | done | with_reducible rfl)
    try simp only [Act.put, List.setIfInBounds_toArray, List.set_cons_zero, List.set_cons_succ]
    refine wpAnyH_take (i := 1) (oi := ⟨some 4, _, _, _, _, _⟩) (v := ?_) rfl (by kernel_rfl) (by kernel_rfl) (by kernel_rfl) (fun _ _ _ h => h) (Or.inl ⟨by rfl, ?_⟩) hHeld ?_
    rotate_left
    · (intro W hSW; (try dsimp only at hSW); go_simp; first | done | with_reducible rfl)
    try simp only [Act.put, List.setIfInBounds_toArray, List.set_cons_zero, List.set_cons_succ]
    refine wpAnyH_take (i := 2) (oi := ⟨some 5, _, _, _, _, _⟩) (v := ?_) rfl (by kernel_rfl) (by kernel_rfl) (by kernel_rfl) (fun _ _ _ h => h) (Or.inl ⟨by rfl, ?_⟩) hHeld ?_
    rotate_left
    · (intro W hSW; (try dsimp only at hSW); go_simp; first | done | with_reducible rfl)
    try simp only [Act.put, List.setIfInBounds_toArray, List.set_cons_zero, List.set_cons_succ]
    refine wpAnyH_take (i := 3) (oi := ⟨some 6, _, _, _, _, _⟩) (v := ?_) rfl (by kernel_rfl) (by kernel_rfl) (by kernel_rfl) (fun _ _ _ h => h) (Or.inl ⟨by rfl, ?_⟩) hHeld ?_
    rotate_left
    · (intro W hSW; (try dsimp only at hSW); go_simp; first | done | with_reducible rfl)
    try simp only [Act.put, List.setIfInBounds_toArray, List.set_cons_zero, List.set_cons_succ]
    refine wpAnyH_take (i := 4) (oi := ⟨some 7, _, _, _, _, _⟩) (v := ?_) rfl (by kernel_rfl) (by kernel_rfl) (by kernel_rfl) (fun _ _ _ h => h) (Or.inl ⟨by rfl, ?_⟩) hHeld ?_
    rotate_left
    · (intro W hSW; (try dsimp only at hSW); go_simp; first | done | with_reducible rfl)
    try simp only [Act.put, List.setIfInBounds_toArray, List.set_cons_zero, List.set_cons_succ]
    refine region_left (todo := [5, 6, 7, 8, 9, 10]) (φ := fun i => Sp.holds (DD O f) O (match i with | 5 => .frow [(shp tk f .call)] | 6 => .pt (oneP [(shp tk f .call)]) | 7 => .prow [(oneP [(shp tk f .call)])] | 8 => .c (.bool (madeP n emB [(oneP [(shp tk f .call)])])) | 9 => .c (.bool (madeP n emB [(oneP [(shp tk f .call)])])) | 10 => .c (.bool (madeP n emB [(oneP [(shp tk f .call)])])) | _ => .any)) (by kernel_rfl) (fun i w w' v h hb => Sp.mono _ _ _ h hb) ?_ ⟨?_, ?_, ?_, ?_, ?_, ?_, trivial⟩ ?_
    · exact fun w' hb => ⟨cell_kept hHeld.1 rfl hb, cell_kept hHeld.2.1 rfl hb, cell_kept hHeld.2.2.1 rfl hb, cell_kept hHeld.2.2.2.1 rfl hb, cell_kept hHeld.2.2.2.2.1 rfl hb, cell_kept hHeld.2.2.2.2.2 rfl hb⟩
    · intro a w' hb hr hd
      clear hHeld
      have hg : a.tmps.getD 6 undef = .bool true := hr 6 (by kernel_rfl)
      refine rop_val (d := 8) (o := _) rfl rfl (wanted_of rfl rfl hg) (v := .slice (some ⟨w'.heap.size, 0, none⟩) 1 1) (w' := w'.alloc (.cells #[.func (.func 70) #[] #[]] 53)) (by go_simp) ?_ (alloc_below _ _)
      exact ⟨_, _, rfl, frow_of ⟨Hcall.sf _ (keepF _ _ HFA.out (HB0.out.trans ((below_drew hb).mono HB0.out.size))), trivial⟩⟩
    · intro a w' hb hr hd
      clear hHeld
      have hg : a.tmps.getD 6 undef = .bool true := hr 6 (by kernel_rfl)
      obtain ⟨A8, c8, e8, q8⟩ := hd 5 (by kernel_rfl)
      have e8 : a.tmps.getD 8 undef = .slice A8 1 c8 := e8
      have e8' := getD_q e8
      refine rop_call (d := 9) (o := _) rfl rfl (wanted_of rfl rfl hg) (f := 41) (args := #[.slice A8 1 c8]) (by go_simp) ?_
      exact one_any w' q8 (by simp) (by simp)
    · intro a w' hb hr hd
      clear hHeld
      have hg : a.tmps.getD 6 undef = .bool true := hr 6 (by kernel_rfl)
      have p9 : PtV (DD O f) w' (a.tmps.getD 9 undef) (oneP [(shp tk f .call)]) := hd 6 (by kernel_rfl)
      obtain ⟨hs9, g9, cap9, e9, r9⟩ := id p9
      rw [e9] at p9
      have e9' := getD_q e9
      refine rop_val (d := 10) (o := _) rfl rfl (wanted_of rfl rfl hg) (v := .slice (some ⟨w'.heap.size, 0, none⟩) 1 1) (w' := w'.alloc (.cells #[.func (.func g9) #[] cap9] 45)) (by go_simp) ?_ (alloc_below _ _)
      exact ⟨_, _, rfl, prow_of ⟨p9, trivial⟩⟩
    · intro a w' hb hr hd
      clear hHeld
      have hg : a.tmps.getD 6 undef = .bool true := hr 6 (by kernel_rfl)
      have e7 : a.tmps.getD 7 undef = .agg #[.int .i64 20, .int .i64 n.fro, .int .i64 n.till, .int .i64 n.at', .string n.name, .slice ia n.kids.length ic] := hr 7 (by kernel_rfl)
      have e7' := getD_q e7
      obtain ⟨A10, c10, e10, q10⟩ := hd 7 (by kernel_rfl)
      have e10 : a.tmps.getD 10 undef = .slice A10 1 c10 := e10
      have e10' := getD_q e10
      refine rop_call (d := 11) (o := _) rfl rfl (wanted_of rfl rfl hg) (f := 27) (args := #[.agg #[.int .i64 20, .int .i64 n.fro, .int .i64 n.till, .int .i64 n.at', .string n.name, .slice ia n.kids.length ic], .func (.func 51) #[] #[], .slice A10 1 c10]) (by go_simp) ?_
      refine (made_any (D := DD O f) (ps := [(oneP [(shp tk f .call)])]) w' (nm_empty O w') q10 HK.out.lim.2.2 HK.out.lim.1 HK.out.kid HK.out.lim.2.1 (by simp) (HN.out.below (HB0.out.trans ((below_drew hb).mono HB0.out.size)))).mono ?_
      rintro e w'' ⟨rfl, hb'⟩
      exact ⟨_, rfl, rfl, hb'⟩
    · intro a w' hb hr hd
      clear hHeld
      have e6 : a.tmps.getD 6 undef = .bool true := hr 6 (by kernel_rfl)
      have e6' := getD_q e6
      have e11 : a.tmps.getD 11 undef = .bool (madeP n emB [(oneP [(shp tk f .call)])]) := hd 8 (by kernel_rfl)
      have e11' := getD_q e11
      exact rop_val (d := 12) (o := _) rfl rfl rfl (v := .bool (madeP n emB [(oneP [(shp tk f .call)])])) (w' := w') (by go_simp) rfl (Below.refl _ _)
    · intro a w' hb hr hd
      clear hHeld
      have e12 : a.tmps.getD 12 undef = .bool (madeP n emB [(oneP [(shp tk f .call)])]) := hd 9 (by kernel_rfl)
      have e12' := getD_q e12
      exact rop_val (d := 2) (o := _) rfl rfl rfl (v := .bool (madeP n emB [(oneP [(shp tk f .call)])])) (w' := w') (by go_simp) rfl (Below.refl _ _)
    · intro vs w' hb hφ
      have v8 : vs 8 = .bool (madeP n emB [(oneP [(shp tk f .call)])]) := hφ.2.2.2.1
      have v9 : vs 9 = .bool (madeP n emB [(oneP [(shp tk f .call)])]) := hφ.2.2.2.2.1
      have v10 : vs 10 = .bool (madeP n emB [(oneP [(shp tk f .call)])]) := hφ.2.2.2.2.2.1
      clear hHeld hφ
      simp only [setAll, dstOf, List.getElem?_toArray, List.getElem?_cons_zero, List.getElem?_cons_succ, Option.bind_some, Option.getD_some, List.setIfInBounds_toArray, List.set_cons_zero, List.set_cons_succ]
      rw [v8, v9, v10]
      have HB1 := Lib.hid (HB0.out.trans ((below_drew hb).mono HB0.out.size))
      clear hb 
      go_wp2_with fail
      go_ret
      exact ⟨by rw [HSH.out]; rfl, hb0.out.trans (HB1.out.mono HSZ.out)⟩
  · skip
    have HSH : Hid (shp tk (f + 1) .callS n = false) := Lib.hid (by rw [shp]; simp [hkd])
    have hkd' : (n.kind == 20) = false := by simpa using hkd
    clear hkd
    generalize hNN : w.heap.size = N at *
    go_enter Tryz.func63, Tryz.ntmps63
    go_wp2_with fail
    clear hNN
    generalize (w.alloc (.cells #[.int .i64 n.kind, .int .i64 n.fro, .int .i64 n.till, .int .i64 n.at', .string n.name, .slice ia n.kids.length ic] 24)) = w1 at *
    have HB0 := Lib.hid (Below.refl w1.heap.size w1)
    obtain ⟨k0, k1, k2, k3, k4, k5⟩ := six_keep HC0.out HB0.out
    go_quiet (fail)
    have HB1 := Lib.hid (drewN_belowA HB0.out nq)
    go_wp2_with fail
    clear k0 k1 k2 k3 k4 k5
    go_ret
    exact ⟨by rw [HSH.out]; rfl, hb0.out.trans (HB1.out.mono HSZ.out)⟩
set_option maxRecDepth 100000 in
set_option maxHeartbeats 2000000 in
theorem isKeyed_s (f : Nat) (keepF : ∀ w w', FAC w → Below w.heap.size w w' → FAC w') (Hexpr : SL FAC tk O f 60 .expr) : CL FAC tk O (f + 1) 83 .keyed := by
  intro n nv w HFA0 hF hn
  obtain ⟨ia, ic, rfl, hcc, hk⟩ := hn.open
  have hb0 := Lib.hid (alloc_below w (.cells #[.int .i64 n.kind, .int .i64 n.fro, .int .i64 n.till, .int .i64 n.at', .string n.name, .slice ia n.kids.length ic] 24))
  have HSZ := Lib.hid hb0.out.size
  have HFA := Lib.hid (keepF _ _ HFA0 hb0.out)
  have HT := alloc_top w #[.int .i64 n.kind, .int .i64 n.fro, .int .i64 n.till, .int .i64 n.at', .string n.name, .slice ia n.kids.length ic] 24
  have HC0 := Lib.hid (six_cells HT)
  have HN := Lib.hid (NIn.shut (n := n) hcc (hk.below hb0.out))
  have HK := Lib.hid hF
  clear HT hk hn HFA0 hF hcc
  by_cases hkd : n.kind = 29
  · skip
    have HSH : Hid (shp tk (f + 1) .keyed n = madeP n nmB [oneP [shp tk f .expr]]) := Lib.hid (by rw [shp, hkd]; rfl)
    generalize hNN : w.heap.size = N at *
    generalize n.kind = kd at *
    subst hkd
    go_enter Tryz.func83, Tryz.ntmps83
    go_wp2_with fail
    clear hNN
    generalize (w.alloc (.cells #[.int .i64 29, .int .i64 n.fro, .int .i64 n.till, .int .i64 n.at', .string n.name, .slice ia n.kids.length ic] 24)) = w1 at *
    have HB0 := Lib.hid (Below.refl w1.heap.size w1)
    refine wp_region_held_drew (S := fun w' => w'.cell? ⟨N, 0, none⟩ = some (.int .i64 29) ∧ w'.cell? ⟨N, 1, none⟩ = some (.int .i64 n.fro) ∧ w'.cell? ⟨N, 2, none⟩ = some (.int .i64 n.till) ∧ w'.cell? ⟨N, 3, none⟩ = some (.int .i64 n.at') ∧ w'.cell? ⟨N, 4, none⟩ = some (.string n.name) ∧ w'.cell? ⟨N, 5, none⟩ = some (.slice ia n.kids.length ic)) (by kernel_rfl) (six_keep HC0.out HB0.out.drew) (fun hHeld => ?_)
    refine wpAnyH_take (i := 0) (oi := ⟨some 3, _, _, _, _, _⟩) (v := ?_) rfl (by kernel_rfl) (by kernel_rfl) (by kernel_rfl) (fun _ _ _ h => h) (Or.inl ⟨by rfl, ?_⟩) hHeld ?_
    rotate_left
    · (intro W hSW; (try dsimp only at hSW); go_simp; first | done | with_reducible rfl)
    try simp only [Act.put, List.setIfInBounds_toArray, List.set_cons_zero, List.set_cons_succ]
    refine wpAnyH_take (i := 1) (oi := ⟨some 4, _, _, _, _, _⟩) (v := ?_) rfl (by kernel_rfl) (by kernel_rfl) (by kernel_rfl) (fun _ _ _ h => h) (Or.inl ⟨by rfl, ?_⟩) hHeld ?_
    rotate_left
    · (intro W hSW; (try dsimp only at hSW); go_simp; first | done | with_reducible rfl)
    try simp only [Act.put, List.setIfInBounds_toArray, List.set_cons_zero, List.set_cons_succ]
    refine wpAnyH_take (i := 2) (oi := ⟨some 5, _, _, _, _, _⟩) (v := ?_) rfl (by kernel_rfl) (by kernel_rfl) (by kernel_rfl) (fun _ _ _ h => h) (Or.inl ⟨by rfl, ?_⟩) hHeld ?_
    rotate_left
    · (intro W hSW; (try dsimp only at hSW); go_simp; first | done | with_reducible rfl)
    try simp only [Act.put, List.setIfInBounds_toArray, List.set_cons_zero, List.set_cons_succ]
    refine wpAnyH_take (i := 3) (oi := ⟨some 6, _, _, _, _, _⟩) (v := ?_) rfl (by kernel_rfl) (by kernel_rfl) (by kernel_rfl) (fun _ _ _ h => h) (Or.inl ⟨by rfl, ?_⟩) hHeld ?_
    rotate_left
    · (intro W hSW; (try dsimp only at hSW); go_simp; first | done | with_reducible rfl)
    try simp only [Act.put, List.setIfInBounds_toArray, List.set_cons_zero, List.set_cons_succ]
    refine wpAnyH_take (i := 4) (oi := ⟨some 7, _, _, _, _, _⟩) (v := ?_) rfl (by kernel_rfl) (by kernel_rfl) (by kernel_rfl) (fun _ _ _ h => h) (Or.inl ⟨by rfl, ?_⟩) hHeld ?_
    rotate_left
    · (intro W hSW; (try dsimp only at hSW); go_simp; first | done | with_reducible rfl)
    try simp only [Act.put, List.setIfInBounds_toArray, List.set_cons_zero, List.set_cons_succ]
    refine region_left (todo := [5, 6, 7, 8, 9, 10]) (φ := fun i => Sp.holds (DD O f) O (match i with | 5 => .frow [(shp tk f .expr)] | 6 => .pt (oneP [(shp tk f .expr)]) | 7 => .prow [(oneP [(shp tk f .expr)])] | 8 => .c (.bool (madeP n nmB [(oneP [(shp tk f .expr)])])) | 9 => .c (.bool (madeP n nmB [(oneP [(shp tk f .expr)])])) | 10 => .c (.bool (madeP n nmB [(oneP [(shp tk f .expr)])])) | _ => .any)) (by kernel_rfl) (fun i w w' v h hb => Sp.mono _ _ _ h hb) ?_ ⟨?_, ?_, ?_, ?_, ?_, ?_, trivial⟩ ?_
    · exact fun w' hb => ⟨cell_kept hHeld.1 rfl hb, cell_kept hHeld.2.1 rfl hb, cell_kept hHeld.2.2.1 rfl hb, cell_kept hHeld.2.2.2.1 rfl hb, cell_kept hHeld.2.2.2.2.1 rfl hb, cell_kept hHeld.2.2.2.2.2 rfl hb⟩
    · intro a w' hb hr hd
      clear hHeld
      have hg : a.tmps.getD 6 undef = .bool true := hr 6 (by kernel_rfl)
      refine rop_val (d := 8) (o := _) rfl rfl (wanted_of rfl rfl hg) (v := .slice (some ⟨w'.heap.size, 0, none⟩) 1 1) (w' := w'.alloc (.cells #[.func (.func 60) #[] #[]] 53)) (by go_simp) ?_ (alloc_below _ _)
      exact ⟨_, _, rfl, frow_of ⟨Hexpr.sf _ (keepF _ _ HFA.out (HB0.out.trans ((below_drew hb).mono HB0.out.size))), trivial⟩⟩
    · intro a w' hb hr hd
      clear hHeld
      have hg : a.tmps.getD 6 undef = .bool true := hr 6 (by kernel_rfl)
      obtain ⟨A8, c8, e8, q8⟩ := hd 5 (by kernel_rfl)
      have e8 : a.tmps.getD 8 undef = .slice A8 1 c8 := e8
      have e8' := getD_q e8
      refine rop_call (d := 9) (o := _) rfl rfl (wanted_of rfl rfl hg) (f := 41) (args := #[.slice A8 1 c8]) (by go_simp) ?_
      exact one_any w' q8 (by simp) (by simp)
    · intro a w' hb hr hd
      clear hHeld
      have hg : a.tmps.getD 6 undef = .bool true := hr 6 (by kernel_rfl)
      have p9 : PtV (DD O f) w' (a.tmps.getD 9 undef) (oneP [(shp tk f .expr)]) := hd 6 (by kernel_rfl)
      obtain ⟨hs9, g9, cap9, e9, r9⟩ := id p9
      rw [e9] at p9
      have e9' := getD_q e9
      refine rop_val (d := 10) (o := _) rfl rfl (wanted_of rfl rfl hg) (v := .slice (some ⟨w'.heap.size, 0, none⟩) 1 1) (w' := w'.alloc (.cells #[.func (.func g9) #[] cap9] 45)) (by go_simp) ?_ (alloc_below _ _)
      exact ⟨_, _, rfl, prow_of ⟨p9, trivial⟩⟩
    · intro a w' hb hr hd
      clear hHeld
      have hg : a.tmps.getD 6 undef = .bool true := hr 6 (by kernel_rfl)
      have e7 : a.tmps.getD 7 undef = .agg #[.int .i64 29, .int .i64 n.fro, .int .i64 n.till, .int .i64 n.at', .string n.name, .slice ia n.kids.length ic] := hr 7 (by kernel_rfl)
      have e7' := getD_q e7
      obtain ⟨A10, c10, e10, q10⟩ := hd 7 (by kernel_rfl)
      have e10 : a.tmps.getD 10 undef = .slice A10 1 c10 := e10
      have e10' := getD_q e10
      refine rop_call (d := 11) (o := _) rfl rfl (wanted_of rfl rfl hg) (f := 27) (args := #[.agg #[.int .i64 29, .int .i64 n.fro, .int .i64 n.till, .int .i64 n.at', .string n.name, .slice ia n.kids.length ic], .func (.func 28) #[] #[], .slice A10 1 c10]) (by go_simp) ?_
      refine (made_any (D := DD O f) (ps := [(oneP [(shp tk f .expr)])]) w' (nm_name O w') q10 HK.out.lim.2.2 HK.out.lim.1 HK.out.kid HK.out.lim.2.1 (by simp) (HN.out.below (HB0.out.trans ((below_drew hb).mono HB0.out.size)))).mono ?_
      rintro e w'' ⟨rfl, hb'⟩
      exact ⟨_, rfl, rfl, hb'⟩
    · intro a w' hb hr hd
      clear hHeld
      have e6 : a.tmps.getD 6 undef = .bool true := hr 6 (by kernel_rfl)
      have e6' := getD_q e6
      have e11 : a.tmps.getD 11 undef = .bool (madeP n nmB [(oneP [(shp tk f .expr)])]) := hd 8 (by kernel_rfl)
      have e11' := getD_q e11
      exact rop_val (d := 12) (o := _) rfl rfl rfl (v := .bool (madeP n nmB [(oneP [(shp tk f .expr)])])) (w' := w') (by go_simp) rfl (Below.refl _ _)
    · intro a w' hb hr hd
      clear hHeld
      have e12 : a.tmps.getD 12 undef = .bool (madeP n nmB [(oneP [(shp tk f .expr)])]) := hd 9 (by kernel_rfl)
      have e12' := getD_q e12
      exact rop_val (d := 2) (o := _) rfl rfl rfl (v := .bool (madeP n nmB [(oneP [(shp tk f .expr)])])) (w' := w') (by go_simp) rfl (Below.refl _ _)
    · intro vs w' hb hφ
      have v8 : vs 8 = .bool (madeP n nmB [(oneP [(shp tk f .expr)])]) := hφ.2.2.2.1
      have v9 : vs 9 = .bool (madeP n nmB [(oneP [(shp tk f .expr)])]) := hφ.2.2.2.2.1
      have v10 : vs 10 = .bool (madeP n nmB [(oneP [(shp tk f .expr)])]) := hφ.2.2.2.2.2.1
      clear hHeld hφ
      simp only [setAll, dstOf, List.getElem?_toArray, List.getElem?_cons_zero, List.getElem?_cons_succ, Option.bind_some, Option.getD_some, List.setIfInBounds_toArray, List.set_cons_zero, List.set_cons_succ]
      rw [v8, v9, v10]
      have HB1 := Lib.hid (HB0.out.trans ((below_drew hb).mono HB0.out.size))
      clear hb 
      go_wp2_with fail
      go_ret
      exact ⟨by rw [HSH.out]; rfl, hb0.out.trans (HB1.out.mono HSZ.out)⟩
  · skip
    have HSH : Hid (shp tk (f + 1) .keyed n = false) := Lib.hid (by rw [shp]; simp [hkd])
    have hkd' : (n.kind == 29) = false := by simpa using hkd
    clear hkd
    generalize hNN : w.heap.size = N at *
    go_enter Tryz.func83, Tryz.ntmps83
    go_wp2_with fail
    clear hNN
    generalize (w.alloc (.cells #[.int .i64 n.kind, .int .i64 n.fro, .int .i64 n.till, .int .i64 n.at', .string n.name, .slice ia n.kids.length ic] 24)) = w1 at *
    have HB0 := Lib.hid (Below.refl w1.heap.size w1)
    obtain ⟨k0, k1, k2, k3, k4, k5⟩ := six_keep HC0.out HB0.out
    go_quiet (fail)
    have HB1 := Lib.hid (drewN_belowA HB0.out nq)
    go_wp2_with fail
    clear k0 k1 k2 k3 k4 k5
    go_ret
    exact ⟨by rw [HSH.out]; rfl, hb0.out.trans (HB1.out.mono HSZ.out)⟩
set_option maxRecDepth 100000 in
set_option maxHeartbeats 2000000 in
theorem isSel_s (f : Nat) (keepF : ∀ w w', FAC w → Below w.heap.size w w' → FAC w') (Hlevel : ∀ W, FAC W → ∀ k : Int, Calls Tryz.prog 68 #[.int .i64 k] W fun e w' => ∃ v, e = .returned v ∧ FnV (DD O f) w' v (shp tk f (.level k)) ∧ Below W.heap.size W w') : CL FAC tk O (f + 1) 82 .sel := by
  intro n nv w HFA0 hF hn
  obtain ⟨ia, ic, rfl, hcc, hk⟩ := hn.open
  have hb0 := Lib.hid (alloc_below w (.cells #[.int .i64 n.kind, .int .i64 n.fro, .int .i64 n.till, .int .i64 n.at', .string n.name, .slice ia n.kids.length ic] 24))
  have HSZ := Lib.hid hb0.out.size
  have HFA := Lib.hid (keepF _ _ HFA0 hb0.out)
  have HT := alloc_top w #[.int .i64 n.kind, .int .i64 n.fro, .int .i64 n.till, .int .i64 n.at', .string n.name, .slice ia n.kids.length ic] 24
  have HC0 := Lib.hid (six_cells HT)
  have HN := Lib.hid (NIn.shut (n := n) hcc (hk.below hb0.out))
  have HK := Lib.hid hF
  clear HT hk hn HFA0 hF hcc
  by_cases hkd : n.kind = 26
  · skip
    have HSH : Hid (shp tk (f + 1) .sel n = madeP n nmB [oneP [shp tk f (.level 7)]]) := Lib.hid (by rw [shp, hkd]; rfl)
    generalize hNN : w.heap.size = N at *
    generalize n.kind = kd at *
    subst hkd
    go_enter Tryz.func82, Tryz.ntmps82
    go_wp2_with fail
    clear hNN
    generalize (w.alloc (.cells #[.int .i64 26, .int .i64 n.fro, .int .i64 n.till, .int .i64 n.at', .string n.name, .slice ia n.kids.length ic] 24)) = w1 at *
    have HB0 := Lib.hid (Below.refl w1.heap.size w1)
    refine wp_region_held_drew (S := fun w' => w'.cell? ⟨N, 0, none⟩ = some (.int .i64 26) ∧ w'.cell? ⟨N, 1, none⟩ = some (.int .i64 n.fro) ∧ w'.cell? ⟨N, 2, none⟩ = some (.int .i64 n.till) ∧ w'.cell? ⟨N, 3, none⟩ = some (.int .i64 n.at') ∧ w'.cell? ⟨N, 4, none⟩ = some (.string n.name) ∧ w'.cell? ⟨N, 5, none⟩ = some (.slice ia n.kids.length ic)) (by kernel_rfl) (six_keep HC0.out HB0.out.drew) (fun hHeld => ?_)
    refine wpAnyH_take (i := 0) (oi := ⟨some 3, _, _, _, _, _⟩) (v := ?_) rfl (by kernel_rfl) (by kernel_rfl) (by kernel_rfl) (fun _ _ _ h => h) (Or.inl ⟨by rfl, ?_⟩) hHeld ?_
    rotate_left
    · (intro W hSW; (try dsimp only at hSW); go_simp; first | done | with_reducible rfl)
    try simp only [Act.put, List.setIfInBounds_toArray, List.set_cons_zero, List.set_cons_succ]
    refine wpAnyH_take (i := 1) (oi := ⟨some 4, _, _, _, _, _⟩) (v := ?_) rfl (by kernel_rfl) (by kernel_rfl) (by kernel_rfl) (fun _ _ _ h => h) (Or.inl ⟨by rfl, ?_⟩) hHeld ?_
    rotate_left
    · (intro W hSW; (try dsimp only at hSW); go_simp; first | done | with_reducible rfl)
    try simp only [Act.put, List.setIfInBounds_toArray, List.set_cons_zero, List.set_cons_succ]
    refine wpAnyH_take (i := 2) (oi := ⟨some 5, _, _, _, _, _⟩) (v := ?_) rfl (by kernel_rfl) (by kernel_rfl) (by kernel_rfl) (fun _ _ _ h => h) (Or.inl ⟨by rfl, ?_⟩) hHeld ?_
    rotate_left
    · (intro W hSW; (try dsimp only at hSW); go_simp; first | done | with_reducible rfl)
    try simp only [Act.put, List.setIfInBounds_toArray, List.set_cons_zero, List.set_cons_succ]
    refine wpAnyH_take (i := 3) (oi := ⟨some 6, _, _, _, _, _⟩) (v := ?_) rfl (by kernel_rfl) (by kernel_rfl) (by kernel_rfl) (fun _ _ _ h => h) (Or.inl ⟨by rfl, ?_⟩) hHeld ?_
    rotate_left
    · (intro W hSW; (try dsimp only at hSW); go_simp; first | done | with_reducible rfl)
    try simp only [Act.put, List.setIfInBounds_toArray, List.set_cons_zero, List.set_cons_succ]
    refine wpAnyH_take (i := 4) (oi := ⟨some 7, _, _, _, _, _⟩) (v := ?_) rfl (by kernel_rfl) (by kernel_rfl) (by kernel_rfl) (fun _ _ _ h => h) (Or.inl ⟨by rfl, ?_⟩) hHeld ?_
    rotate_left
    · (intro W hSW; (try dsimp only at hSW); go_simp; first | done | with_reducible rfl)
    try simp only [Act.put, List.setIfInBounds_toArray, List.set_cons_zero, List.set_cons_succ]
    refine region_left (todo := [5, 6, 7, 8, 9, 10, 11]) (φ := fun i => Sp.holds (DD O f) O (match i with | 5 => .fn (shp tk f (.level 7)) | 6 => .frow [(shp tk f (.level 7))] | 7 => .pt (oneP [(shp tk f (.level 7))]) | 8 => .prow [(oneP [(shp tk f (.level 7))])] | 9 => .c (.bool (madeP n nmB [(oneP [(shp tk f (.level 7))])])) | 10 => .c (.bool (madeP n nmB [(oneP [(shp tk f (.level 7))])])) | 11 => .c (.bool (madeP n nmB [(oneP [(shp tk f (.level 7))])])) | _ => .any)) (by kernel_rfl) (fun i w w' v h hb => Sp.mono _ _ _ h hb) ?_ ⟨?_, ?_, ?_, ?_, ?_, ?_, ?_, trivial⟩ ?_
    · exact fun w' hb => ⟨cell_kept hHeld.1 rfl hb, cell_kept hHeld.2.1 rfl hb, cell_kept hHeld.2.2.1 rfl hb, cell_kept hHeld.2.2.2.1 rfl hb, cell_kept hHeld.2.2.2.2.1 rfl hb, cell_kept hHeld.2.2.2.2.2 rfl hb⟩
    · intro a w' hb hr hd
      clear hHeld
      have hg : a.tmps.getD 6 undef = .bool true := hr 6 (by kernel_rfl)
      refine rop_call (d := 8) (o := _) rfl rfl (wanted_of rfl rfl hg) (f := 68) (args := #[.int .i64 7]) (by go_simp) ?_
      exact Hlevel w' (keepF _ _ HFA.out (HB0.out.trans ((below_drew hb).mono HB0.out.size))) 7
    · intro a w' hb hr hd
      clear hHeld
      have hg : a.tmps.getD 6 undef = .bool true := hr 6 (by kernel_rfl)
      have p8 : FnV (DD O f) w' (a.tmps.getD 8 undef) (shp tk f (.level 7)) := hd 5 (by kernel_rfl)
      obtain ⟨g8, cap8, e8, r8⟩ := id p8
      rw [e8] at p8
      have e8' := getD_q e8
      refine rop_val (d := 9) (o := _) rfl rfl (wanted_of rfl rfl hg) (v := .slice (some ⟨w'.heap.size, 0, none⟩) 1 1) (w' := w'.alloc (.cells #[.func (.func g8) #[] cap8] 53)) (by go_simp) ?_ (alloc_below _ _)
      exact ⟨_, _, rfl, frow_of ⟨p8, trivial⟩⟩
    · intro a w' hb hr hd
      clear hHeld
      have hg : a.tmps.getD 6 undef = .bool true := hr 6 (by kernel_rfl)
      obtain ⟨A9, c9, e9, q9⟩ := hd 6 (by kernel_rfl)
      have e9 : a.tmps.getD 9 undef = .slice A9 1 c9 := e9
      have e9' := getD_q e9
      refine rop_call (d := 10) (o := _) rfl rfl (wanted_of rfl rfl hg) (f := 41) (args := #[.slice A9 1 c9]) (by go_simp) ?_
      exact one_any w' q9 (by simp) (by simp)
    · intro a w' hb hr hd
      clear hHeld
      have hg : a.tmps.getD 6 undef = .bool true := hr 6 (by kernel_rfl)
      have p10 : PtV (DD O f) w' (a.tmps.getD 10 undef) (oneP [(shp tk f (.level 7))]) := hd 7 (by kernel_rfl)
      obtain ⟨hs10, g10, cap10, e10, r10⟩ := id p10
      rw [e10] at p10
      have e10' := getD_q e10
      refine rop_val (d := 11) (o := _) rfl rfl (wanted_of rfl rfl hg) (v := .slice (some ⟨w'.heap.size, 0, none⟩) 1 1) (w' := w'.alloc (.cells #[.func (.func g10) #[] cap10] 45)) (by go_simp) ?_ (alloc_below _ _)
      exact ⟨_, _, rfl, prow_of ⟨p10, trivial⟩⟩
    · intro a w' hb hr hd
      clear hHeld
      have hg : a.tmps.getD 6 undef = .bool true := hr 6 (by kernel_rfl)
      have e7 : a.tmps.getD 7 undef = .agg #[.int .i64 26, .int .i64 n.fro, .int .i64 n.till, .int .i64 n.at', .string n.name, .slice ia n.kids.length ic] := hr 7 (by kernel_rfl)
      have e7' := getD_q e7
      obtain ⟨A11, c11, e11, q11⟩ := hd 8 (by kernel_rfl)
      have e11 : a.tmps.getD 11 undef = .slice A11 1 c11 := e11
      have e11' := getD_q e11
      refine rop_call (d := 12) (o := _) rfl rfl (wanted_of rfl rfl hg) (f := 27) (args := #[.agg #[.int .i64 26, .int .i64 n.fro, .int .i64 n.till, .int .i64 n.at', .string n.name, .slice ia n.kids.length ic], .func (.func 28) #[] #[], .slice A11 1 c11]) (by go_simp) ?_
      refine (made_any (D := DD O f) (ps := [(oneP [(shp tk f (.level 7))])]) w' (nm_name O w') q11 HK.out.lim.2.2 HK.out.lim.1 HK.out.kid HK.out.lim.2.1 (by simp) (HN.out.below (HB0.out.trans ((below_drew hb).mono HB0.out.size)))).mono ?_
      rintro e w'' ⟨rfl, hb'⟩
      exact ⟨_, rfl, rfl, hb'⟩
    · intro a w' hb hr hd
      clear hHeld
      have e6 : a.tmps.getD 6 undef = .bool true := hr 6 (by kernel_rfl)
      have e6' := getD_q e6
      have e12 : a.tmps.getD 12 undef = .bool (madeP n nmB [(oneP [(shp tk f (.level 7))])]) := hd 9 (by kernel_rfl)
      have e12' := getD_q e12
      exact rop_val (d := 13) (o := _) rfl rfl rfl (v := .bool (madeP n nmB [(oneP [(shp tk f (.level 7))])])) (w' := w') (by go_simp) rfl (Below.refl _ _)
    · intro a w' hb hr hd
      clear hHeld
      have e13 : a.tmps.getD 13 undef = .bool (madeP n nmB [(oneP [(shp tk f (.level 7))])]) := hd 10 (by kernel_rfl)
      have e13' := getD_q e13
      exact rop_val (d := 2) (o := _) rfl rfl rfl (v := .bool (madeP n nmB [(oneP [(shp tk f (.level 7))])])) (w' := w') (by go_simp) rfl (Below.refl _ _)
    · intro vs w' hb hφ
      have v9 : vs 9 = .bool (madeP n nmB [(oneP [(shp tk f (.level 7))])]) := hφ.2.2.2.2.1
      have v10 : vs 10 = .bool (madeP n nmB [(oneP [(shp tk f (.level 7))])]) := hφ.2.2.2.2.2.1
      have v11 : vs 11 = .bool (madeP n nmB [(oneP [(shp tk f (.level 7))])]) := hφ.2.2.2.2.2.2.1
      clear hHeld hφ
      simp only [setAll, dstOf, List.getElem?_toArray, List.getElem?_cons_zero, List.getElem?_cons_succ, Option.bind_some, Option.getD_some, List.setIfInBounds_toArray, List.set_cons_zero, List.set_cons_succ]
      rw [v9, v10, v11]
      have HB1 := Lib.hid (HB0.out.trans ((below_drew hb).mono HB0.out.size))
      clear hb 
      go_wp2_with fail
      go_ret
      exact ⟨by rw [HSH.out]; rfl, hb0.out.trans (HB1.out.mono HSZ.out)⟩
  · skip
    have HSH : Hid (shp tk (f + 1) .sel n = false) := Lib.hid (by rw [shp]; simp [hkd])
    have hkd' : (n.kind == 26) = false := by simpa using hkd
    clear hkd
    generalize hNN : w.heap.size = N at *
    go_enter Tryz.func82, Tryz.ntmps82
    go_wp2_with fail
    clear hNN
    generalize (w.alloc (.cells #[.int .i64 n.kind, .int .i64 n.fro, .int .i64 n.till, .int .i64 n.at', .string n.name, .slice ia n.kids.length ic] 24)) = w1 at *
    have HB0 := Lib.hid (Below.refl w1.heap.size w1)
    obtain ⟨k0, k1, k2, k3, k4, k5⟩ := six_keep HC0.out HB0.out
    go_quiet (fail)
    have HB1 := Lib.hid (drewN_belowA HB0.out nq)
    go_wp2_with fail
    clear k0 k1 k2 k3 k4 k5
    go_ret
    exact ⟨by rw [HSH.out]; rfl, hb0.out.trans (HB1.out.mono HSZ.out)⟩
set_option maxRecDepth 100000 in
set_option maxHeartbeats 2000000 in
theorem isParams_s (f : Nat) (keepF : ∀ w w', FAC w → Below w.heap.size w w' → FAC w') (Htypedfalse : ∀ W, FAC W → ∀ k : Int, Calls Tryz.prog 38 #[.int .i64 k, .func (.func 39) #[] #[]] W fun e w' => ∃ v, e = .returned v ∧ FnV (DD O f) w' v (shp tk f (.typed k false)) ∧ Below W.heap.size W w') : CL FAC tk O (f + 1) 43 .params := by
  intro n nv w HFA0 hF hn
  obtain ⟨ia, ic, rfl, hcc, hk⟩ := hn.open
  have hb0 := Lib.hid (alloc_below w (.cells #[.int .i64 n.kind, .int .i64 n.fro, .int .i64 n.till, .int .i64 n.at', .string n.name, .slice ia n.kids.length ic] 24))
  have HSZ := Lib.hid hb0.out.size
  have HFA := Lib.hid (keepF _ _ HFA0 hb0.out)
  have HT := alloc_top w #[.int .i64 n.kind, .int .i64 n.fro, .int .i64 n.till, .int .i64 n.at', .string n.name, .slice ia n.kids.length ic] 24
  have HC0 := Lib.hid (six_cells HT)
  have HN := Lib.hid (NIn.shut (n := n) hcc (hk.below hb0.out))
  have HK := Lib.hid hF
  clear HT hk hn HFA0 hF hcc
  by_cases hkd : n.kind = 6
  · skip
    have HSH : Hid (shp tk (f + 1) .params n = madeP n emB [manyP (shp tk f (.typed 7 false))]) := Lib.hid (by rw [shp, hkd]; rfl)
    generalize hNN : w.heap.size = N at *
    generalize n.kind = kd at *
    subst hkd
    go_enter Tryz.func43, Tryz.ntmps43
    go_wp2_with fail
    clear hNN
    generalize (w.alloc (.cells #[.int .i64 6, .int .i64 n.fro, .int .i64 n.till, .int .i64 n.at', .string n.name, .slice ia n.kids.length ic] 24)) = w1 at *
    have HB0 := Lib.hid (Below.refl w1.heap.size w1)
    refine wp_region_held_drew (S := fun w' => w'.cell? ⟨N, 0, none⟩ = some (.int .i64 6) ∧ w'.cell? ⟨N, 1, none⟩ = some (.int .i64 n.fro) ∧ w'.cell? ⟨N, 2, none⟩ = some (.int .i64 n.till) ∧ w'.cell? ⟨N, 3, none⟩ = some (.int .i64 n.at') ∧ w'.cell? ⟨N, 4, none⟩ = some (.string n.name) ∧ w'.cell? ⟨N, 5, none⟩ = some (.slice ia n.kids.length ic)) (by kernel_rfl) (six_keep HC0.out HB0.out.drew) (fun hHeld => ?_)
    refine wpAnyH_take (i := 0) (oi := ⟨some 3, _, _, _, _, _⟩) (v := ?_) rfl (by kernel_rfl) (by kernel_rfl) (by kernel_rfl) (fun _ _ _ h => h) (Or.inl ⟨by rfl, ?_⟩) hHeld ?_
    rotate_left
    · (intro W hSW; (try dsimp only at hSW); go_simp; first | done | with_reducible rfl)
    try simp only [Act.put, List.setIfInBounds_toArray, List.set_cons_zero, List.set_cons_succ]
    refine wpAnyH_take (i := 1) (oi := ⟨some 4, _, _, _, _, _⟩) (v := ?_) rfl (by kernel_rfl) (by kernel_rfl) (by kernel_rfl) (fun _ _ _ h => h) (Or.inl ⟨by rfl, ?_⟩) hHeld ?_
    rotate_left
    · (intro W hSW; (try dsimp only at hSW); go_simp; first | done | with_reducible rfl)
    try simp only [Act.put, List.setIfInBounds_toArray, List.set_cons_zero, List.set_cons_succ]
    refine wpAnyH_take (i := 2) (oi := ⟨some 5, _, _, _, _, _⟩) (v := ?_) rfl (by kernel_rfl) (by kernel_rfl) (by kernel_rfl) (fun _ _ _ h => h) (Or.inl ⟨by rfl, ?_⟩) hHeld ?_
    rotate_left
    · (intro W hSW; (try dsimp only at hSW); go_simp; first | done | with_reducible rfl)
    try simp only [Act.put, List.setIfInBounds_toArray, List.set_cons_zero, List.set_cons_succ]
    refine wpAnyH_take (i := 3) (oi := ⟨some 6, _, _, _, _, _⟩) (v := ?_) rfl (by kernel_rfl) (by kernel_rfl) (by kernel_rfl) (fun _ _ _ h => h) (Or.inl ⟨by rfl, ?_⟩) hHeld ?_
    rotate_left
    · (intro W hSW; (try dsimp only at hSW); go_simp; first | done | with_reducible rfl)
    try simp only [Act.put, List.setIfInBounds_toArray, List.set_cons_zero, List.set_cons_succ]
    refine wpAnyH_take (i := 4) (oi := ⟨some 7, _, _, _, _, _⟩) (v := ?_) rfl (by kernel_rfl) (by kernel_rfl) (by kernel_rfl) (fun _ _ _ h => h) (Or.inl ⟨by rfl, ?_⟩) hHeld ?_
    rotate_left
    · (intro W hSW; (try dsimp only at hSW); go_simp; first | done | with_reducible rfl)
    try simp only [Act.put, List.setIfInBounds_toArray, List.set_cons_zero, List.set_cons_succ]
    refine region_left (todo := [5, 6, 7, 8, 9, 10]) (φ := fun i => Sp.holds (DD O f) O (match i with | 5 => .fn (shp tk f (.typed 7 false)) | 6 => .pt (manyP (shp tk f (.typed 7 false))) | 7 => .prow [(manyP (shp tk f (.typed 7 false)))] | 8 => .c (.bool (madeP n emB [(manyP (shp tk f (.typed 7 false)))])) | 9 => .c (.bool (madeP n emB [(manyP (shp tk f (.typed 7 false)))])) | 10 => .c (.bool (madeP n emB [(manyP (shp tk f (.typed 7 false)))])) | _ => .any)) (by kernel_rfl) (fun i w w' v h hb => Sp.mono _ _ _ h hb) ?_ ⟨?_, ?_, ?_, ?_, ?_, ?_, trivial⟩ ?_
    · exact fun w' hb => ⟨cell_kept hHeld.1 rfl hb, cell_kept hHeld.2.1 rfl hb, cell_kept hHeld.2.2.1 rfl hb, cell_kept hHeld.2.2.2.1 rfl hb, cell_kept hHeld.2.2.2.2.1 rfl hb, cell_kept hHeld.2.2.2.2.2 rfl hb⟩
    · intro a w' hb hr hd
      clear hHeld
      have hg : a.tmps.getD 6 undef = .bool true := hr 6 (by kernel_rfl)
      refine rop_call (d := 8) (o := _) rfl rfl (wanted_of rfl rfl hg) (f := 38) (args := #[.int .i64 7, .func (.func 39) #[] #[]]) (by go_simp) ?_
      exact Htypedfalse w' (keepF _ _ HFA.out (HB0.out.trans ((below_drew hb).mono HB0.out.size))) 7
    · intro a w' hb hr hd
      clear hHeld
      have hg : a.tmps.getD 6 undef = .bool true := hr 6 (by kernel_rfl)
      have p8 : FnV (DD O f) w' (a.tmps.getD 8 undef) (shp tk f (.typed 7 false)) := hd 5 (by kernel_rfl)
      obtain ⟨g8, cap8, e8, r8⟩ := id p8
      rw [e8] at p8
      have e8' := getD_q e8
      refine rop_call (d := 9) (o := _) rfl rfl (wanted_of rfl rfl hg) (f := 29) (args := #[.func (.func g8) #[] cap8]) (by go_simp) ?_
      exact many_any w' p8
    · intro a w' hb hr hd
      clear hHeld
      have hg : a.tmps.getD 6 undef = .bool true := hr 6 (by kernel_rfl)
      have p9 : PtV (DD O f) w' (a.tmps.getD 9 undef) (manyP (shp tk f (.typed 7 false))) := hd 6 (by kernel_rfl)
      obtain ⟨hs9, g9, cap9, e9, r9⟩ := id p9
      rw [e9] at p9
      have e9' := getD_q e9
      refine rop_val (d := 10) (o := _) rfl rfl (wanted_of rfl rfl hg) (v := .slice (some ⟨w'.heap.size, 0, none⟩) 1 1) (w' := w'.alloc (.cells #[.func (.func g9) #[] cap9] 45)) (by go_simp) ?_ (alloc_below _ _)
      exact ⟨_, _, rfl, prow_of ⟨p9, trivial⟩⟩
    · intro a w' hb hr hd
      clear hHeld
      have hg : a.tmps.getD 6 undef = .bool true := hr 6 (by kernel_rfl)
      have e7 : a.tmps.getD 7 undef = .agg #[.int .i64 6, .int .i64 n.fro, .int .i64 n.till, .int .i64 n.at', .string n.name, .slice ia n.kids.length ic] := hr 7 (by kernel_rfl)
      have e7' := getD_q e7
      obtain ⟨A10, c10, e10, q10⟩ := hd 7 (by kernel_rfl)
      have e10 : a.tmps.getD 10 undef = .slice A10 1 c10 := e10
      have e10' := getD_q e10
      refine rop_call (d := 11) (o := _) rfl rfl (wanted_of rfl rfl hg) (f := 27) (args := #[.agg #[.int .i64 6, .int .i64 n.fro, .int .i64 n.till, .int .i64 n.at', .string n.name, .slice ia n.kids.length ic], .func (.func 51) #[] #[], .slice A10 1 c10]) (by go_simp) ?_
      refine (made_any (D := DD O f) (ps := [(manyP (shp tk f (.typed 7 false)))]) w' (nm_empty O w') q10 HK.out.lim.2.2 HK.out.lim.1 HK.out.kid HK.out.lim.2.1 (by simp) (HN.out.below (HB0.out.trans ((below_drew hb).mono HB0.out.size)))).mono ?_
      rintro e w'' ⟨rfl, hb'⟩
      exact ⟨_, rfl, rfl, hb'⟩
    · intro a w' hb hr hd
      clear hHeld
      have e6 : a.tmps.getD 6 undef = .bool true := hr 6 (by kernel_rfl)
      have e6' := getD_q e6
      have e11 : a.tmps.getD 11 undef = .bool (madeP n emB [(manyP (shp tk f (.typed 7 false)))]) := hd 8 (by kernel_rfl)
      have e11' := getD_q e11
      exact rop_val (d := 12) (o := _) rfl rfl rfl (v := .bool (madeP n emB [(manyP (shp tk f (.typed 7 false)))])) (w' := w') (by go_simp) rfl (Below.refl _ _)
    · intro a w' hb hr hd
      clear hHeld
      have e12 : a.tmps.getD 12 undef = .bool (madeP n emB [(manyP (shp tk f (.typed 7 false)))]) := hd 9 (by kernel_rfl)
      have e12' := getD_q e12
      exact rop_val (d := 2) (o := _) rfl rfl rfl (v := .bool (madeP n emB [(manyP (shp tk f (.typed 7 false)))])) (w' := w') (by go_simp) rfl (Below.refl _ _)
    · intro vs w' hb hφ
      have v8 : vs 8 = .bool (madeP n emB [(manyP (shp tk f (.typed 7 false)))]) := hφ.2.2.2.1
      have v9 : vs 9 = .bool (madeP n emB [(manyP (shp tk f (.typed 7 false)))]) := hφ.2.2.2.2.1
      have v10 : vs 10 = .bool (madeP n emB [(manyP (shp tk f (.typed 7 false)))]) := hφ.2.2.2.2.2.1
      clear hHeld hφ
      simp only [setAll, dstOf, List.getElem?_toArray, List.getElem?_cons_zero, List.getElem?_cons_succ, Option.bind_some, Option.getD_some, List.setIfInBounds_toArray, List.set_cons_zero, List.set_cons_succ]
      rw [v8, v9, v10]
      have HB1 := Lib.hid (HB0.out.trans ((below_drew hb).mono HB0.out.size))
      clear hb 
      go_wp2_with fail
      go_ret
      exact ⟨by rw [HSH.out]; rfl, hb0.out.trans (HB1.out.mono HSZ.out)⟩
  · skip
    have HSH : Hid (shp tk (f + 1) .params n = false) := Lib.hid (by rw [shp]; simp [hkd])
    have hkd' : (n.kind == 6) = false := by simpa using hkd
    clear hkd
    generalize hNN : w.heap.size = N at *
    go_enter Tryz.func43, Tryz.ntmps43
    go_wp2_with fail
    clear hNN
    generalize (w.alloc (.cells #[.int .i64 n.kind, .int .i64 n.fro, .int .i64 n.till, .int .i64 n.at', .string n.name, .slice ia n.kids.length ic] 24)) = w1 at *
    have HB0 := Lib.hid (Below.refl w1.heap.size w1)
    obtain ⟨k0, k1, k2, k3, k4, k5⟩ := six_keep HC0.out HB0.out
    go_quiet (fail)
    have HB1 := Lib.hid (drewN_belowA HB0.out nq)
    go_wp2_with fail
    clear k0 k1 k2 k3 k4 k5
    go_ret
    exact ⟨by rw [HSH.out]; rfl, hb0.out.trans (HB1.out.mono HSZ.out)⟩
end Go.Proofs.YtkpddjbdmjbefaaGreatDoor
