/-
  ast shapes: basic types, types, if, expressions, paths. (Written by wip/tools/genshape10.py.)
-/
import Derived.Test.YtkpddjbdmjbefaaGreatDoorNSBase
namespace Go.Proofs.YtkpddjbdmjbefaaGreatDoor
open Go.RowKit
variable {tk : Int → ByteArray → Bool} {O : ByteArray → Prop} {FAC : World → Prop}
theorem wd_eq (ws : List (List UInt8)) : (fun s => (ws.map txt).any fun x => decide (x = s)) = wdB ws := by
  funext s
  unfold wdB
  rw [List.any_map]
  congr 1
  funext w
  show decide (txt w = s) = (s.data.toList == w)
  rw [Bool.eq_iff_iff, decide_eq_true_eq, beq_iff_eq]
  constructor
  · rintro rfl
    rfl
  · rintro rfl
    apply ByteArray.ext
    simp [txt]
set_option maxRecDepth 100000 in
set_option maxHeartbeats 2000000 in
theorem isBasicType_s (f : Nat) (keepF : ∀ w w', FAC w → Below w.heap.size w w' → FAC w')  : CL FAC tk O (f + 1) 47 .basic := by
  intro n nv w HFA0 hF hn
  obtain ⟨ia, ic, rfl, hcc, hk⟩ := hn.open
  have hb0 := Lib.hid (alloc_below w (.cells #[.int .i64 n.kind, .int .i64 n.fro, .int .i64 n.till, .int .i64 n.at', .string n.name, .slice ia n.kids.length ic] 24))
  have HSZ := Lib.hid hb0.out.size
  have HFA := Lib.hid (keepF _ _ HFA0 hb0.out)
  have HT := alloc_top w #[.int .i64 n.kind, .int .i64 n.fro, .int .i64 n.till, .int .i64 n.at', .string n.name, .slice ia n.kids.length ic] 24
  have HC0 := Lib.hid (six_cells HT)
  have HN := Lib.hid (NIn.shut (n := n) hcc (hk.below hb0.out))
  have HK := Lib.hid hF
  clear HT hk hn HFA0 hF hcc
  by_cases hkd : n.kind = 8
  · skip
    have HSH : Hid (shp tk (f + 1) .basic n = madeP n (fun s => [(ByteArray.mk #[105, 110, 116]), (ByteArray.mk #[98, 111, 111, 108]), (ByteArray.mk #[115, 116, 114, 105, 110, 103]), (ByteArray.mk #[102, 108, 111, 97, 116, 54, 52])].any fun x => decide (x = s)) []) := Lib.hid (by rw [shp, hkd, ← wd_eq]; rfl)
    generalize hNN : w.heap.size = N at *
    generalize n.kind = kd at *
    subst hkd
    go_enter Tryz.func47, Tryz.ntmps47
    go_wp2_with fail
    clear hNN
    generalize (w.alloc (.cells #[.int .i64 8, .int .i64 n.fro, .int .i64 n.till, .int .i64 n.at', .string n.name, .slice ia n.kids.length ic] 24)) = w1 at *
    have HB0 := Lib.hid (Below.refl w1.heap.size w1)
    refine wp_region_held_drew (S := fun w' => w'.cell? ⟨N, 0, none⟩ = some (.int .i64 8) ∧ w'.cell? ⟨N, 1, none⟩ = some (.int .i64 n.fro) ∧ w'.cell? ⟨N, 2, none⟩ = some (.int .i64 n.till) ∧ w'.cell? ⟨N, 3, none⟩ = some (.int .i64 n.at') ∧ w'.cell? ⟨N, 4, none⟩ = some (.string n.name) ∧ w'.cell? ⟨N, 5, none⟩ = some (.slice ia n.kids.length ic)) (by kernel_rfl) (six_keep HC0.out HB0.out.drew) (fun hHeld => ?_)
    refine wpAnyH_take (i := 0) (oi := ⟨some 3, _, _, _, _, _⟩) (v := ?_) rfl (by kernel_rfl) (by kernel_rfl) (by kernel_rfl) (fun _ _ _ h => h) (Or.inl ⟨by rfl, ?_⟩) hHeld ?_
    rotate_left
    · (intro W hSW; (try dsimp only at hSW); go_simp; first | done | with_reducible rfl)
    try simp only [Act.put, List.setIfInBounds_toArray, List.set_cons_zero, List.set_cons_succ]
    refine wpAnyH_take (i := 1) (oi := ⟨some 4, _, _, _, _, _⟩) (v := ?_) rfl (by kernel_rfl) (by kernel_rfl) (by kernel_rfl) (fun _ _ _ h => h) (Or.inl ⟨by rfl, ?_⟩) hHeld ?_
    rotate_left
    · (intro W hSW; (try dsimp only at hSW); go_simp; first | done | with_reducible rfl)
    try simp only [Act.put, List.setIfInBounds_toArray, List.set_cons_zero, List.set_cons_succ]
    refine wpAnyH_take (i := 2) (oi := ⟨some 5, _, _, _, _, _⟩) (v := ?_) rfl (by kernel_rfl) (by kernel_rfl) (by kernel_rfl) (fun _ _ _ h => h) (Or.inl ⟨by rfl, ?_⟩) hHeld ?_
    rotate_left
    · (intro W hSW; (try dsimp only at hSW); go_simp; first | done | with_reducible rfl)
    try simp only [Act.put, List.setIfInBounds_toArray, List.set_cons_zero, List.set_cons_succ]
    refine wpAnyH_take (i := 3) (oi := ⟨some 6, _, _, _, _, _⟩) (v := ?_) rfl (by kernel_rfl) (by kernel_rfl) (by kernel_rfl) (fun _ _ _ h => h) (Or.inl ⟨by rfl, ?_⟩) hHeld ?_
    rotate_left
    · (intro W hSW; (try dsimp only at hSW); go_simp; first | done | with_reducible rfl)
    try simp only [Act.put, List.setIfInBounds_toArray, List.set_cons_zero, List.set_cons_succ]
    refine wpAnyH_take (i := 4) (oi := ⟨some 7, _, _, _, _, _⟩) (v := ?_) rfl (by kernel_rfl) (by kernel_rfl) (by kernel_rfl) (fun _ _ _ h => h) (Or.inl ⟨by rfl, ?_⟩) hHeld ?_
    rotate_left
    · (intro W hSW; (try dsimp only at hSW); go_simp; first | done | with_reducible rfl)
    try simp only [Act.put, List.setIfInBounds_toArray, List.set_cons_zero, List.set_cons_succ]
    refine region_left (todo := [5, 6, 7, 8, 9]) (φ := fun i => Sp.holds (DD O f) O (match i with | 5 => .wrow [(ByteArray.mk #[105, 110, 116]), (ByteArray.mk #[98, 111, 111, 108]), (ByteArray.mk #[115, 116, 114, 105, 110, 103]), (ByteArray.mk #[102, 108, 111, 97, 116, 54, 52])] | 6 => .nm (fun s => [(ByteArray.mk #[105, 110, 116]), (ByteArray.mk #[98, 111, 111, 108]), (ByteArray.mk #[115, 116, 114, 105, 110, 103]), (ByteArray.mk #[102, 108, 111, 97, 116, 54, 52])].any fun x => decide (x = s)) | 7 => .c (.bool (madeP n (fun s => [(ByteArray.mk #[105, 110, 116]), (ByteArray.mk #[98, 111, 111, 108]), (ByteArray.mk #[115, 116, 114, 105, 110, 103]), (ByteArray.mk #[102, 108, 111, 97, 116, 54, 52])].any fun x => decide (x = s)) [])) | 8 => .c (.bool (madeP n (fun s => [(ByteArray.mk #[105, 110, 116]), (ByteArray.mk #[98, 111, 111, 108]), (ByteArray.mk #[115, 116, 114, 105, 110, 103]), (ByteArray.mk #[102, 108, 111, 97, 116, 54, 52])].any fun x => decide (x = s)) [])) | 9 => .c (.bool (madeP n (fun s => [(ByteArray.mk #[105, 110, 116]), (ByteArray.mk #[98, 111, 111, 108]), (ByteArray.mk #[115, 116, 114, 105, 110, 103]), (ByteArray.mk #[102, 108, 111, 97, 116, 54, 52])].any fun x => decide (x = s)) [])) | _ => .any)) (by kernel_rfl) (fun i w w' v h hb => Sp.mono _ _ _ h hb) ?_ ⟨?_, ?_, ?_, ?_, ?_, trivial⟩ ?_
    · exact fun w' hb => ⟨cell_kept hHeld.1 rfl hb, cell_kept hHeld.2.1 rfl hb, cell_kept hHeld.2.2.1 rfl hb, cell_kept hHeld.2.2.2.1 rfl hb, cell_kept hHeld.2.2.2.2.1 rfl hb, cell_kept hHeld.2.2.2.2.2 rfl hb⟩
    · intro a w' hb hr hd
      clear hHeld
      have hg : a.tmps.getD 6 undef = .bool true := hr 6 (by kernel_rfl)
      refine rop_val (d := 8) (o := _) rfl rfl (wanted_of rfl rfl hg) (v := .slice (some ⟨w'.heap.size, 0, none⟩) 4 4) (w' := w'.alloc (.cells #[.string (ByteArray.mk #[105, 110, 116]), .string (ByteArray.mk #[98, 111, 111, 108]), .string (ByteArray.mk #[115, 116, 114, 105, 110, 103]), .string (ByteArray.mk #[102, 108, 111, 97, 116, 54, 52])] 9)) (by go_simp) ?_ (alloc_below _ _)
      exact ⟨_, _, rfl, wrow_of rfl⟩
    · intro a w' hb hr hd
      clear hHeld
      have hg : a.tmps.getD 6 undef = .bool true := hr 6 (by kernel_rfl)
      obtain ⟨A8, c8, e8, q8⟩ := hd 5 (by kernel_rfl)
      have e8 : a.tmps.getD 8 undef = .slice A8 4 c8 := e8
      have e8' := getD_q e8
      refine rop_call (d := 9) (o := _) rfl rfl (wanted_of rfl rfl hg) (f := 53) (args := #[.slice A8 4 c8]) (by go_simp) ?_
      exact isWord_any (O := O) [(ByteArray.mk #[105, 110, 116]), (ByteArray.mk #[98, 111, 111, 108]), (ByteArray.mk #[115, 116, 114, 105, 110, 103]), (ByteArray.mk #[102, 108, 111, 97, 116, 54, 52])] _ _ (by simp) w' q8
    · intro a w' hb hr hd
      clear hHeld
      have hg : a.tmps.getD 6 undef = .bool true := hr 6 (by kernel_rfl)
      have e7 : a.tmps.getD 7 undef = .agg #[.int .i64 8, .int .i64 n.fro, .int .i64 n.till, .int .i64 n.at', .string n.name, .slice ia n.kids.length ic] := hr 7 (by kernel_rfl)
      have e7' := getD_q e7
      have p9 : NmV O w' (a.tmps.getD 9 undef) (fun s => [(ByteArray.mk #[105, 110, 116]), (ByteArray.mk #[98, 111, 111, 108]), (ByteArray.mk #[115, 116, 114, 105, 110, 103]), (ByteArray.mk #[102, 108, 111, 97, 116, 54, 52])].any fun x => decide (x = s)) := hd 6 (by kernel_rfl)
      obtain ⟨g9, cap9, e9, r9⟩ := id p9
      rw [e9] at p9
      have e9' := getD_q e9
      refine rop_call (d := 10) (o := _) rfl rfl (wanted_of rfl rfl hg) (f := 27) (args := #[.agg #[.int .i64 8, .int .i64 n.fro, .int .i64 n.till, .int .i64 n.at', .string n.name, .slice ia n.kids.length ic], .func (.func g9) #[] cap9, .slice none 0 0]) (by go_simp) ?_
      refine (made_any (D := DD O f) (ps := []) w' p9 (prow_nil none) HK.out.lim.2.2 HK.out.lim.1 HK.out.kid HK.out.lim.2.1 (by simp) (HN.out.below (HB0.out.trans ((below_drew hb).mono HB0.out.size)))).mono ?_
      rintro e w'' ⟨rfl, hb'⟩
      exact ⟨_, rfl, rfl, hb'⟩
    · intro a w' hb hr hd
      clear hHeld
      have e6 : a.tmps.getD 6 undef = .bool true := hr 6 (by kernel_rfl)
      have e6' := getD_q e6
      have e10 : a.tmps.getD 10 undef = .bool (madeP n (fun s => [(ByteArray.mk #[105, 110, 116]), (ByteArray.mk #[98, 111, 111, 108]), (ByteArray.mk #[115, 116, 114, 105, 110, 103]), (ByteArray.mk #[102, 108, 111, 97, 116, 54, 52])].any fun x => decide (x = s)) []) := hd 7 (by kernel_rfl)
      have e10' := getD_q e10
      exact rop_val (d := 11) (o := _) rfl rfl rfl (v := .bool (madeP n (fun s => [(ByteArray.mk #[105, 110, 116]), (ByteArray.mk #[98, 111, 111, 108]), (ByteArray.mk #[115, 116, 114, 105, 110, 103]), (ByteArray.mk #[102, 108, 111, 97, 116, 54, 52])].any fun x => decide (x = s)) [])) (w' := w') (by go_simp) rfl (Below.refl _ _)
    · intro a w' hb hr hd
      clear hHeld
      have e11 : a.tmps.getD 11 undef = .bool (madeP n (fun s => [(ByteArray.mk #[105, 110, 116]), (ByteArray.mk #[98, 111, 111, 108]), (ByteArray.mk #[115, 116, 114, 105, 110, 103]), (ByteArray.mk #[102, 108, 111, 97, 116, 54, 52])].any fun x => decide (x = s)) []) := hd 8 (by kernel_rfl)
      have e11' := getD_q e11
      exact rop_val (d := 2) (o := _) rfl rfl rfl (v := .bool (madeP n (fun s => [(ByteArray.mk #[105, 110, 116]), (ByteArray.mk #[98, 111, 111, 108]), (ByteArray.mk #[115, 116, 114, 105, 110, 103]), (ByteArray.mk #[102, 108, 111, 97, 116, 54, 52])].any fun x => decide (x = s)) [])) (w' := w') (by go_simp) rfl (Below.refl _ _)
    · intro vs w' hb hφ
      have v7 : vs 7 = .bool (madeP n (fun s => [(ByteArray.mk #[105, 110, 116]), (ByteArray.mk #[98, 111, 111, 108]), (ByteArray.mk #[115, 116, 114, 105, 110, 103]), (ByteArray.mk #[102, 108, 111, 97, 116, 54, 52])].any fun x => decide (x = s)) []) := hφ.2.2.1
      have v8 : vs 8 = .bool (madeP n (fun s => [(ByteArray.mk #[105, 110, 116]), (ByteArray.mk #[98, 111, 111, 108]), (ByteArray.mk #[115, 116, 114, 105, 110, 103]), (ByteArray.mk #[102, 108, 111, 97, 116, 54, 52])].any fun x => decide (x = s)) []) := hφ.2.2.2.1
      have v9 : vs 9 = .bool (madeP n (fun s => [(ByteArray.mk #[105, 110, 116]), (ByteArray.mk #[98, 111, 111, 108]), (ByteArray.mk #[115, 116, 114, 105, 110, 103]), (ByteArray.mk #[102, 108, 111, 97, 116, 54, 52])].any fun x => decide (x = s)) []) := hφ.2.2.2.2.1
      clear hHeld hφ
      simp only [setAll, dstOf, List.getElem?_toArray, List.getElem?_cons_zero, List.getElem?_cons_succ, Option.bind_some, Option.getD_some, List.setIfInBounds_toArray, List.set_cons_zero, List.set_cons_succ]
      rw [v7, v8, v9]
      have HB1 := Lib.hid (HB0.out.trans ((below_drew hb).mono HB0.out.size))
      clear hb
      obtain ⟨k0, k1, k2, k3, k4, k5⟩ := six_keep HC0.out HB1.out
      go_wp2_with fail
      clear k0 k1 k2 k3 k4 k5
      go_ret
      exact ⟨by rw [HSH.out]; rfl, hb0.out.trans (HB1.out.mono HSZ.out)⟩
  · skip
    have HSH : Hid (shp tk (f + 1) .basic n = false) := Lib.hid (by rw [shp]; simp [hkd])
    have hkd' : (n.kind == 8) = false := by simpa using hkd
    clear hkd
    generalize hNN : w.heap.size = N at *
    go_enter Tryz.func47, Tryz.ntmps47
    go_wp2_with fail
    clear hNN
    generalize (w.alloc (.cells #[.int .i64 n.kind, .int .i64 n.fro, .int .i64 n.till, .int .i64 n.at', .string n.name, .slice ia n.kids.length ic] 24)) = w1 at *
    have HB0 := Lib.hid (Below.refl w1.heap.size w1)
    obtain ⟨k0, k1, k2, k3, k4, k5⟩ := six_keep HC0.out HB0.out
    go_quiet (fail)
    have HB1 := Lib.hid (drewN_belowA HB0.out nq)
    go_wp2_with fail
    clear k0 k1 k2 k3 k4 k5
    go_ret
    exact ⟨by rw [HSH.out]; rfl, hb0.out.trans (HB1.out.mono HSZ.out)⟩
set_option maxRecDepth 100000 in
set_option maxHeartbeats 2000000 in
theorem isType_s (f : Nat) (keepF : ∀ w w', FAC w → Below w.heap.size w w' → FAC w') (Hbasic : SL FAC tk O f 47 .basic) (Hown : SL FAC tk O f 40 .own) (Hfar : SL FAC tk O f 48 .far) : CL FAC tk O (f + 1) 39 .ty := by
  intro n nv w HFA0 hF hn
  obtain ⟨ia, ic, rfl, hcc, hk⟩ := hn.open
  have hb0 := Lib.hid (alloc_below w (.cells #[.int .i64 n.kind, .int .i64 n.fro, .int .i64 n.till, .int .i64 n.at', .string n.name, .slice ia n.kids.length ic] 24))
  have HSZ := Lib.hid hb0.out.size
  have HFA := Lib.hid (keepF _ _ HFA0 hb0.out)
  have HT := alloc_top w #[.int .i64 n.kind, .int .i64 n.fro, .int .i64 n.till, .int .i64 n.at', .string n.name, .slice ia n.kids.length ic] 24
  have HC0 := Lib.hid (six_cells HT)
  have HN := Lib.hid (NIn.shut (n := n) hcc (hk.below hb0.out))
  have HK := Lib.hid hF
  clear HT hk hn HFA0 hF hcc
  cases q142 : shp tk f .basic n with
  | true =>
    have HSH : Hid (shp tk (f + 1) .ty n = true) := Lib.hid (by rw [shp, q142]; rfl)
    have C142 := Lib.hid (fun (W : World) (hb : Below (w.alloc (.cells #[.int .i64 n.kind, .int .i64 n.fro, .int .i64 n.till, .int .i64 n.at', .string n.name, .slice ia n.kids.length ic] 24)).heap.size (w.alloc (.cells #[.int .i64 n.kind, .int .i64 n.fro, .int .i64 n.till, .int .i64 n.at', .string n.name, .slice ia n.kids.length ic] 24)) W) => Hbasic.cl n _ W (keepF _ _ HFA.out hb) (HK.out.same (by decide)) (HN.out.below hb))
    rw [q142] at C142
    generalize hNN : w.heap.size = N at *
    go_enter Tryz.func39, Tryz.ntmps39
    go_wp2_with fail
    clear hNN
    generalize (w.alloc (.cells #[.int .i64 n.kind, .int .i64 n.fro, .int .i64 n.till, .int .i64 n.at', .string n.name, .slice ia n.kids.length ic] 24)) = w1 at *
    have HB0 := Lib.hid (Below.refl w1.heap.size w1)
    refine (C142.out _ HB0.out).mono ?_
    rintro e w' ⟨rfl, hb⟩
    have HB1 := Lib.hid (HB0.out.trans (hb.mono HB0.out.size))
    clear hb
    obtain ⟨k0, k1, k2, k3, k4, k5⟩ := six_keep HC0.out HB1.out
    go_wp2_with fail
    clear k0 k1 k2 k3 k4 k5
    go_ret
    exact ⟨by rw [HSH.out]; rfl, hb0.out.trans (HB1.out.mono HSZ.out)⟩
  | false =>
    cases q115 : shp tk f .own n with
    | true =>
    have HSH : Hid (shp tk (f + 1) .ty n = true) := Lib.hid (by rw [shp, q142, q115]; rfl)
    have C142 := Lib.hid (fun (W : World) (hb : Below (w.alloc (.cells #[.int .i64 n.kind, .int .i64 n.fro, .int .i64 n.till, .int .i64 n.at', .string n.name, .slice ia n.kids.length ic] 24)).heap.size (w.alloc (.cells #[.int .i64 n.kind, .int .i64 n.fro, .int .i64 n.till, .int .i64 n.at', .string n.name, .slice ia n.kids.length ic] 24)) W) => Hbasic.cl n _ W (keepF _ _ HFA.out hb) (HK.out.same (by decide)) (HN.out.below hb))
    rw [q142] at C142
    have C115 := Lib.hid (fun (W : World) (hb : Below (w.alloc (.cells #[.int .i64 n.kind, .int .i64 n.fro, .int .i64 n.till, .int .i64 n.at', .string n.name, .slice ia n.kids.length ic] 24)).heap.size (w.alloc (.cells #[.int .i64 n.kind, .int .i64 n.fro, .int .i64 n.till, .int .i64 n.at', .string n.name, .slice ia n.kids.length ic] 24)) W) => Hown.cl n _ W (keepF _ _ HFA.out hb) (HK.out.same (by decide)) (HN.out.below hb))
    rw [q115] at C115
    generalize hNN : w.heap.size = N at *
    go_enter Tryz.func39, Tryz.ntmps39
    go_wp2_with fail
    clear hNN
    generalize (w.alloc (.cells #[.int .i64 n.kind, .int .i64 n.fro, .int .i64 n.till, .int .i64 n.at', .string n.name, .slice ia n.kids.length ic] 24)) = w1 at *
    have HB0 := Lib.hid (Below.refl w1.heap.size w1)
    refine (C142.out _ HB0.out).mono ?_
    rintro e w' ⟨rfl, hb⟩
    have HB1 := Lib.hid (HB0.out.trans (hb.mono HB0.out.size))
    clear hb
    obtain ⟨k0, k1, k2, k3, k4, k5⟩ := six_keep HC0.out HB1.out
    go_wp2_with fail
    clear k0 k1 k2 k3 k4 k5
    refine (C115.out _ HB1.out).mono ?_
    rintro e w' ⟨rfl, hb⟩
    have HB2 := Lib.hid (HB1.out.trans (hb.mono HB1.out.size))
    clear hb
    obtain ⟨k0, k1, k2, k3, k4, k5⟩ := six_keep HC0.out HB2.out
    go_wp2_with fail
    clear k0 k1 k2 k3 k4 k5
    go_ret
    exact ⟨by rw [HSH.out]; rfl, hb0.out.trans (HB2.out.mono HSZ.out)⟩
    | false =>
    have HSH : Hid (shp tk (f + 1) .ty n = shp tk f .far n) := Lib.hid (by rw [shp, q142, q115]; rfl)
    have C142 := Lib.hid (fun (W : World) (hb : Below (w.alloc (.cells #[.int .i64 n.kind, .int .i64 n.fro, .int .i64 n.till, .int .i64 n.at', .string n.name, .slice ia n.kids.length ic] 24)).heap.size (w.alloc (.cells #[.int .i64 n.kind, .int .i64 n.fro, .int .i64 n.till, .int .i64 n.at', .string n.name, .slice ia n.kids.length ic] 24)) W) => Hbasic.cl n _ W (keepF _ _ HFA.out hb) (HK.out.same (by decide)) (HN.out.below hb))
    rw [q142] at C142
    have C115 := Lib.hid (fun (W : World) (hb : Below (w.alloc (.cells #[.int .i64 n.kind, .int .i64 n.fro, .int .i64 n.till, .int .i64 n.at', .string n.name, .slice ia n.kids.length ic] 24)).heap.size (w.alloc (.cells #[.int .i64 n.kind, .int .i64 n.fro, .int .i64 n.till, .int .i64 n.at', .string n.name, .slice ia n.kids.length ic] 24)) W) => Hown.cl n _ W (keepF _ _ HFA.out hb) (HK.out.same (by decide)) (HN.out.below hb))
    rw [q115] at C115
    have C143 := Lib.hid (fun (W : World) (hb : Below (w.alloc (.cells #[.int .i64 n.kind, .int .i64 n.fro, .int .i64 n.till, .int .i64 n.at', .string n.name, .slice ia n.kids.length ic] 24)).heap.size (w.alloc (.cells #[.int .i64 n.kind, .int .i64 n.fro, .int .i64 n.till, .int .i64 n.at', .string n.name, .slice ia n.kids.length ic] 24)) W) => Hfar.cl n _ W (keepF _ _ HFA.out hb) (HK.out.same (by decide)) (HN.out.below hb))
    generalize hNN : w.heap.size = N at *
    go_enter Tryz.func39, Tryz.ntmps39
    go_wp2_with fail
    clear hNN
    generalize (w.alloc (.cells #[.int .i64 n.kind, .int .i64 n.fro, .int .i64 n.till, .int .i64 n.at', .string n.name, .slice ia n.kids.length ic] 24)) = w1 at *
    have HB0 := Lib.hid (Below.refl w1.heap.size w1)
    refine (C142.out _ HB0.out).mono ?_
    rintro e w' ⟨rfl, hb⟩
    have HB1 := Lib.hid (HB0.out.trans (hb.mono HB0.out.size))
    clear hb
    obtain ⟨k0, k1, k2, k3, k4, k5⟩ := six_keep HC0.out HB1.out
    go_wp2_with fail
    clear k0 k1 k2 k3 k4 k5
    refine (C115.out _ HB1.out).mono ?_
    rintro e w' ⟨rfl, hb⟩
    have HB2 := Lib.hid (HB1.out.trans (hb.mono HB1.out.size))
    clear hb
    obtain ⟨k0, k1, k2, k3, k4, k5⟩ := six_keep HC0.out HB2.out
    go_wp2_with fail
    clear k0 k1 k2 k3 k4 k5
    refine (C143.out _ HB2.out).mono ?_
    rintro e w' ⟨rfl, hb⟩
    have HB3 := Lib.hid (HB2.out.trans (hb.mono HB2.out.size))
    clear hb
    obtain ⟨k0, k1, k2, k3, k4, k5⟩ := six_keep HC0.out HB3.out
    go_wp2_with fail
    clear k0 k1 k2 k3 k4 k5
    go_ret
    exact ⟨by rw [HSH.out]; rfl, hb0.out.trans (HB3.out.mono HSZ.out)⟩
set_option maxRecDepth 100000 in
set_option maxHeartbeats 2000000 in
theorem isIf_s (f : Nat) (keepF : ∀ w w', FAC w → Below w.heap.size w w' → FAC w') (Hheadexpr : ∀ W, FAC W → Calls Tryz.prog 67 #[.func (.func 60) #[] #[]] W fun e w' => ∃ v, e = .returned v ∧ FnV (DD O f) w' v (fun t => shp tk f .expr t && bare (f + 1) t) ∧ Below W.heap.size W w') (Hblock : SL FAC tk O f 44 .block) (Hnothing : SL FAC tk O f 42 .nothing) (Hiff : SL FAC tk O f 58 .iff) : CL FAC tk O (f + 1) 58 .iff := by
  intro n nv w HFA0 hF hn
  obtain ⟨ia, ic, rfl, hcc, hk⟩ := hn.open
  have hb0 := Lib.hid (alloc_below w (.cells #[.int .i64 n.kind, .int .i64 n.fro, .int .i64 n.till, .int .i64 n.at', .string n.name, .slice ia n.kids.length ic] 24))
  have HSZ := Lib.hid hb0.out.size
  have HFA := Lib.hid (keepF _ _ HFA0 hb0.out)
  have HT := alloc_top w #[.int .i64 n.kind, .int .i64 n.fro, .int .i64 n.till, .int .i64 n.at', .string n.name, .slice ia n.kids.length ic] 24
  have HC0 := Lib.hid (six_cells HT)
  have HN := Lib.hid (NIn.shut (n := n) hcc (hk.below hb0.out))
  have HK := Lib.hid hF
  clear HT hk hn HFA0 hF hcc
  by_cases hkd : n.kind = 14
  · skip
    have HSH : Hid (shp tk (f + 1) .iff n = madeP n emB [oneP [fun t => shp tk f .expr t && bare (f + 1) t], oneP [shp tk f .block], oneP [shp tk f .nothing, shp tk f .iff, shp tk f .block]]) := Lib.hid (by rw [shp, hkd]; rfl)
    generalize hNN : w.heap.size = N at *
    generalize n.kind = kd at *
    subst hkd
    go_enter Tryz.func58, Tryz.ntmps58
    go_wp2_with fail
    clear hNN
    generalize (w.alloc (.cells #[.int .i64 14, .int .i64 n.fro, .int .i64 n.till, .int .i64 n.at', .string n.name, .slice ia n.kids.length ic] 24)) = w1 at *
    have HB0 := Lib.hid (Below.refl w1.heap.size w1)
    refine wp_region_held_drew (S := fun w' => w'.cell? ⟨N, 0, none⟩ = some (.int .i64 14) ∧ w'.cell? ⟨N, 1, none⟩ = some (.int .i64 n.fro) ∧ w'.cell? ⟨N, 2, none⟩ = some (.int .i64 n.till) ∧ w'.cell? ⟨N, 3, none⟩ = some (.int .i64 n.at') ∧ w'.cell? ⟨N, 4, none⟩ = some (.string n.name) ∧ w'.cell? ⟨N, 5, none⟩ = some (.slice ia n.kids.length ic)) (by kernel_rfl) (six_keep HC0.out HB0.out.drew) (fun hHeld => ?_)
    refine wpAnyH_take (i := 0) (oi := ⟨some 3, _, _, _, _, _⟩) (v := ?_) rfl (by kernel_rfl) (by kernel_rfl) (by kernel_rfl) (fun _ _ _ h => h) (Or.inl ⟨by rfl, ?_⟩) hHeld ?_
    rotate_left
    · (intro W hSW; (try dsimp only at hSW); go_simp; first | done | with_reducible rfl)
    try simp only [Act.put, List.setIfInBounds_toArray, List.set_cons_zero, List.set_cons_succ]
    refine wpAnyH_take (i := 1) (oi := ⟨some 4, _, _, _, _, _⟩) (v := ?_) rfl (by kernel_rfl) (by kernel_rfl) (by kernel_rfl) (fun _ _ _ h => h) (Or.inl ⟨by rfl, ?_⟩) hHeld ?_
    rotate_left
    · (intro W hSW; (try dsimp only at hSW); go_simp; first | done | with_reducible rfl)
    try simp only [Act.put, List.setIfInBounds_toArray, List.set_cons_zero, List.set_cons_succ]
    refine wpAnyH_take (i := 2) (oi := ⟨some 5, _, _, _, _, _⟩) (v := ?_) rfl (by kernel_rfl) (by kernel_rfl) (by kernel_rfl) (fun _ _ _ h => h) (Or.inl ⟨by rfl, ?_⟩) hHeld ?_
    rotate_left
    · (intro W hSW; (try dsimp only at hSW); go_simp; first | done | with_reducible rfl)
    try simp only [Act.put, List.setIfInBounds_toArray, List.set_cons_zero, List.set_cons_succ]
    refine wpAnyH_take (i := 3) (oi := ⟨some 6, _, _, _, _, _⟩) (v := ?_) rfl (by kernel_rfl) (by kernel_rfl) (by kernel_rfl) (fun _ _ _ h => h) (Or.inl ⟨by rfl, ?_⟩) hHeld ?_
    rotate_left
    · (intro W hSW; (try dsimp only at hSW); go_simp; first | done | with_reducible rfl)
    try simp only [Act.put, List.setIfInBounds_toArray, List.set_cons_zero, List.set_cons_succ]
    refine wpAnyH_take (i := 4) (oi := ⟨some 7, _, _, _, _, _⟩) (v := ?_) rfl (by kernel_rfl) (by kernel_rfl) (by kernel_rfl) (fun _ _ _ h => h) (Or.inl ⟨by rfl, ?_⟩) hHeld ?_
    rotate_left
    · (intro W hSW; (try dsimp only at hSW); go_simp; first | done | with_reducible rfl)
    try simp only [Act.put, List.setIfInBounds_toArray, List.set_cons_zero, List.set_cons_succ]
    refine region_left (todo := [5, 6, 7, 8, 9, 10, 11, 12, 13, 14, 15]) (φ := fun i => Sp.holds (DD O f) O (match i with | 5 => .fn (fun t => shp tk f .expr t && bare (f + 1) t) | 6 => .frow [(fun t => shp tk f .expr t && bare (f + 1) t)] | 7 => .pt (oneP [(fun t => shp tk f .expr t && bare (f + 1) t)]) | 8 => .frow [(shp tk f .block)] | 9 => .pt (oneP [(shp tk f .block)]) | 10 => .frow [(shp tk f .nothing), (shp tk f .iff), (shp tk f .block)] | 11 => .pt (oneP [(shp tk f .nothing), (shp tk f .iff), (shp tk f .block)]) | 12 => .prow [(oneP [(fun t => shp tk f .expr t && bare (f + 1) t)]), (oneP [(shp tk f .block)]), (oneP [(shp tk f .nothing), (shp tk f .iff), (shp tk f .block)])] | 13 => .c (.bool (madeP n emB [(oneP [(fun t => shp tk f .expr t && bare (f + 1) t)]), (oneP [(shp tk f .block)]), (oneP [(shp tk f .nothing), (shp tk f .iff), (shp tk f .block)])])) | 14 => .c (.bool (madeP n emB [(oneP [(fun t => shp tk f .expr t && bare (f + 1) t)]), (oneP [(shp tk f .block)]), (oneP [(shp tk f .nothing), (shp tk f .iff), (shp tk f .block)])])) | 15 => .c (.bool (madeP n emB [(oneP [(fun t => shp tk f .expr t && bare (f + 1) t)]), (oneP [(shp tk f .block)]), (oneP [(shp tk f .nothing), (shp tk f .iff), (shp tk f .block)])])) | _ => .any)) (by kernel_rfl) (fun i w w' v h hb => Sp.mono _ _ _ h hb) ?_ ⟨?_, ?_, ?_, ?_, ?_, ?_, ?_, ?_, ?_, ?_, ?_, trivial⟩ ?_
    · exact fun w' hb => ⟨cell_kept hHeld.1 rfl hb, cell_kept hHeld.2.1 rfl hb, cell_kept hHeld.2.2.1 rfl hb, cell_kept hHeld.2.2.2.1 rfl hb, cell_kept hHeld.2.2.2.2.1 rfl hb, cell_kept hHeld.2.2.2.2.2 rfl hb⟩
    · intro a w' hb hr hd
      clear hHeld
      have hg : a.tmps.getD 6 undef = .bool true := hr 6 (by kernel_rfl)
      refine rop_call (d := 8) (o := _) rfl rfl (wanted_of rfl rfl hg) (f := 67) (args := #[.func (.func 60) #[] #[]]) (by go_simp) ?_
      exact Hheadexpr w' (keepF _ _ HFA.out (HB0.out.trans ((below_drew hb).mono HB0.out.size)))
    · intro a w' hb hr hd
      clear hHeld
      have hg : a.tmps.getD 6 undef = .bool true := hr 6 (by kernel_rfl)
      have p8 : FnV (DD O f) w' (a.tmps.getD 8 undef) (fun t => shp tk f .expr t && bare (f + 1) t) := hd 5 (by kernel_rfl)
      obtain ⟨g8, cap8, e8, r8⟩ := id p8
      rw [e8] at p8
      have e8' := getD_q e8
      refine rop_val (d := 9) (o := _) rfl rfl (wanted_of rfl rfl hg) (v := .slice (some ⟨w'.heap.size, 0, none⟩) 1 1) (w' := w'.alloc (.cells #[.func (.func g8) #[] cap8] 53)) (by go_simp) ?_ (alloc_below _ _)
      exact ⟨_, _, rfl, frow_of ⟨p8, trivial⟩⟩
    · intro a w' hb hr hd
      clear hHeld
      have hg : a.tmps.getD 6 undef = .bool true := hr 6 (by kernel_rfl)
      obtain ⟨A9, c9, e9, q9⟩ := hd 6 (by kernel_rfl)
      have e9 : a.tmps.getD 9 undef = .slice A9 1 c9 := e9
      have e9' := getD_q e9
      refine rop_call (d := 10) (o := _) rfl rfl (wanted_of rfl rfl hg) (f := 41) (args := #[.slice A9 1 c9]) (by go_simp) ?_
      exact one_any w' q9 (by simp) (by simp)
    · intro a w' hb hr hd
      clear hHeld
      have hg : a.tmps.getD 6 undef = .bool true := hr 6 (by kernel_rfl)
      refine rop_val (d := 11) (o := _) rfl rfl (wanted_of rfl rfl hg) (v := .slice (some ⟨w'.heap.size, 0, none⟩) 1 1) (w' := w'.alloc (.cells #[.func (.func 44) #[] #[]] 53)) (by go_simp) ?_ (alloc_below _ _)
      exact ⟨_, _, rfl, frow_of ⟨Hblock.sf _ (keepF _ _ HFA.out (HB0.out.trans ((below_drew hb).mono HB0.out.size))), trivial⟩⟩
    · intro a w' hb hr hd
      clear hHeld
      have hg : a.tmps.getD 6 undef = .bool true := hr 6 (by kernel_rfl)
      obtain ⟨A11, c11, e11, q11⟩ := hd 8 (by kernel_rfl)
      have e11 : a.tmps.getD 11 undef = .slice A11 1 c11 := e11
      have e11' := getD_q e11
      refine rop_call (d := 12) (o := _) rfl rfl (wanted_of rfl rfl hg) (f := 41) (args := #[.slice A11 1 c11]) (by go_simp) ?_
      exact one_any w' q11 (by simp) (by simp)
    · intro a w' hb hr hd
      clear hHeld
      have hg : a.tmps.getD 6 undef = .bool true := hr 6 (by kernel_rfl)
      refine rop_val (d := 13) (o := _) rfl rfl (wanted_of rfl rfl hg) (v := .slice (some ⟨w'.heap.size, 0, none⟩) 3 3) (w' := w'.alloc (.cells #[.func (.func 42) #[] #[], .func (.func 58) #[] #[], .func (.func 44) #[] #[]] 53)) (by go_simp) ?_ (alloc_below _ _)
      exact ⟨_, _, rfl, frow_of ⟨Hnothing.sf _ (keepF _ _ HFA.out (HB0.out.trans ((below_drew hb).mono HB0.out.size))), Hiff.sf _ (keepF _ _ HFA.out (HB0.out.trans ((below_drew hb).mono HB0.out.size))), Hblock.sf _ (keepF _ _ HFA.out (HB0.out.trans ((below_drew hb).mono HB0.out.size))), trivial⟩⟩
    · intro a w' hb hr hd
      clear hHeld
      have hg : a.tmps.getD 6 undef = .bool true := hr 6 (by kernel_rfl)
      obtain ⟨A13, c13, e13, q13⟩ := hd 10 (by kernel_rfl)
      have e13 : a.tmps.getD 13 undef = .slice A13 3 c13 := e13
      have e13' := getD_q e13
      refine rop_call (d := 14) (o := _) rfl rfl (wanted_of rfl rfl hg) (f := 41) (args := #[.slice A13 3 c13]) (by go_simp) ?_
      exact one_any w' q13 (by simp) (by simp)
    · intro a w' hb hr hd
      clear hHeld
      have hg : a.tmps.getD 6 undef = .bool true := hr 6 (by kernel_rfl)
      have p10 : PtV (DD O f) w' (a.tmps.getD 10 undef) (oneP [(fun t => shp tk f .expr t && bare (f + 1) t)]) := hd 7 (by kernel_rfl)
      obtain ⟨hs10, g10, cap10, e10, r10⟩ := id p10
      rw [e10] at p10
      have e10' := getD_q e10
      have p12 : PtV (DD O f) w' (a.tmps.getD 12 undef) (oneP [(shp tk f .block)]) := hd 9 (by kernel_rfl)
      obtain ⟨hs12, g12, cap12, e12, r12⟩ := id p12
      rw [e12] at p12
      have e12' := getD_q e12
      have p14 : PtV (DD O f) w' (a.tmps.getD 14 undef) (oneP [(shp tk f .nothing), (shp tk f .iff), (shp tk f .block)]) := hd 11 (by kernel_rfl)
      obtain ⟨hs14, g14, cap14, e14, r14⟩ := id p14
      rw [e14] at p14
      have e14' := getD_q e14
      refine rop_val (d := 15) (o := _) rfl rfl (wanted_of rfl rfl hg) (v := .slice (some ⟨w'.heap.size, 0, none⟩) 3 3) (w' := w'.alloc (.cells #[.func (.func g10) #[] cap10, .func (.func g12) #[] cap12, .func (.func g14) #[] cap14] 45)) (by go_simp) ?_ (alloc_below _ _)
      exact ⟨_, _, rfl, prow_of ⟨p10, p12, p14, trivial⟩⟩
    · intro a w' hb hr hd
      clear hHeld
      have hg : a.tmps.getD 6 undef = .bool true := hr 6 (by kernel_rfl)
      have e7 : a.tmps.getD 7 undef = .agg #[.int .i64 14, .int .i64 n.fro, .int .i64 n.till, .int .i64 n.at', .string n.name, .slice ia n.kids.length ic] := hr 7 (by kernel_rfl)
      have e7' := getD_q e7
      obtain ⟨A15, c15, e15, q15⟩ := hd 12 (by kernel_rfl)
      have e15 : a.tmps.getD 15 undef = .slice A15 3 c15 := e15
      have e15' := getD_q e15
      refine rop_call (d := 16) (o := _) rfl rfl (wanted_of rfl rfl hg) (f := 27) (args := #[.agg #[.int .i64 14, .int .i64 n.fro, .int .i64 n.till, .int .i64 n.at', .string n.name, .slice ia n.kids.length ic], .func (.func 51) #[] #[], .slice A15 3 c15]) (by go_simp) ?_
      refine (made_any (D := DD O f) (ps := [(oneP [(fun t => shp tk f .expr t && bare (f + 1) t)]), (oneP [(shp tk f .block)]), (oneP [(shp tk f .nothing), (shp tk f .iff), (shp tk f .block)])]) w' (nm_empty O w') q15 HK.out.lim.2.2 HK.out.lim.1 HK.out.kid HK.out.lim.2.1 (by simp) (HN.out.below (HB0.out.trans ((below_drew hb).mono HB0.out.size)))).mono ?_
      rintro e w'' ⟨rfl, hb'⟩
      exact ⟨_, rfl, rfl, hb'⟩
    · intro a w' hb hr hd
      clear hHeld
      have e6 : a.tmps.getD 6 undef = .bool true := hr 6 (by kernel_rfl)
      have e6' := getD_q e6
      have e16 : a.tmps.getD 16 undef = .bool (madeP n emB [(oneP [(fun t => shp tk f .expr t && bare (f + 1) t)]), (oneP [(shp tk f .block)]), (oneP [(shp tk f .nothing), (shp tk f .iff), (shp tk f .block)])]) := hd 13 (by kernel_rfl)
      have e16' := getD_q e16
      exact rop_val (d := 17) (o := _) rfl rfl rfl (v := .bool (madeP n emB [(oneP [(fun t => shp tk f .expr t && bare (f + 1) t)]), (oneP [(shp tk f .block)]), (oneP [(shp tk f .nothing), (shp tk f .iff), (shp tk f .block)])])) (w' := w') (by go_simp) rfl (Below.refl _ _)
    · intro a w' hb hr hd
      clear hHeld
      have e17 : a.tmps.getD 17 undef = .bool (madeP n emB [(oneP [(fun t => shp tk f .expr t && bare (f + 1) t)]), (oneP [(shp tk f .block)]), (oneP [(shp tk f .nothing), (shp tk f .iff), (shp tk f .block)])]) := hd 14 (by kernel_rfl)
      have e17' := getD_q e17
      exact rop_val (d := 2) (o := _) rfl rfl rfl (v := .bool (madeP n emB [(oneP [(fun t => shp tk f .expr t && bare (f + 1) t)]), (oneP [(shp tk f .block)]), (oneP [(shp tk f .nothing), (shp tk f .iff), (shp tk f .block)])])) (w' := w') (by go_simp) rfl (Below.refl _ _)
    · intro vs w' hb hφ
      have v13 : vs 13 = .bool (madeP n emB [(oneP [(fun t => shp tk f .expr t && bare (f + 1) t)]), (oneP [(shp tk f .block)]), (oneP [(shp tk f .nothing), (shp tk f .iff), (shp tk f .block)])]) := hφ.2.2.2.2.2.2.2.2.1
      have v14 : vs 14 = .bool (madeP n emB [(oneP [(fun t => shp tk f .expr t && bare (f + 1) t)]), (oneP [(shp tk f .block)]), (oneP [(shp tk f .nothing), (shp tk f .iff), (shp tk f .block)])]) := hφ.2.2.2.2.2.2.2.2.2.1
      have v15 : vs 15 = .bool (madeP n emB [(oneP [(fun t => shp tk f .expr t && bare (f + 1) t)]), (oneP [(shp tk f .block)]), (oneP [(shp tk f .nothing), (shp tk f .iff), (shp tk f .block)])]) := hφ.2.2.2.2.2.2.2.2.2.2.1
      clear hHeld hφ
      simp only [setAll, dstOf, List.getElem?_toArray, List.getElem?_cons_zero, List.getElem?_cons_succ, Option.bind_some, Option.getD_some, List.setIfInBounds_toArray, List.set_cons_zero, List.set_cons_succ]
      rw [v13, v14, v15]
      have HB1 := Lib.hid (HB0.out.trans ((below_drew hb).mono HB0.out.size))
      clear hb
      obtain ⟨k0, k1, k2, k3, k4, k5⟩ := six_keep HC0.out HB1.out
      go_wp2_with fail
      clear k0 k1 k2 k3 k4 k5
      go_ret
      exact ⟨by rw [HSH.out]; rfl, hb0.out.trans (HB1.out.mono HSZ.out)⟩
  · skip
    have HSH : Hid (shp tk (f + 1) .iff n = false) := Lib.hid (by rw [shp]; simp [hkd])
    have hkd' : (n.kind == 14) = false := by simpa using hkd
    clear hkd
    generalize hNN : w.heap.size = N at *
    go_enter Tryz.func58, Tryz.ntmps58
    go_wp2_with fail
    clear hNN
    generalize (w.alloc (.cells #[.int .i64 n.kind, .int .i64 n.fro, .int .i64 n.till, .int .i64 n.at', .string n.name, .slice ia n.kids.length ic] 24)) = w1 at *
    have HB0 := Lib.hid (Below.refl w1.heap.size w1)
    obtain ⟨k0, k1, k2, k3, k4, k5⟩ := six_keep HC0.out HB0.out
    go_quiet (fail)
    have HB1 := Lib.hid (drewN_belowA HB0.out nq)
    go_wp2_with fail
    clear k0 k1 k2 k3 k4 k5
    go_ret
    exact ⟨by rw [HSH.out]; rfl, hb0.out.trans (HB1.out.mono HSZ.out)⟩
set_option maxRecDepth 100000 in
set_option maxHeartbeats 2000000 in
theorem isExpr_s (f : Nat) (keepF : ∀ w w', FAC w → Below w.heap.size w w' → FAC w') (Hlevel : ∀ W, FAC W → ∀ k : Int, Calls Tryz.prog 68 #[.int .i64 k] W fun e w' => ∃ v, e = .returned v ∧ FnV (Fit O f 3) w' v (shp tk f (.level k)) ∧ Below W.heap.size W w') : CL FAC tk O (f + 1) 60 .expr := by
  intro n nv w HFA0 hF hn
  obtain ⟨ia, ic, rfl, hcc, hk⟩ := hn.open
  have hb0 := Lib.hid (alloc_below w (.cells #[.int .i64 n.kind, .int .i64 n.fro, .int .i64 n.till, .int .i64 n.at', .string n.name, .slice ia n.kids.length ic] 24))
  have HSZ := Lib.hid hb0.out.size
  have HFA := Lib.hid (keepF _ _ HFA0 hb0.out)
  have HT := alloc_top w #[.int .i64 n.kind, .int .i64 n.fro, .int .i64 n.till, .int .i64 n.at', .string n.name, .slice ia n.kids.length ic] 24
  have HC0 := Lib.hid (six_cells HT)
  have HN := Lib.hid (NIn.shut (n := n) hcc (hk.below hb0.out))
  have HK := Lib.hid hF
  clear HT hk hn HFA0 hF hcc
  have HSH : Hid (shp tk (f + 1) .expr n = shp tk f (.level 1) n) := Lib.hid (by rfl)
  generalize hNN : w.heap.size = N at *
  go_enter Tryz.func60, Tryz.ntmps60
  go_wp2_with fail
  clear hNN
  generalize (w.alloc (.cells #[.int .i64 n.kind, .int .i64 n.fro, .int .i64 n.till, .int .i64 n.at', .string n.name, .slice ia n.kids.length ic] 24)) = w1 at *
  have HB0 := Lib.hid (Below.refl w1.heap.size w1)
  refine wp_region_held_drew (S := fun w' => w'.cell? ⟨N, 0, none⟩ = some (.int .i64 n.kind) ∧ w'.cell? ⟨N, 1, none⟩ = some (.int .i64 n.fro) ∧ w'.cell? ⟨N, 2, none⟩ = some (.int .i64 n.till) ∧ w'.cell? ⟨N, 3, none⟩ = some (.int .i64 n.at') ∧ w'.cell? ⟨N, 4, none⟩ = some (.string n.name) ∧ w'.cell? ⟨N, 5, none⟩ = some (.slice ia n.kids.length ic)) (by kernel_rfl) (six_keep HC0.out HB0.out.drew) (fun hHeld => ?_)
  refine wpAnyH_take (i := 1) (oi := ⟨some 4, _, _, _, _, _⟩) (v := ?_) rfl (by kernel_rfl) (by kernel_rfl) (by kernel_rfl) (fun _ _ _ h => h) (Or.inl ⟨by rfl, ?_⟩) hHeld ?_
  rotate_left
  · (intro W hSW; (try dsimp only at hSW); go_simp; first | done | with_reducible rfl)
  try simp only [Act.put, List.setIfInBounds_toArray, List.set_cons_zero, List.set_cons_succ]
  refine region_left (todo := [0, 2, 3]) (φ := fun i => Sp.holds (Fit O f 3) O (match i with | 0 => .fn (shp tk f (.level 1)) | 2 => .c (.bool ((shp tk f (.level 1)) n)) | 3 => .c (.bool ((shp tk f (.level 1)) n)) | _ => .any)) (by kernel_rfl) (fun i w w' v h hb => Sp.mono _ _ _ h hb) ?_ ⟨?_, ?_, ?_, trivial⟩ ?_
  · exact fun w' hb => ⟨cell_kept hHeld.1 rfl hb, cell_kept hHeld.2.1 rfl hb, cell_kept hHeld.2.2.1 rfl hb, cell_kept hHeld.2.2.2.1 rfl hb, cell_kept hHeld.2.2.2.2.1 rfl hb, cell_kept hHeld.2.2.2.2.2 rfl hb⟩
  · intro a w' hb hr hd
    clear hHeld
    refine rop_call (d := 3) (o := _) rfl rfl rfl (f := 68) (args := #[.int .i64 1]) (by go_simp) ?_
    exact Hlevel w' (keepF _ _ HFA.out (HB0.out.trans ((below_drew hb).mono HB0.out.size))) 1
  · intro a w' hb hr hd
    clear hHeld
    have p3 : FnV (Fit O f 3) w' (a.tmps.getD 3 undef) (shp tk f (.level 1)) := hd 0 (by kernel_rfl)
    obtain ⟨g3, cap3, e3, r3⟩ := id p3
    rw [e3] at p3
    have e3' := getD_q e3
    have e4 : a.tmps.getD 4 undef = .agg #[.int .i64 n.kind, .int .i64 n.fro, .int .i64 n.till, .int .i64 n.at', .string n.name, .slice ia n.kids.length ic] := hr 4 (by kernel_rfl)
    have e4' := getD_q e4
    have eg : ∀ (args : Array Value) (w : World), (callFunc g3 args).run Tryz.prog w = .ok (.enter g3 args) w := r3.1
    refine rop_call (d := 5) (o := _) rfl rfl rfl (f := g3) (args := #[.agg #[.int .i64 n.kind, .int .i64 n.fro, .int .i64 n.till, .int .i64 n.at', .string n.name, .slice ia n.kids.length ic]] ++ cap3) (by go_simp) ?_
    refine (r3.2 w' (Below.refl _ _) n _ (HK.out.same (by decide)) (HN.out.below (HB0.out.trans ((below_drew hb).mono HB0.out.size)))).mono ?_
    rintro e w'' ⟨rfl, hb'⟩
    exact ⟨_, rfl, rfl, hb'⟩
  · intro a w' hb hr hd
    clear hHeld
    have e5 : a.tmps.getD 5 undef = .bool ((shp tk f (.level 1)) n) := hd 2 (by kernel_rfl)
    have e5' := getD_q e5
    exact rop_val (d := 2) (o := _) rfl rfl rfl (v := .bool ((shp tk f (.level 1)) n)) (w' := w') (by go_simp) rfl (Below.refl _ _)
  · intro vs w' hb hφ
    have v2 : vs 2 = .bool ((shp tk f (.level 1)) n) := hφ.2.1
    have v3 : vs 3 = .bool ((shp tk f (.level 1)) n) := hφ.2.2.1
    clear hHeld hφ
    simp only [setAll, dstOf, List.getElem?_toArray, List.getElem?_cons_zero, List.getElem?_cons_succ, Option.bind_some, Option.getD_some, List.setIfInBounds_toArray, List.set_cons_zero, List.set_cons_succ]
    rw [v2, v3]
    have HB1 := Lib.hid (HB0.out.trans ((below_drew hb).mono HB0.out.size))
    clear hb
    obtain ⟨k0, k1, k2, k3, k4, k5⟩ := six_keep HC0.out HB1.out
    go_wp2_with fail
    clear k0 k1 k2 k3 k4 k5
    go_ret
    exact ⟨by rw [HSH.out]; rfl, hb0.out.trans (HB1.out.mono HSZ.out)⟩
set_option maxRecDepth 100000 in
set_option maxHeartbeats 2000000 in
theorem isPath_s (f : Nat) (keepF : ∀ w w', FAC w → Below w.heap.size w w' → FAC w') (Hident : SL FAC tk O f 54 .ident) (Hpath : SL FAC tk O f 69 .path) : CL FAC tk O (f + 1) 69 .path := by
  intro n nv w HFA0 hF hn
  obtain ⟨ia, ic, rfl, hcc, hk⟩ := hn.open
  have hb0 := Lib.hid (alloc_below w (.cells #[.int .i64 n.kind, .int .i64 n.fro, .int .i64 n.till, .int .i64 n.at', .string n.name, .slice ia n.kids.length ic] 24))
  have HSZ := Lib.hid hb0.out.size
  have HFA := Lib.hid (keepF _ _ HFA0 hb0.out)
  have HT := alloc_top w #[.int .i64 n.kind, .int .i64 n.fro, .int .i64 n.till, .int .i64 n.at', .string n.name, .slice ia n.kids.length ic] 24
  have HC0 := Lib.hid (six_cells HT)
  have HN := Lib.hid (NIn.shut (n := n) hcc (hk.below hb0.out))
  have HK := Lib.hid hF
  clear HT hk hn HFA0 hF hcc
  cases q164 : shp tk f .ident n with
  | true =>
    have HSH : Hid (shp tk (f + 1) .path n = true) := Lib.hid (by rw [shp, q164]; rfl)
    have Q164 := Lib.hid q164
    generalize hNN : w.heap.size = N at *
    go_enter Tryz.func69, Tryz.ntmps69
    go_wp2_with fail
    clear hNN
    generalize (w.alloc (.cells #[.int .i64 n.kind, .int .i64 n.fro, .int .i64 n.till, .int .i64 n.at', .string n.name, .slice ia n.kids.length ic] 24)) = w1 at *
    have HB0 := Lib.hid (Below.refl w1.heap.size w1)
    refine wp_region_held_drew (S := fun w' => w'.cell? ⟨N, 0, none⟩ = some (.int .i64 n.kind) ∧ w'.cell? ⟨N, 1, none⟩ = some (.int .i64 n.fro) ∧ w'.cell? ⟨N, 2, none⟩ = some (.int .i64 n.till) ∧ w'.cell? ⟨N, 3, none⟩ = some (.int .i64 n.at') ∧ w'.cell? ⟨N, 4, none⟩ = some (.string n.name) ∧ w'.cell? ⟨N, 5, none⟩ = some (.slice ia n.kids.length ic)) (by kernel_rfl) (six_keep HC0.out HB0.out.drew) (fun hHeld => ?_)
    refine wpAnyH_take (i := 0) (oi := ⟨some 3, _, _, _, _, _⟩) (v := ?_) rfl (by kernel_rfl) (by kernel_rfl) (by kernel_rfl) (fun _ _ _ h => h) (Or.inl ⟨by rfl, ?_⟩) hHeld ?_
    rotate_left
    · (intro W hSW; (try dsimp only at hSW); go_simp; first | done | with_reducible rfl)
    try simp only [Act.put, List.setIfInBounds_toArray, List.set_cons_zero, List.set_cons_succ]
    refine region_left (todo := [1, 2, 3, 4, 5, 6, 7, 8, 9, 10, 11, 12, 13, 14]) (φ := fun i => Sp.holds (DD O f) O (match i with | 1 => .c (.bool true) | 2 => .c (.bool true) | 3 => .c undef | 4 => .c undef | 5 => .c undef | 6 => .c undef | 7 => .c undef | 8 => .c undef | 9 => .c undef | 10 => .c undef | 11 => .c undef | 12 => .c undef | 13 => .c (.bool true) | 14 => .c (.bool true) | _ => .any)) (by kernel_rfl) (fun i w w' v h hb => Sp.mono _ _ _ h hb) ?_ ⟨?_, ?_, ?_, ?_, ?_, ?_, ?_, ?_, ?_, ?_, ?_, ?_, ?_, ?_, trivial⟩ ?_
    · exact fun w' hb => ⟨cell_kept hHeld.1 rfl hb, cell_kept hHeld.2.1 rfl hb, cell_kept hHeld.2.2.1 rfl hb, cell_kept hHeld.2.2.2.1 rfl hb, cell_kept hHeld.2.2.2.2.1 rfl hb, cell_kept hHeld.2.2.2.2.2 rfl hb⟩
    · intro a w' hb hr hd
      clear hHeld
      have e3 : a.tmps.getD 3 undef = .agg #[.int .i64 n.kind, .int .i64 n.fro, .int .i64 n.till, .int .i64 n.at', .string n.name, .slice ia n.kids.length ic] := hr 3 (by kernel_rfl)
      have e3' := getD_q e3
      refine rop_call (d := 4) (o := _) rfl rfl rfl (f := 54) (args := #[.agg #[.int .i64 n.kind, .int .i64 n.fro, .int .i64 n.till, .int .i64 n.at', .string n.name, .slice ia n.kids.length ic]]) (by go_simp) ?_
      refine (Hident.cl n _ w' (keepF _ _ HFA.out (HB0.out.trans ((below_drew hb).mono HB0.out.size))) (HK.out.same (by decide)) (HN.out.below (HB0.out.trans ((below_drew hb).mono HB0.out.size)))).mono ?_
      rintro e w'' ⟨rfl, hb'⟩
      exact ⟨_, rfl, by rw [Q164.out]; rfl, hb'⟩
    · intro a w' hb hr hd
      clear hHeld
      have e4 : a.tmps.getD 4 undef = .bool true := hd 1 (by kernel_rfl)
      have e4' := getD_q e4
      exact rop_val (d := 5) (o := _) rfl rfl rfl (v := .bool true) (w' := w') (by go_simp) rfl (Below.refl _ _)
    · intro a w' hb hr hd
      clear hHeld
      have hg : a.tmps.getD 5 undef = .bool true := hd 2 (by kernel_rfl)
      exact rop_skip (d := 6) (o := _) rfl rfl (unwanted_of rfl rfl hg (by decide)) rfl
    · intro a w' hb hr hd
      clear hHeld
      have hg : a.tmps.getD 5 undef = .bool true := hd 2 (by kernel_rfl)
      exact rop_skip (d := 7) (o := _) rfl rfl (unwanted_of rfl rfl hg (by decide)) rfl
    · intro a w' hb hr hd
      clear hHeld
      have hg : a.tmps.getD 5 undef = .bool true := hd 2 (by kernel_rfl)
      exact rop_skip (d := 8) (o := _) rfl rfl (unwanted_of rfl rfl hg (by decide)) rfl
    · intro a w' hb hr hd
      clear hHeld
      have hg : a.tmps.getD 5 undef = .bool true := hd 2 (by kernel_rfl)
      exact rop_skip (d := 9) (o := _) rfl rfl (unwanted_of rfl rfl hg (by decide)) rfl
    · intro a w' hb hr hd
      clear hHeld
      have hg : a.tmps.getD 9 undef = undef := hd 6 (by kernel_rfl)
      exact rop_skip (d := 10) (o := _) rfl rfl (unwanted_undef rfl rfl hg) rfl
    · intro a w' hb hr hd
      clear hHeld
      have hg : a.tmps.getD 9 undef = undef := hd 6 (by kernel_rfl)
      exact rop_skip (d := 11) (o := _) rfl rfl (unwanted_undef rfl rfl hg) rfl
    · intro a w' hb hr hd
      clear hHeld
      have hg : a.tmps.getD 9 undef = undef := hd 6 (by kernel_rfl)
      exact rop_skip (d := 12) (o := _) rfl rfl (unwanted_undef rfl rfl hg) rfl
    · intro a w' hb hr hd
      clear hHeld
      have hg : a.tmps.getD 9 undef = undef := hd 6 (by kernel_rfl)
      exact rop_skip (d := 13) (o := _) rfl rfl (unwanted_undef rfl rfl hg) rfl
    · intro a w' hb hr hd
      clear hHeld
      have hg : a.tmps.getD 9 undef = undef := hd 6 (by kernel_rfl)
      exact rop_skip (d := 14) (o := _) rfl rfl (unwanted_undef rfl rfl hg) rfl
    · intro a w' hb hr hd
      clear hHeld
      have hg : a.tmps.getD 5 undef = .bool true := hd 2 (by kernel_rfl)
      exact rop_skip (d := 15) (o := _) rfl rfl (unwanted_of rfl rfl hg (by decide)) rfl
    · intro a w' hb hr hd
      clear hHeld
      have e5 : a.tmps.getD 5 undef = .bool true := hd 2 (by kernel_rfl)
      have e5' := getD_q e5
      have e15 : a.tmps.getD 15 undef = undef := hd 12 (by kernel_rfl)
      have e15' := getD_q e15
      exact rop_val (d := 16) (o := _) rfl rfl rfl (v := .bool true) (w' := w') (by go_simp) rfl (Below.refl _ _)
    · intro a w' hb hr hd
      clear hHeld
      have e16 : a.tmps.getD 16 undef = .bool true := hd 13 (by kernel_rfl)
      have e16' := getD_q e16
      exact rop_val (d := 2) (o := _) rfl rfl rfl (v := .bool true) (w' := w') (by go_simp) rfl (Below.refl _ _)
    · intro vs w' hb hφ
      have v1 : vs 1 = .bool true := hφ.1
      have v2 : vs 2 = .bool true := hφ.2.1
      have v3 : vs 3 = undef := hφ.2.2.1
      have v4 : vs 4 = undef := hφ.2.2.2.1
      have v5 : vs 5 = undef := hφ.2.2.2.2.1
      have v6 : vs 6 = undef := hφ.2.2.2.2.2.1
      have v7 : vs 7 = undef := hφ.2.2.2.2.2.2.1
      have v8 : vs 8 = undef := hφ.2.2.2.2.2.2.2.1
      have v9 : vs 9 = undef := hφ.2.2.2.2.2.2.2.2.1
      have v10 : vs 10 = undef := hφ.2.2.2.2.2.2.2.2.2.1
      have v11 : vs 11 = undef := hφ.2.2.2.2.2.2.2.2.2.2.1
      have v12 : vs 12 = undef := hφ.2.2.2.2.2.2.2.2.2.2.2.1
      have v13 : vs 13 = .bool true := hφ.2.2.2.2.2.2.2.2.2.2.2.2.1
      have v14 : vs 14 = .bool true := hφ.2.2.2.2.2.2.2.2.2.2.2.2.2.1
      clear hHeld hφ
      simp only [setAll, dstOf, List.getElem?_toArray, List.getElem?_cons_zero, List.getElem?_cons_succ, Option.bind_some, Option.getD_some, List.setIfInBounds_toArray, List.set_cons_zero, List.set_cons_succ]
      rw [v1, v2, v3, v4, v5, v6, v7, v8, v9, v10, v11, v12, v13, v14]
      have HB1 := Lib.hid (HB0.out.trans ((below_drew hb).mono HB0.out.size))
      clear hb
      obtain ⟨k0, k1, k2, k3, k4, k5⟩ := six_keep HC0.out HB1.out
      go_wp2_with fail
      clear k0 k1 k2 k3 k4 k5
      go_ret
      exact ⟨by rw [HSH.out]; rfl, hb0.out.trans (HB1.out.mono HSZ.out)⟩
  | false =>
    by_cases hkd : n.kind = 26
    · skip
      have HSH : Hid (shp tk (f + 1) .path n = madeP n nmB [oneP [shp tk f .path]]) := Lib.hid (by rw [shp, q164, hkd]; rfl)
      have Q164 := Lib.hid q164
      clear q164
      generalize hNN : w.heap.size = N at *
      generalize n.kind = kd at *
      subst hkd
      go_enter Tryz.func69, Tryz.ntmps69
      go_wp2_with fail
      clear hNN
      generalize (w.alloc (.cells #[.int .i64 26, .int .i64 n.fro, .int .i64 n.till, .int .i64 n.at', .string n.name, .slice ia n.kids.length ic] 24)) = w1 at *
      have HB0 := Lib.hid (Below.refl w1.heap.size w1)
      refine wp_region_held_drew (S := fun w' => w'.cell? ⟨N, 0, none⟩ = some (.int .i64 26) ∧ w'.cell? ⟨N, 1, none⟩ = some (.int .i64 n.fro) ∧ w'.cell? ⟨N, 2, none⟩ = some (.int .i64 n.till) ∧ w'.cell? ⟨N, 3, none⟩ = some (.int .i64 n.at') ∧ w'.cell? ⟨N, 4, none⟩ = some (.string n.name) ∧ w'.cell? ⟨N, 5, none⟩ = some (.slice ia n.kids.length ic)) (by kernel_rfl) (six_keep HC0.out HB0.out.drew) (fun hHeld => ?_)
      refine wpAnyH_take (i := 0) (oi := ⟨some 3, _, _, _, _, _⟩) (v := ?_) rfl (by kernel_rfl) (by kernel_rfl) (by kernel_rfl) (fun _ _ _ h => h) (Or.inl ⟨by rfl, ?_⟩) hHeld ?_
      rotate_left
      · (intro W hSW; (try dsimp only at hSW); go_simp; first | done | with_reducible rfl)
      try simp only [Act.put, List.setIfInBounds_toArray, List.set_cons_zero, List.set_cons_succ]
      refine region_left (todo := [1, 2, 3, 4, 5, 6, 7, 8, 9, 10, 11, 12, 13, 14]) (φ := fun i => Sp.holds (DD O f) O (match i with | 1 => .c (.bool false) | 2 => .c (.bool false) | 3 => .c (.pointer (some ⟨N, 0, none⟩)) | 4 => .c (.int .i64 26) | 5 => .c (.bool true) | 6 => .c (.bool true) | 7 => .c (.agg #[.int .i64 26, .int .i64 n.fro, .int .i64 n.till, .int .i64 n.at', .string n.name, .slice ia n.kids.length ic]) | 8 => .frow [(shp tk f .path)] | 9 => .pt (oneP [(shp tk f .path)]) | 10 => .prow [(oneP [(shp tk f .path)])] | 11 => .c (.bool (madeP n nmB [(oneP [(shp tk f .path)])])) | 12 => .c (.bool (madeP n nmB [(oneP [(shp tk f .path)])])) | 13 => .c (.bool (madeP n nmB [(oneP [(shp tk f .path)])])) | 14 => .c (.bool (madeP n nmB [(oneP [(shp tk f .path)])])) | _ => .any)) (by kernel_rfl) (fun i w w' v h hb => Sp.mono _ _ _ h hb) ?_ ⟨?_, ?_, ?_, ?_, ?_, ?_, ?_, ?_, ?_, ?_, ?_, ?_, ?_, ?_, trivial⟩ ?_
      · exact fun w' hb => ⟨cell_kept hHeld.1 rfl hb, cell_kept hHeld.2.1 rfl hb, cell_kept hHeld.2.2.1 rfl hb, cell_kept hHeld.2.2.2.1 rfl hb, cell_kept hHeld.2.2.2.2.1 rfl hb, cell_kept hHeld.2.2.2.2.2 rfl hb⟩
      · intro a w' hb hr hd
        clear hHeld
        have e3 : a.tmps.getD 3 undef = .agg #[.int .i64 26, .int .i64 n.fro, .int .i64 n.till, .int .i64 n.at', .string n.name, .slice ia n.kids.length ic] := hr 3 (by kernel_rfl)
        have e3' := getD_q e3
        refine rop_call (d := 4) (o := _) rfl rfl rfl (f := 54) (args := #[.agg #[.int .i64 26, .int .i64 n.fro, .int .i64 n.till, .int .i64 n.at', .string n.name, .slice ia n.kids.length ic]]) (by go_simp) ?_
        refine (Hident.cl n _ w' (keepF _ _ HFA.out (HB0.out.trans ((below_drew hb).mono HB0.out.size))) (HK.out.same (by decide)) (HN.out.below (HB0.out.trans ((below_drew hb).mono HB0.out.size)))).mono ?_
        rintro e w'' ⟨rfl, hb'⟩
        exact ⟨_, rfl, by rw [Q164.out]; rfl, hb'⟩
      · intro a w' hb hr hd
        clear hHeld
        have e4 : a.tmps.getD 4 undef = .bool false := hd 1 (by kernel_rfl)
        have e4' := getD_q e4
        exact rop_val (d := 5) (o := _) rfl rfl rfl (v := .bool false) (w' := w') (by go_simp) rfl (Below.refl _ _)
      · intro a w' hb hr hd
        clear hHeld
        have hg : a.tmps.getD 5 undef = .bool false := hd 2 (by kernel_rfl)
        have e1 : a.tmps.getD 1 undef = .pointer (some ⟨N, 0, none⟩) := hr 1 (by kernel_rfl)
        have e1' := getD_q e1
        exact rop_val (d := 6) (o := _) rfl rfl (wanted_of rfl rfl hg) (v := .pointer (some ⟨N, 0, none⟩)) (w' := w') (by go_simp) rfl (Below.refl _ _)
      · intro a w' hb hr hd
        have hg : a.tmps.getD 5 undef = .bool false := hd 2 (by kernel_rfl)
        have e6 : a.tmps.getD 6 undef = .pointer (some ⟨N, 0, none⟩) := hd 3 (by kernel_rfl)
        have e6' := getD_q e6
        have hc0 : w'.cell? ⟨N, 0, none⟩ = some (.int .i64 26) := cell_kept hHeld.1 rfl hb
        have hc1 : w'.cell? ⟨N, 1, none⟩ = some (.int .i64 n.fro) := cell_kept hHeld.2.1 rfl hb
        have hc2 : w'.cell? ⟨N, 2, none⟩ = some (.int .i64 n.till) := cell_kept hHeld.2.2.1 rfl hb
        have hc3 : w'.cell? ⟨N, 3, none⟩ = some (.int .i64 n.at') := cell_kept hHeld.2.2.2.1 rfl hb
        have hc4 : w'.cell? ⟨N, 4, none⟩ = some (.string n.name) := cell_kept hHeld.2.2.2.2.1 rfl hb
        have hc5 : w'.cell? ⟨N, 5, none⟩ = some (.slice ia n.kids.length ic) := cell_kept hHeld.2.2.2.2.2 rfl hb
        exact rop_val (d := 7) (o := _) rfl rfl (wanted_of rfl rfl hg) (v := .int .i64 26) (w' := w') (by go_simp) rfl (Below.refl _ _)
      · intro a w' hb hr hd
        clear hHeld
        have hg : a.tmps.getD 5 undef = .bool false := hd 2 (by kernel_rfl)
        have e7 : a.tmps.getD 7 undef = .int .i64 26 := hd 4 (by kernel_rfl)
        have e7' := getD_q e7
        exact rop_val (d := 8) (o := _) rfl rfl (wanted_of rfl rfl hg) (v := .bool true) (w' := w') (by go_simp) rfl (Below.refl _ _)
      · intro a w' hb hr hd
        clear hHeld
        have hg : a.tmps.getD 5 undef = .bool false := hd 2 (by kernel_rfl)
        have e8 : a.tmps.getD 8 undef = .bool true := hd 5 (by kernel_rfl)
        have e8' := getD_q e8
        exact rop_val (d := 9) (o := _) rfl rfl (wanted_of rfl rfl hg) (v := .bool true) (w' := w') (by go_simp) rfl (Below.refl _ _)
      · intro a w' hb hr hd
        have hg : a.tmps.getD 9 undef = .bool true := hd 6 (by kernel_rfl)
        have e1 : a.tmps.getD 1 undef = .pointer (some ⟨N, 0, none⟩) := hr 1 (by kernel_rfl)
        have e1' := getD_q e1
        have hc0 : w'.cell? ⟨N, 0, none⟩ = some (.int .i64 26) := cell_kept hHeld.1 rfl hb
        have hc1 : w'.cell? ⟨N, 1, none⟩ = some (.int .i64 n.fro) := cell_kept hHeld.2.1 rfl hb
        have hc2 : w'.cell? ⟨N, 2, none⟩ = some (.int .i64 n.till) := cell_kept hHeld.2.2.1 rfl hb
        have hc3 : w'.cell? ⟨N, 3, none⟩ = some (.int .i64 n.at') := cell_kept hHeld.2.2.2.1 rfl hb
        have hc4 : w'.cell? ⟨N, 4, none⟩ = some (.string n.name) := cell_kept hHeld.2.2.2.2.1 rfl hb
        have hc5 : w'.cell? ⟨N, 5, none⟩ = some (.slice ia n.kids.length ic) := cell_kept hHeld.2.2.2.2.2 rfl hb
        exact rop_val (d := 10) (o := _) rfl rfl (wanted_of rfl rfl hg) (v := .agg #[.int .i64 26, .int .i64 n.fro, .int .i64 n.till, .int .i64 n.at', .string n.name, .slice ia n.kids.length ic]) (w' := w') (by go_simp) rfl (Below.refl _ _)
      · intro a w' hb hr hd
        clear hHeld
        have hg : a.tmps.getD 9 undef = .bool true := hd 6 (by kernel_rfl)
        refine rop_val (d := 11) (o := _) rfl rfl (wanted_of rfl rfl hg) (v := .slice (some ⟨w'.heap.size, 0, none⟩) 1 1) (w' := w'.alloc (.cells #[.func (.func 69) #[] #[]] 53)) (by go_simp) ?_ (alloc_below _ _)
        exact ⟨_, _, rfl, frow_of ⟨Hpath.sf _ (keepF _ _ HFA.out (HB0.out.trans ((below_drew hb).mono HB0.out.size))), trivial⟩⟩
      · intro a w' hb hr hd
        clear hHeld
        have hg : a.tmps.getD 9 undef = .bool true := hd 6 (by kernel_rfl)
        obtain ⟨A11, c11, e11, q11⟩ := hd 8 (by kernel_rfl)
        have e11 : a.tmps.getD 11 undef = .slice A11 1 c11 := e11
        have e11' := getD_q e11
        refine rop_call (d := 12) (o := _) rfl rfl (wanted_of rfl rfl hg) (f := 41) (args := #[.slice A11 1 c11]) (by go_simp) ?_
        exact one_any w' q11 (by simp) (by simp)
      · intro a w' hb hr hd
        clear hHeld
        have hg : a.tmps.getD 9 undef = .bool true := hd 6 (by kernel_rfl)
        have p12 : PtV (DD O f) w' (a.tmps.getD 12 undef) (oneP [(shp tk f .path)]) := hd 9 (by kernel_rfl)
        obtain ⟨hs12, g12, cap12, e12, r12⟩ := id p12
        rw [e12] at p12
        have e12' := getD_q e12
        refine rop_val (d := 13) (o := _) rfl rfl (wanted_of rfl rfl hg) (v := .slice (some ⟨w'.heap.size, 0, none⟩) 1 1) (w' := w'.alloc (.cells #[.func (.func g12) #[] cap12] 45)) (by go_simp) ?_ (alloc_below _ _)
        exact ⟨_, _, rfl, prow_of ⟨p12, trivial⟩⟩
      · intro a w' hb hr hd
        clear hHeld
        have hg : a.tmps.getD 9 undef = .bool true := hd 6 (by kernel_rfl)
        have e10 : a.tmps.getD 10 undef = .agg #[.int .i64 26, .int .i64 n.fro, .int .i64 n.till, .int .i64 n.at', .string n.name, .slice ia n.kids.length ic] := hd 7 (by kernel_rfl)
        have e10' := getD_q e10
        obtain ⟨A13, c13, e13, q13⟩ := hd 10 (by kernel_rfl)
        have e13 : a.tmps.getD 13 undef = .slice A13 1 c13 := e13
        have e13' := getD_q e13
        refine rop_call (d := 14) (o := _) rfl rfl (wanted_of rfl rfl hg) (f := 27) (args := #[.agg #[.int .i64 26, .int .i64 n.fro, .int .i64 n.till, .int .i64 n.at', .string n.name, .slice ia n.kids.length ic], .func (.func 28) #[] #[], .slice A13 1 c13]) (by go_simp) ?_
        refine (made_any (D := DD O f) (ps := [(oneP [(shp tk f .path)])]) w' (nm_name O w') q13 HK.out.lim.2.2 HK.out.lim.1 HK.out.kid HK.out.lim.2.1 (by simp) (HN.out.below (HB0.out.trans ((below_drew hb).mono HB0.out.size)))).mono ?_
        rintro e w'' ⟨rfl, hb'⟩
        exact ⟨_, rfl, rfl, hb'⟩
      · intro a w' hb hr hd
        clear hHeld
        have hg : a.tmps.getD 5 undef = .bool false := hd 2 (by kernel_rfl)
        have e9 : a.tmps.getD 9 undef = .bool true := hd 6 (by kernel_rfl)
        have e9' := getD_q e9
        have e14 : a.tmps.getD 14 undef = .bool (madeP n nmB [(oneP [(shp tk f .path)])]) := hd 11 (by kernel_rfl)
        have e14' := getD_q e14
        exact rop_val (d := 15) (o := _) rfl rfl (wanted_of rfl rfl hg) (v := .bool (madeP n nmB [(oneP [(shp tk f .path)])])) (w' := w') (by go_simp) rfl (Below.refl _ _)
      · intro a w' hb hr hd
        clear hHeld
        have e5 : a.tmps.getD 5 undef = .bool false := hd 2 (by kernel_rfl)
        have e5' := getD_q e5
        have e15 : a.tmps.getD 15 undef = .bool (madeP n nmB [(oneP [(shp tk f .path)])]) := hd 12 (by kernel_rfl)
        have e15' := getD_q e15
        exact rop_val (d := 16) (o := _) rfl rfl rfl (v := .bool (madeP n nmB [(oneP [(shp tk f .path)])])) (w' := w') (by go_simp) rfl (Below.refl _ _)
      · intro a w' hb hr hd
        clear hHeld
        have e16 : a.tmps.getD 16 undef = .bool (madeP n nmB [(oneP [(shp tk f .path)])]) := hd 13 (by kernel_rfl)
        have e16' := getD_q e16
        exact rop_val (d := 2) (o := _) rfl rfl rfl (v := .bool (madeP n nmB [(oneP [(shp tk f .path)])])) (w' := w') (by go_simp) rfl (Below.refl _ _)
      · intro vs w' hb hφ
        have v1 : vs 1 = .bool false := hφ.1
        have v2 : vs 2 = .bool false := hφ.2.1
        have v3 : vs 3 = .pointer (some ⟨N, 0, none⟩) := hφ.2.2.1
        have v4 : vs 4 = .int .i64 26 := hφ.2.2.2.1
        have v5 : vs 5 = .bool true := hφ.2.2.2.2.1
        have v6 : vs 6 = .bool true := hφ.2.2.2.2.2.1
        have v7 : vs 7 = .agg #[.int .i64 26, .int .i64 n.fro, .int .i64 n.till, .int .i64 n.at', .string n.name, .slice ia n.kids.length ic] := hφ.2.2.2.2.2.2.1
        have v11 : vs 11 = .bool (madeP n nmB [(oneP [(shp tk f .path)])]) := hφ.2.2.2.2.2.2.2.2.2.2.1
        have v12 : vs 12 = .bool (madeP n nmB [(oneP [(shp tk f .path)])]) := hφ.2.2.2.2.2.2.2.2.2.2.2.1
        have v13 : vs 13 = .bool (madeP n nmB [(oneP [(shp tk f .path)])]) := hφ.2.2.2.2.2.2.2.2.2.2.2.2.1
        have v14 : vs 14 = .bool (madeP n nmB [(oneP [(shp tk f .path)])]) := hφ.2.2.2.2.2.2.2.2.2.2.2.2.2.1
        clear hHeld hφ
        simp only [setAll, dstOf, List.getElem?_toArray, List.getElem?_cons_zero, List.getElem?_cons_succ, Option.bind_some, Option.getD_some, List.setIfInBounds_toArray, List.set_cons_zero, List.set_cons_succ]
        rw [v1, v2, v3, v4, v5, v6, v7, v11, v12, v13, v14]
        have HB1 := Lib.hid (HB0.out.trans ((below_drew hb).mono HB0.out.size))
        clear hb
        obtain ⟨k0, k1, k2, k3, k4, k5⟩ := six_keep HC0.out HB1.out
        go_wp2_with fail
        clear k0 k1 k2 k3 k4 k5
        go_ret
        exact ⟨by rw [HSH.out]; rfl, hb0.out.trans (HB1.out.mono HSZ.out)⟩
    · skip
      have HSH : Hid (shp tk (f + 1) .path n = false) := Lib.hid (by rw [shp, q164]; simp [hkd])
      have Q164 := Lib.hid q164
      have hkd' : (n.kind == 26) = false := by simpa using hkd
      clear hkd q164
      generalize hNN : w.heap.size = N at *
      go_enter Tryz.func69, Tryz.ntmps69
      go_wp2_with fail
      clear hNN
      generalize (w.alloc (.cells #[.int .i64 n.kind, .int .i64 n.fro, .int .i64 n.till, .int .i64 n.at', .string n.name, .slice ia n.kids.length ic] 24)) = w1 at *
      have HB0 := Lib.hid (Below.refl w1.heap.size w1)
      refine wp_region_held_drew (S := fun w' => w'.cell? ⟨N, 0, none⟩ = some (.int .i64 n.kind) ∧ w'.cell? ⟨N, 1, none⟩ = some (.int .i64 n.fro) ∧ w'.cell? ⟨N, 2, none⟩ = some (.int .i64 n.till) ∧ w'.cell? ⟨N, 3, none⟩ = some (.int .i64 n.at') ∧ w'.cell? ⟨N, 4, none⟩ = some (.string n.name) ∧ w'.cell? ⟨N, 5, none⟩ = some (.slice ia n.kids.length ic)) (by kernel_rfl) (six_keep HC0.out HB0.out.drew) (fun hHeld => ?_)
      refine wpAnyH_take (i := 0) (oi := ⟨some 3, _, _, _, _, _⟩) (v := ?_) rfl (by kernel_rfl) (by kernel_rfl) (by kernel_rfl) (fun _ _ _ h => h) (Or.inl ⟨by rfl, ?_⟩) hHeld ?_
      rotate_left
      · (intro W hSW; (try dsimp only at hSW); go_simp; first | done | with_reducible rfl)
      try simp only [Act.put, List.setIfInBounds_toArray, List.set_cons_zero, List.set_cons_succ]
      refine region_left (todo := [1, 2, 3, 4, 5, 6, 7, 8, 9, 10, 11, 12, 13, 14]) (φ := fun i => Sp.holds (DD O f) O (match i with | 1 => .c (.bool false) | 2 => .c (.bool false) | 3 => .c (.pointer (some ⟨N, 0, none⟩)) | 4 => .c (.int .i64 n.kind) | 5 => .c (.bool false) | 6 => .c (.bool false) | 7 => .c undef | 8 => .c undef | 9 => .c undef | 10 => .c undef | 11 => .c undef | 12 => .c (.bool false) | 13 => .c (.bool false) | 14 => .c (.bool false) | _ => .any)) (by kernel_rfl) (fun i w w' v h hb => Sp.mono _ _ _ h hb) ?_ ⟨?_, ?_, ?_, ?_, ?_, ?_, ?_, ?_, ?_, ?_, ?_, ?_, ?_, ?_, trivial⟩ ?_
      · exact fun w' hb => ⟨cell_kept hHeld.1 rfl hb, cell_kept hHeld.2.1 rfl hb, cell_kept hHeld.2.2.1 rfl hb, cell_kept hHeld.2.2.2.1 rfl hb, cell_kept hHeld.2.2.2.2.1 rfl hb, cell_kept hHeld.2.2.2.2.2 rfl hb⟩
      · intro a w' hb hr hd
        clear hHeld
        have e3 : a.tmps.getD 3 undef = .agg #[.int .i64 n.kind, .int .i64 n.fro, .int .i64 n.till, .int .i64 n.at', .string n.name, .slice ia n.kids.length ic] := hr 3 (by kernel_rfl)
        have e3' := getD_q e3
        refine rop_call (d := 4) (o := _) rfl rfl rfl (f := 54) (args := #[.agg #[.int .i64 n.kind, .int .i64 n.fro, .int .i64 n.till, .int .i64 n.at', .string n.name, .slice ia n.kids.length ic]]) (by go_simp) ?_
        refine (Hident.cl n _ w' (keepF _ _ HFA.out (HB0.out.trans ((below_drew hb).mono HB0.out.size))) (HK.out.same (by decide)) (HN.out.below (HB0.out.trans ((below_drew hb).mono HB0.out.size)))).mono ?_
        rintro e w'' ⟨rfl, hb'⟩
        exact ⟨_, rfl, by rw [Q164.out]; rfl, hb'⟩
      · intro a w' hb hr hd
        clear hHeld
        have e4 : a.tmps.getD 4 undef = .bool false := hd 1 (by kernel_rfl)
        have e4' := getD_q e4
        exact rop_val (d := 5) (o := _) rfl rfl rfl (v := .bool false) (w' := w') (by go_simp) rfl (Below.refl _ _)
      · intro a w' hb hr hd
        clear hHeld
        have hg : a.tmps.getD 5 undef = .bool false := hd 2 (by kernel_rfl)
        have e1 : a.tmps.getD 1 undef = .pointer (some ⟨N, 0, none⟩) := hr 1 (by kernel_rfl)
        have e1' := getD_q e1
        exact rop_val (d := 6) (o := _) rfl rfl (wanted_of rfl rfl hg) (v := .pointer (some ⟨N, 0, none⟩)) (w' := w') (by go_simp) rfl (Below.refl _ _)
      · intro a w' hb hr hd
        have hg : a.tmps.getD 5 undef = .bool false := hd 2 (by kernel_rfl)
        have e6 : a.tmps.getD 6 undef = .pointer (some ⟨N, 0, none⟩) := hd 3 (by kernel_rfl)
        have e6' := getD_q e6
        have hc0 : w'.cell? ⟨N, 0, none⟩ = some (.int .i64 n.kind) := cell_kept hHeld.1 rfl hb
        have hc1 : w'.cell? ⟨N, 1, none⟩ = some (.int .i64 n.fro) := cell_kept hHeld.2.1 rfl hb
        have hc2 : w'.cell? ⟨N, 2, none⟩ = some (.int .i64 n.till) := cell_kept hHeld.2.2.1 rfl hb
        have hc3 : w'.cell? ⟨N, 3, none⟩ = some (.int .i64 n.at') := cell_kept hHeld.2.2.2.1 rfl hb
        have hc4 : w'.cell? ⟨N, 4, none⟩ = some (.string n.name) := cell_kept hHeld.2.2.2.2.1 rfl hb
        have hc5 : w'.cell? ⟨N, 5, none⟩ = some (.slice ia n.kids.length ic) := cell_kept hHeld.2.2.2.2.2 rfl hb
        exact rop_val (d := 7) (o := _) rfl rfl (wanted_of rfl rfl hg) (v := .int .i64 n.kind) (w' := w') (by go_simp) rfl (Below.refl _ _)
      · intro a w' hb hr hd
        clear hHeld
        have hg : a.tmps.getD 5 undef = .bool false := hd 2 (by kernel_rfl)
        have e7 : a.tmps.getD 7 undef = .int .i64 n.kind := hd 4 (by kernel_rfl)
        have e7' := getD_q e7
        exact rop_val (d := 8) (o := _) rfl rfl (wanted_of rfl rfl hg) (v := .bool false) (w' := w') (by go_simp) rfl (Below.refl _ _)
      · intro a w' hb hr hd
        clear hHeld
        have hg : a.tmps.getD 5 undef = .bool false := hd 2 (by kernel_rfl)
        have e8 : a.tmps.getD 8 undef = .bool false := hd 5 (by kernel_rfl)
        have e8' := getD_q e8
        exact rop_val (d := 9) (o := _) rfl rfl (wanted_of rfl rfl hg) (v := .bool false) (w' := w') (by go_simp) rfl (Below.refl _ _)
      · intro a w' hb hr hd
        clear hHeld
        have hg : a.tmps.getD 9 undef = .bool false := hd 6 (by kernel_rfl)
        exact rop_skip (d := 10) (o := _) rfl rfl (unwanted_of rfl rfl hg (by decide)) rfl
      · intro a w' hb hr hd
        clear hHeld
        have hg : a.tmps.getD 9 undef = .bool false := hd 6 (by kernel_rfl)
        exact rop_skip (d := 11) (o := _) rfl rfl (unwanted_of rfl rfl hg (by decide)) rfl
      · intro a w' hb hr hd
        clear hHeld
        have hg : a.tmps.getD 9 undef = .bool false := hd 6 (by kernel_rfl)
        exact rop_skip (d := 12) (o := _) rfl rfl (unwanted_of rfl rfl hg (by decide)) rfl
      · intro a w' hb hr hd
        clear hHeld
        have hg : a.tmps.getD 9 undef = .bool false := hd 6 (by kernel_rfl)
        exact rop_skip (d := 13) (o := _) rfl rfl (unwanted_of rfl rfl hg (by decide)) rfl
      · intro a w' hb hr hd
        clear hHeld
        have hg : a.tmps.getD 9 undef = .bool false := hd 6 (by kernel_rfl)
        exact rop_skip (d := 14) (o := _) rfl rfl (unwanted_of rfl rfl hg (by decide)) rfl
      · intro a w' hb hr hd
        clear hHeld
        have hg : a.tmps.getD 5 undef = .bool false := hd 2 (by kernel_rfl)
        have e9 : a.tmps.getD 9 undef = .bool false := hd 6 (by kernel_rfl)
        have e9' := getD_q e9
        have e14 : a.tmps.getD 14 undef = undef := hd 11 (by kernel_rfl)
        have e14' := getD_q e14
        exact rop_val (d := 15) (o := _) rfl rfl (wanted_of rfl rfl hg) (v := .bool false) (w' := w') (by go_simp) rfl (Below.refl _ _)
      · intro a w' hb hr hd
        clear hHeld
        have e5 : a.tmps.getD 5 undef = .bool false := hd 2 (by kernel_rfl)
        have e5' := getD_q e5
        have e15 : a.tmps.getD 15 undef = .bool false := hd 12 (by kernel_rfl)
        have e15' := getD_q e15
        exact rop_val (d := 16) (o := _) rfl rfl rfl (v := .bool false) (w' := w') (by go_simp) rfl (Below.refl _ _)
      · intro a w' hb hr hd
        clear hHeld
        have e16 : a.tmps.getD 16 undef = .bool false := hd 13 (by kernel_rfl)
        have e16' := getD_q e16
        exact rop_val (d := 2) (o := _) rfl rfl rfl (v := .bool false) (w' := w') (by go_simp) rfl (Below.refl _ _)
      · intro vs w' hb hφ
        have v1 : vs 1 = .bool false := hφ.1
        have v2 : vs 2 = .bool false := hφ.2.1
        have v3 : vs 3 = .pointer (some ⟨N, 0, none⟩) := hφ.2.2.1
        have v4 : vs 4 = .int .i64 n.kind := hφ.2.2.2.1
        have v5 : vs 5 = .bool false := hφ.2.2.2.2.1
        have v6 : vs 6 = .bool false := hφ.2.2.2.2.2.1
        have v7 : vs 7 = undef := hφ.2.2.2.2.2.2.1
        have v8 : vs 8 = undef := hφ.2.2.2.2.2.2.2.1
        have v9 : vs 9 = undef := hφ.2.2.2.2.2.2.2.2.1
        have v10 : vs 10 = undef := hφ.2.2.2.2.2.2.2.2.2.1
        have v11 : vs 11 = undef := hφ.2.2.2.2.2.2.2.2.2.2.1
        have v12 : vs 12 = .bool false := hφ.2.2.2.2.2.2.2.2.2.2.2.1
        have v13 : vs 13 = .bool false := hφ.2.2.2.2.2.2.2.2.2.2.2.2.1
        have v14 : vs 14 = .bool false := hφ.2.2.2.2.2.2.2.2.2.2.2.2.2.1
        clear hHeld hφ
        simp only [setAll, dstOf, List.getElem?_toArray, List.getElem?_cons_zero, List.getElem?_cons_succ, Option.bind_some, Option.getD_some, List.setIfInBounds_toArray, List.set_cons_zero, List.set_cons_succ]
        rw [v1, v2, v3, v4, v5, v6, v7, v8, v9, v10, v11, v12, v13, v14]
        have HB1 := Lib.hid (HB0.out.trans ((below_drew hb).mono HB0.out.size))
        clear hb
        obtain ⟨k0, k1, k2, k3, k4, k5⟩ := six_keep HC0.out HB1.out
        go_wp2_with fail
        clear k0 k1 k2 k3 k4 k5
        go_ret
        exact ⟨by rw [HSH.out]; rfl, hb0.out.trans (HB1.out.mono HSZ.out)⟩
end Go.Proofs.YtkpddjbdmjbefaaGreatDoor
