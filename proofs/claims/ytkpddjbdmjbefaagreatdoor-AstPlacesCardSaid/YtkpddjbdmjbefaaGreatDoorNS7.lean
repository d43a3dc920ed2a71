/-
  ast shapes: fields and params. (Written by wip/tools/genshape10.py.)
-/
import Derived.Test.YtkpddjbdmjbefaaGreatDoorNSBase
namespace Go.Proofs.YtkpddjbdmjbefaaGreatDoor
open Go.RowKit
variable {tk : Int → ByteArray → Bool} {O : ByteArray → Prop} {FAC : World → Prop}
set_option maxRecDepth 100000 in
set_option maxHeartbeats 2000000 in
theorem typed1_s (f : Nat) (keepF : ∀ w w', FAC w → Below w.heap.size w w' → FAC w') (k : Int) (own : Bool) (Bk Bs : Nat) (gs : FuncId) (caps : Array Value) (n : Nd) (nv : Value) (w : World) (HFA0 : FAC w) (hF : Fit O (f + 1) 0 n) (hn : NIn w TT n nv) (hBk : w.cell? ⟨Bk, 0, none⟩ = some (.int .i64 k)) (hBs : w.cell? ⟨Bs, 0, none⟩ = some (.func (.func gs) #[] caps)) (hfs : FnV (DD O f) w (.func (.func gs) #[] caps) (shp tk f (if own then .own else .ty))) : Calls Tryz.prog 46 #[nv, .pointer (some ⟨Bk, 0, none⟩), .pointer (some ⟨Bs, 0, none⟩)] w fun e w' => e = .returned (.bool (shp tk (f + 1) (.typed k own) n)) ∧ Below w.heap.size w w' := by
  skip
  obtain ⟨ia, ic, rfl, hcc, hk⟩ := hn.open
  have hb0 := Lib.hid (alloc_below w (.cells #[.int .i64 n.kind, .int .i64 n.fro, .int .i64 n.till, .int .i64 n.at', .string n.name, .slice ia n.kids.length ic] 24))
  have HSZ := Lib.hid hb0.out.size
  have HFA := Lib.hid (keepF _ _ HFA0 hb0.out)
  have HT := alloc_top w #[.int .i64 n.kind, .int .i64 n.fro, .int .i64 n.till, .int .i64 n.at', .string n.name, .slice ia n.kids.length ic] 24
  have HC0 := Lib.hid (six_cells HT)
  have HN := Lib.hid (NIn.shut (n := n) hcc (hk.below hb0.out))
  have HK := Lib.hid hF
  clear HT hk hn HFA0 hF hcc
  have HX0 := Lib.hid (cell_kept hBk rfl hb0.out)
  have HX1 := Lib.hid (cell_kept hBs rfl hb0.out)
  have HFS := Lib.hid (hfs.below hb0.out)
  clear hBk hBs hfs
  have HTY : Hid (shp tk (f + 1) (.typed k own) n = (n.kind == k && madeP n nmB [oneP [shp tk f (if own then .own else .ty)]])) := Lib.hid rfl
  generalize shp tk f (if own then Sc.own else Sc.ty) = σ at *
  by_cases hkd : n.kind = k
  · skip
    have HSH : Hid (shp tk (f + 1) (.typed k own) n = madeP n nmB [oneP [σ]]) := Lib.hid (by rw [HTY.out, hkd]; simp)
    clear HTY
    generalize hNN : w.heap.size = N at *
    generalize n.kind = kd at *
    subst hkd
    go_enter Tryz.func46, Tryz.ntmps46
    go_wp2_with fail
    clear hNN
    generalize (w.alloc (.cells #[.int .i64 kd, .int .i64 n.fro, .int .i64 n.till, .int .i64 n.at', .string n.name, .slice ia n.kids.length ic] 24)) = w1 at *
    have HB0 := Lib.hid (Below.refl w1.heap.size w1)
    refine wp_region_held_drew (S := fun w' => w'.cell? ⟨N, 0, none⟩ = some (.int .i64 kd) ∧ w'.cell? ⟨N, 1, none⟩ = some (.int .i64 n.fro) ∧ w'.cell? ⟨N, 2, none⟩ = some (.int .i64 n.till) ∧ w'.cell? ⟨N, 3, none⟩ = some (.int .i64 n.at') ∧ w'.cell? ⟨N, 4, none⟩ = some (.string n.name) ∧ w'.cell? ⟨N, 5, none⟩ = some (.slice ia n.kids.length ic) ∧ w'.cell? ⟨Bk, 0, none⟩ = some (.int .i64 kd) ∧ w'.cell? ⟨Bs, 0, none⟩ = some (.func (.func gs) #[] caps)) (by kernel_rfl) ⟨(six_keep HC0.out HB0.out.drew).1, (six_keep HC0.out HB0.out.drew).2.1, (six_keep HC0.out HB0.out.drew).2.2.1, (six_keep HC0.out HB0.out.drew).2.2.2.1, (six_keep HC0.out HB0.out.drew).2.2.2.2.1, (six_keep HC0.out HB0.out.drew).2.2.2.2.2, cell_kept HX0.out rfl HB0.out.drew, cell_kept HX1.out rfl HB0.out.drew⟩ (fun hHeld => ?_)
    refine wpAnyH_take (i := 0) (oi := ⟨some 5, _, _, _, _, _⟩) (v := ?_) rfl (by kernel_rfl) (by kernel_rfl) (by kernel_rfl) (fun _ _ _ h => h) (Or.inl ⟨by rfl, ?_⟩) hHeld ?_
    rotate_left
    · (intro W hSW; (try dsimp only at hSW); go_simp; first | done | with_reducible rfl)
    try simp only [Act.put, List.setIfInBounds_toArray, List.set_cons_zero, List.set_cons_succ]
    refine wpAnyH_take (i := 1) (oi := ⟨some 6, _, _, _, _, _⟩) (v := ?_) rfl (by kernel_rfl) (by kernel_rfl) (by kernel_rfl) (fun _ _ _ h => h) (Or.inl ⟨by rfl, ?_⟩) hHeld ?_
    rotate_left
    · (intro W hSW; (try dsimp only at hSW); go_simp; first | done | with_reducible rfl)
    try simp only [Act.put, List.setIfInBounds_toArray, List.set_cons_zero, List.set_cons_succ]
    refine wpAnyH_take (i := 2) (oi := ⟨some 7, _, _, _, _, _⟩) (v := ?_) rfl (by kernel_rfl) (by kernel_rfl) (by kernel_rfl) (fun _ _ _ h => h) (Or.inl ⟨by rfl, ?_⟩) hHeld ?_
    rotate_left
    · (intro W hSW; (try dsimp only at hSW); go_simp; first | done | with_reducible rfl)
    try simp only [Act.put, List.setIfInBounds_toArray, List.set_cons_zero, List.set_cons_succ]
    refine wpAnyH_take (i := 3) (oi := ⟨some 8, _, _, _, _, _⟩) (v := ?_) rfl (by kernel_rfl) (by kernel_rfl) (by kernel_rfl) (fun _ _ _ h => h) (Or.inl ⟨by rfl, ?_⟩) hHeld ?_
    rotate_left
    · (intro W hSW; (try dsimp only at hSW); go_simp; first | done | with_reducible rfl)
    try simp only [Act.put, List.setIfInBounds_toArray, List.set_cons_zero, List.set_cons_succ]
    refine wpAnyH_take (i := 4) (oi := ⟨some 9, _, _, _, _, _⟩) (v := ?_) rfl (by kernel_rfl) (by kernel_rfl) (by kernel_rfl) (fun _ _ _ h => h) (Or.inl ⟨by rfl, ?_⟩) hHeld ?_
    rotate_left
    · (intro W hSW; (try dsimp only at hSW); go_simp; first | done | with_reducible rfl)
    try simp only [Act.put, List.setIfInBounds_toArray, List.set_cons_zero, List.set_cons_succ]
    refine wpAnyH_take (i := 5) (oi := ⟨some 10, _, _, _, _, _⟩) (v := ?_) rfl (by kernel_rfl) (by kernel_rfl) (by kernel_rfl) (fun _ _ _ h => h) (Or.inl ⟨by rfl, ?_⟩) hHeld ?_
    rotate_left
    · (intro W hSW; (try dsimp only at hSW); go_simp; first | done | with_reducible rfl)
    try simp only [Act.put, List.setIfInBounds_toArray, List.set_cons_zero, List.set_cons_succ]
    refine wpAnyH_take (i := 6) (oi := ⟨some 11, _, _, _, _, _⟩) (v := ?_) rfl (by kernel_rfl) (by kernel_rfl) (by kernel_rfl) (fun _ _ _ h => h) (Or.inl ⟨by rfl, ?_⟩) hHeld ?_
    rotate_left
    · (intro W hSW; (try dsimp only at hSW); go_simp; first | done | with_reducible rfl)
    try simp only [Act.put, List.setIfInBounds_toArray, List.set_cons_zero, List.set_cons_succ]
    refine region_left (todo := [7, 8, 9, 10, 11, 12]) (φ := fun i => Sp.holds (DD O f) O (match i with | 7 => .frow [σ] | 8 => .pt (oneP [σ]) | 9 => .prow [(oneP [σ])] | 10 => .c (.bool (madeP n nmB [(oneP [σ])])) | 11 => .c (.bool (madeP n nmB [(oneP [σ])])) | 12 => .c (.bool (madeP n nmB [(oneP [σ])])) | _ => .any)) (by kernel_rfl) (fun i w w' v h hb => Sp.mono _ _ _ h hb) ?_ ⟨?_, ?_, ?_, ?_, ?_, ?_, trivial⟩ ?_
    · exact fun w' hb => ⟨cell_kept hHeld.1 rfl hb, cell_kept hHeld.2.1 rfl hb, cell_kept hHeld.2.2.1 rfl hb, cell_kept hHeld.2.2.2.1 rfl hb, cell_kept hHeld.2.2.2.2.1 rfl hb, cell_kept hHeld.2.2.2.2.2.1 rfl hb, cell_kept hHeld.2.2.2.2.2.2.1 rfl hb, cell_kept hHeld.2.2.2.2.2.2.2 rfl hb⟩
    · intro a w' hb hr hd
      clear hHeld
      have hg : a.tmps.getD 9 undef = .bool true := hr 9 (by kernel_rfl)
      have e11 := hr 11 (by kernel_rfl)
      have p11 : FnV (DD O f) w' (a.tmps.getD 11 undef) σ := by rw [e11]; exact (HFS.out.below (below_drew hb))
      clear e11
      obtain ⟨g11, cap11, e11, r11⟩ := id p11
      rw [e11] at p11
      have e11' := getD_q e11
      refine rop_val (d := 12) (o := _) rfl rfl (wanted_of rfl rfl hg) (v := .slice (some ⟨w'.heap.size, 0, none⟩) 1 1) (w' := w'.alloc (.cells #[.func (.func g11) #[] cap11] 53)) (by go_simp) ?_ (alloc_below _ _)
      exact ⟨_, _, rfl, frow_of ⟨p11, trivial⟩⟩
    · intro a w' hb hr hd
      clear hHeld
      have hg : a.tmps.getD 9 undef = .bool true := hr 9 (by kernel_rfl)
      obtain ⟨A12, c12, e12, q12⟩ := hd 7 (by kernel_rfl)
      have e12 : a.tmps.getD 12 undef = .slice A12 1 c12 := e12
      have e12' := getD_q e12
      refine rop_call (d := 13) (o := _) rfl rfl (wanted_of rfl rfl hg) (f := 41) (args := #[.slice A12 1 c12]) (by go_simp) ?_
      exact one_any w' q12 (by simp) (by simp)
    · intro a w' hb hr hd
      clear hHeld
      have hg : a.tmps.getD 9 undef = .bool true := hr 9 (by kernel_rfl)
      have p13 : PtV (DD O f) w' (a.tmps.getD 13 undef) (oneP [σ]) := hd 8 (by kernel_rfl)
      obtain ⟨hs13, g13, cap13, e13, r13⟩ := id p13
      rw [e13] at p13
      have e13' := getD_q e13
      refine rop_val (d := 14) (o := _) rfl rfl (wanted_of rfl rfl hg) (v := .slice (some ⟨w'.heap.size, 0, none⟩) 1 1) (w' := w'.alloc (.cells #[.func (.func g13) #[] cap13] 45)) (by go_simp) ?_ (alloc_below _ _)
      exact ⟨_, _, rfl, prow_of ⟨p13, trivial⟩⟩
    · intro a w' hb hr hd
      clear hHeld
      have hg : a.tmps.getD 9 undef = .bool true := hr 9 (by kernel_rfl)
      have e10 : a.tmps.getD 10 undef = .agg #[.int .i64 kd, .int .i64 n.fro, .int .i64 n.till, .int .i64 n.at', .string n.name, .slice ia n.kids.length ic] := hr 10 (by kernel_rfl)
      have e10' := getD_q e10
      obtain ⟨A14, c14, e14, q14⟩ := hd 9 (by kernel_rfl)
      have e14 : a.tmps.getD 14 undef = .slice A14 1 c14 := e14
      have e14' := getD_q e14
      refine rop_call (d := 15) (o := _) rfl rfl (wanted_of rfl rfl hg) (f := 27) (args := #[.agg #[.int .i64 kd, .int .i64 n.fro, .int .i64 n.till, .int .i64 n.at', .string n.name, .slice ia n.kids.length ic], .func (.func 28) #[] #[], .slice A14 1 c14]) (by go_simp) ?_
      refine (made_any (D := DD O f) (ps := [(oneP [σ])]) w' (nm_name O w') q14 HK.out.lim.2.2 HK.out.lim.1 HK.out.kid HK.out.lim.2.1 (by simp) (HN.out.below (HB0.out.trans ((below_drew hb).mono HB0.out.size)))).mono ?_
      rintro e w'' ⟨rfl, hb'⟩
      exact ⟨_, rfl, rfl, hb'⟩
    · intro a w' hb hr hd
      clear hHeld
      have e9 : a.tmps.getD 9 undef = .bool true := hr 9 (by kernel_rfl)
      have e9' := getD_q e9
      have e15 : a.tmps.getD 15 undef = .bool (madeP n nmB [(oneP [σ])]) := hd 10 (by kernel_rfl)
      have e15' := getD_q e15
      exact rop_val (d := 16) (o := _) rfl rfl rfl (v := .bool (madeP n nmB [(oneP [σ])])) (w' := w') (by go_simp) rfl (Below.refl _ _)
    · intro a w' hb hr hd
      clear hHeld
      have e16 : a.tmps.getD 16 undef = .bool (madeP n nmB [(oneP [σ])]) := hd 11 (by kernel_rfl)
      have e16' := getD_q e16
      exact rop_val (d := 4) (o := _) rfl rfl rfl (v := .bool (madeP n nmB [(oneP [σ])])) (w' := w') (by go_simp) rfl (Below.refl _ _)
    · intro vs w' hb hφ
      have v10 : vs 10 = .bool (madeP n nmB [(oneP [σ])]) := hφ.2.2.2.1
      have v11 : vs 11 = .bool (madeP n nmB [(oneP [σ])]) := hφ.2.2.2.2.1
      have v12 : vs 12 = .bool (madeP n nmB [(oneP [σ])]) := hφ.2.2.2.2.2.1
      clear hHeld hφ
      simp only [setAll, dstOf, List.getElem?_toArray, List.getElem?_cons_zero, List.getElem?_cons_succ, Option.bind_some, Option.getD_some, List.setIfInBounds_toArray, List.set_cons_zero, List.set_cons_succ]
      rw [v10, v11, v12]
      have HB1 := Lib.hid (HB0.out.trans ((below_drew hb).mono HB0.out.size))
      clear hb
      obtain ⟨k0, k1, k2, k3, k4, k5⟩ := six_keep HC0.out HB1.out
      have kx0 := cell_kept HX0.out rfl HB1.out
      have kx1 := cell_kept HX1.out rfl HB1.out
      go_wp2_with fail
      clear k0 k1 k2 k3 k4 k5 kx0 kx1
      go_ret
      exact ⟨by rw [HSH.out]; rfl, hb0.out.trans (HB1.out.mono HSZ.out)⟩
  · skip
    have HSH : Hid (shp tk (f + 1) (.typed k own) n = false) := Lib.hid (by rw [HTY.out]; simp [hkd])
    have hkd' : (n.kind == k) = false := by simpa using hkd
    clear hkd HTY
    generalize hNN : w.heap.size = N at *
    go_enter Tryz.func46, Tryz.ntmps46
    go_wp2_with fail
    clear hNN
    generalize (w.alloc (.cells #[.int .i64 n.kind, .int .i64 n.fro, .int .i64 n.till, .int .i64 n.at', .string n.name, .slice ia n.kids.length ic] 24)) = w1 at *
    have HB0 := Lib.hid (Below.refl w1.heap.size w1)
    obtain ⟨k0, k1, k2, k3, k4, k5⟩ := six_keep HC0.out HB0.out
    have kx0 := cell_kept HX0.out rfl HB0.out
    have kx1 := cell_kept HX1.out rfl HB0.out
    go_quiet (fail)
    have HB1 := Lib.hid (drewN_belowA HB0.out nq)
    go_wp2_with fail
    clear k0 k1 k2 k3 k4 k5 kx0 kx1
    go_ret
    exact ⟨by rw [HSH.out]; rfl, hb0.out.trans (HB1.out.mono HSZ.out)⟩
set_option maxRecDepth 100000 in
theorem typed_s (f : Nat) (keepF : ∀ w w', FAC w → Below w.heap.size w w' → FAC w') (own : Bool) (gs : FuncId) (hT : ∀ f', f = f' + 1 → SL FAC tk O f' gs (if own then .own else .ty)) (W : World) (hW : FAC W) (k : Int) :
    Calls Tryz.prog 38 #[.int .i64 k, .func (.func gs) #[] #[]] W fun e w' => ∃ v, e = .returned v ∧ FnV (DD O f) w' v (shp tk f (.typed k own)) ∧ Below W.heap.size W w' := by
  have HB := Lib.hid (alloc_below W (.cells #[.int .i64 k] 3))
  have HT := Lib.hid (alloc_top W #[.int .i64 k] 3)
  have HZ := Lib.hid (World.size_alloc W (.cells #[.int .i64 k] 3))
  have hmf : ∀ (fn : Fn) (first cap : Array Value) (w : World), (Instr.makeFunc fn first cap).run Tryz.prog w = .ok (.func fn first cap) w := fun _ _ _ _ => rfl
  go_enter Tryz.func38, Tryz.ntmps38
  go_wp2_with fail
  go_ret
  generalize W.alloc (.cells #[.int .i64 k] 3) = W1 at *
  have HB2 := Lib.hid (alloc_below W1 (.cells #[.func (.func gs) #[] #[]] 53))
  have HT2 := Lib.hid (alloc_top W1 #[.func (.func gs) #[] #[]] 53)
  refine ⟨_, rfl, ⟨46, #[.pointer (some ⟨W.heap.size, 0, none⟩), .pointer (some ⟨W1.heap.size, 0, none⟩)], ?_, enters_of Tryz.func46 (by kernel_rfl) rfl, ?_⟩, HB.out.trans (HB2.out.mono HB.out.size)⟩
  · rw [HZ.out]; rfl
  · intro w2 hw2 T u hD hn
    cases f with
    | zero => have := hD.1; have := sz_pos T; omega
    | succ f' =>
      have hB1 : W1.cell? ⟨W.heap.size, 0, none⟩ = some (.int .i64 k) := by unfold World.cell?; simp only [HT.out]; rfl
      have hB2 : (W1.alloc (.cells #[.func (.func gs) #[] #[]] 53)).cell? ⟨W1.heap.size, 0, none⟩ = some (.func (.func gs) #[] #[]) := by unfold World.cell?; simp only [HT2.out]; rfl
      have hF2 : FAC w2 := keepF _ _ (keepF _ _ (keepF _ _ hW HB.out) HB2.out) hw2
      exact typed1_s f' keepF k own W.heap.size W1.heap.size gs #[] T u w2 hF2 (hD.fit (by omega)) hn (cell_kept (cell_kept hB1 rfl HB2.out) rfl hw2) (cell_kept hB2 rfl hw2) ((hT f' rfl).sf w2 hF2)
end Go.Proofs.YtkpddjbdmjbefaaGreatDoor
