import Derived.Test.YtkpddjbdmjbefaaGreatDoorNMoved
import Derived.Test.YtkpddjbdmjbefaaGreatDoorNOpen
import Derived.Test.YtkpddjbdmjbefaaGreatDoorDFacts
import Derived.Test.YtkpddjbdmjbefaaGreatDoorLFactsK
namespace Go.Proofs.YtkpddjbdmjbefaaGreatDoor
open Go.RowKit
theorem tokO_any (s : ByteArray) : TokO (fun _ => True) s := fun _ _ _ => trivial
theorem fit_few {n : Nd} (h : sz n < 3000) : Fit (TokO fun _ => True) (23999 + 1) 0 n := ⟨by omega, by omega, allN_any tokO_any n⟩
noncomputable abbrev ffF : List UInt8 → Nat := fun l => ffOf l (outOf FW l)
set_option maxRecDepth 100000 in
set_option maxHeartbeats 4000000 in
theorem astPlaces_walk (a : Nd) (y : Int) (u : Value) (w : World) (ha : Lim a) (hu : NIn w TT a u) (hF : Facts w) (hW : FW w) :
    Calls Tryz.prog 3 #[u, .int .i64 y] w fun e w' => e = .returned (.bool true) ∧ Below w.heap.size w w' := by
  obtain ⟨ia, ic, rfl, hcc, hk⟩ := hu.open
  obtain ⟨B1, T1, Z1, K1⟩ := one_more (Below.refl w.heap.size w) (Nat.le_refl _) #[.int .i64 a.kind, .int .i64 a.fro, .int .i64 a.till, .int .i64 a.at', .string a.name, .slice ia a.kids.length ic] 24
  have HR := Lib.hid (ready_of float_spec)
  have HW1 : Hid (TokW FW (w.alloc (.cells #[.int .i64 a.kind, .int .i64 a.fro, .int .i64 a.till, .int .i64 a.at', .string a.name, .slice ia a.kids.length ic] 24))) := Lib.hid ((ready_of float_spec).keepF _ _ ⟨hF, hW⟩ B1)
  have HWK : Hid (∀ W, TokW FW W → Calls Tryz.prog 5 #[] W fun e w' => e = .returned (.bool true) ∧ Below W.heap.size W w') := Lib.hid (fun W h => works_tok float_spec W h.1 h.2)
  have HU := Lib.hid ((NIn.shut hcc hk).below B1)
  have HB := Lib.hid B1
  have HXA := Lib.hid (six_cells T1)
  clear B1 T1 Z1 K1 hk hu hcc hF hW
  have HFA := Lib.hid (fun (W : World) (h : Below _ _ W) => few_any a _ W ha (HU.out.below h))
  clear ha
  cases hda : decide (sz a < 3000) with
  | false =>
    rw [hda] at HFA
    have HF0 := Lib.hid (HFA.out _ (Below.refl _ _))
    go_enter Tryz.func3, Tryz.ntmps3
    go_wp2_with fail
    refine HF0.out.mono ?_
    rintro e w' ⟨rfl, hb⟩
    have HB2 := Lib.hid (HB.out.trans (hb.mono HB.out.size))
    have HW2 := Lib.hid (HR.out.keepF _ _ HW1.out hb)
    clear hb HF0
    go_wp2_with fail
    refine (HWK.out _ HW2.out).mono ?_
    rintro e w'' ⟨rfl, hb⟩
    have HB3 := Lib.hid (HB2.out.trans (hb.mono HB2.out.size))
    clear hb
    go_wp2_with fail
    go_ret
    exact ⟨rfl, HB3.out⟩
  | true =>
    rw [hda] at HFA
    have h3 : sz a < 3000 := of_decide_eq_true hda
    have HF0 := Lib.hid (HFA.out _ (Below.refl _ _))
    obtain ⟨b, hb⟩ : ∃ b, mvT a y = b := ⟨_, rfl⟩
    have hsame : sameN a b = true := by rw [← hb]; exact same_mv a y
    have h3b : sz b < 3000 := by have := (same_size a b hsame).1; omega
    have hdep : (depth b : Int) = (depth a : Int) := by rw [(same_size a b hsame).2]
    have hchk : chk (tokT ffF) 23999 b = chk (tokT ffF) 23999 a := (chk_good (tokT ffF) 23999 hsame).symm
    have HMV : Hid (∀ W, Below (w.alloc (.cells #[.int .i64 a.kind, .int .i64 a.fro, .int .i64 a.till, .int .i64 a.at', .string a.name, .slice ia a.kids.length ic] 24)).heap.size (w.alloc (.cells #[.int .i64 a.kind, .int .i64 a.fro, .int .i64 a.till, .int .i64 a.at', .string a.name, .slice ia a.kids.length ic] 24)) W → Calls Tryz.prog 6 #[.agg #[.int .i64 a.kind, .int .i64 a.fro, .int .i64 a.till, .int .i64 a.at', .string a.name, .slice ia a.kids.length ic], .int .i64 y] W (MvEnd b W)) := Lib.hid (fun W h => by rw [← hb]; exact moved_any 3000 a y _ W (by omega) (by omega) (HU.out.below h))
    have HSZ := Lib.hid (And.intro (And.intro h3 h3b) (And.intro hsame (And.intro hdep hchk)))
    clear h3 h3b hda hb hsame hdep hchk HFA
    go_enter Tryz.func3, Tryz.ntmps3
    go_wp2_with fail
    generalize (w.alloc (.cells #[.int .i64 a.kind, .int .i64 a.fro, .int .i64 a.till, .int .i64 a.at', .string a.name, .slice ia a.kids.length ic] 24)) = w1 at *
    have HBS := Lib.hid HB.out.size
    generalize hNE : w.heap.size = N at *
    have HNN := Lib.hid hNE
    clear hNE
    refine HF0.out.mono ?_
    rintro e w' ⟨rfl, hb⟩
    obtain ⟨m0, m1, m2, m3, m4, m5⟩ := six_keep HXA.out hb
    have HB2 := Lib.hid hb
    clear hb HF0
    go_wp2_with fail
    clear m0 m1 m2 m3 m4 m5
    refine (HMV.out _ HB2.out).mono ?_
    rintro e w2 ⟨r, rfl, hr, hb⟩
    obtain ⟨ja, jc, rfl, hjc, hj⟩ := hr.open
    obtain ⟨B3, T3, Z3, K3⟩ := one_more (HB2.out.trans (hb.mono HB2.out.size)) (HB2.out.trans (hb.mono HB2.out.size)).size #[.int .i64 b.kind, .int .i64 b.fro, .int .i64 b.till, .int .i64 b.at', .string b.name, .slice ja b.kids.length jc] 24
    have HB3 := Lib.hid B3
    have HV := Lib.hid ((NIn.shut hjc hj).any.below K3)
    have HXB := Lib.hid (six_cells T3)
    clear hb hr hjc hj B3 T3 Z3 K3 HB2 HMV
    go_wp2_with fail
    generalize w2.alloc (.cells #[.int .i64 b.kind, .int .i64 b.fro, .int .i64 b.till, .int .i64 b.at', .string b.name, .slice ja b.kids.length jc] 24) = w3 at *
    generalize hP : w2.heap.size = P at *
    clear hP
    have HUU := Lib.hid (HU.out.below HB3.out)
    have HM1 : Hid (∀ W, Below w3.heap.size w3 W → Calls Tryz.prog 7 #[.agg #[.int .i64 a.kind, .int .i64 a.fro, .int .i64 a.till, .int .i64 a.at', .string a.name, .slice ia a.kids.length ic], .agg #[.int .i64 b.kind, .int .i64 b.fro, .int .i64 b.till, .int .i64 b.at', .string b.name, .slice ja b.kids.length jc]] W fun e w' => e = .returned (.bool true) ∧ Below W.heap.size W w') := Lib.hid (fun W h => by
      have h1 := HSZ.out
      have h2 := same_any 3000 a b _ _ W (by omega) (by omega) (by omega) (HUU.out.below h) (HV.out.below h)
      rw [h1.2.1] at h2
      exact h2)
    have HM2 := Lib.hid (fun (W : World) (h : Below w3.heap.size w3 W) => depth_any 3000 a _ W (by have := HSZ.out; omega) (by have := HSZ.out; omega) (HUU.out.below h))
    have HM3 : Hid (∀ W, Below w3.heap.size w3 W → Calls Tryz.prog 8 #[.agg #[.int .i64 b.kind, .int .i64 b.fro, .int .i64 b.till, .int .i64 b.at', .string b.name, .slice ja b.kids.length jc]] W fun e w' => e = .returned (.int .i64 (depth a : Int)) ∧ Below W.heap.size W w') := Lib.hid (fun W h => by
      have h1 := HSZ.out
      have h2 := depth_any 3000 b _ W (by omega) (by omega) (HV.out.below h)
      rw [h1.2.2.1] at h2
      exact h2)
    have HM4 := Lib.hid (fun (W : World) (h : Below w3.heap.size w3 W) => 
      check_any HR.out.keepF HR.out.tok 23999 a _ W (HR.out.keepF _ _ HW1.out (HB3.out.trans (h.mono HB3.out.size))) (fit_few HSZ.out.1.1) (HUU.out.below h))
    have HM5 : Hid (∀ W, Below w3.heap.size w3 W → Calls Tryz.prog 9 #[.agg #[.int .i64 b.kind, .int .i64 b.fro, .int .i64 b.till, .int .i64 b.at', .string b.name, .slice ja b.kids.length jc]] W fun e w' => e = .returned (.int .i64 (chk (tokT ffF) 23999 a)) ∧ Below W.heap.size W w') := Lib.hid (fun W h => by
      have h2 := check_any HR.out.keepF HR.out.tok 23999 b _ W (HR.out.keepF _ _ HW1.out (HB3.out.trans (h.mono HB3.out.size))) (fit_few HSZ.out.1.2) (HV.out.below h)
      rw [HSZ.out.2.2.2] at h2
      exact h2)
    generalize (depth a : Int) = dd at *
    generalize chk (tokT ffF) 23999 a = cc at *
    have HSS := Lib.hid (And.intro (six_keep HXA.out HB3.out) HXB.out)
    refine wp_region_held_drew (S := fun w' => (w'.cell? ⟨N, 0, none⟩ = some (.int .i64 a.kind) ∧ w'.cell? ⟨N, 1, none⟩ = some (.int .i64 a.fro) ∧ w'.cell? ⟨N, 2, none⟩ = some (.int .i64 a.till) ∧ w'.cell? ⟨N, 3, none⟩ = some (.int .i64 a.at') ∧ w'.cell? ⟨N, 4, none⟩ = some (.string a.name) ∧ w'.cell? ⟨N, 5, none⟩ = some (.slice ia a.kids.length ic)) ∧ (w'.cell? ⟨P, 0, none⟩ = some (.int .i64 b.kind) ∧ w'.cell? ⟨P, 1, none⟩ = some (.int .i64 b.fro) ∧ w'.cell? ⟨P, 2, none⟩ = some (.int .i64 b.till) ∧ w'.cell? ⟨P, 3, none⟩ = some (.int .i64 b.at') ∧ w'.cell? ⟨P, 4, none⟩ = some (.string b.name) ∧ w'.cell? ⟨P, 5, none⟩ = some (.slice ja b.kids.length jc))) (by kernel_rfl) HSS.out (fun hHeld => ?_)
    refine wpAnyH_take (i := 0) (oi := ⟨some 13, _, _, _, _, _⟩) (v := ?_) rfl (by kernel_rfl) (by kernel_rfl) (by kernel_rfl) (fun _ _ _ h => h) (Or.inl ⟨by rfl, ?_⟩) hHeld ?_
    rotate_left
    · (intro W hSW; (try dsimp only at hSW); go_simp; first | done | with_reducible rfl)
    try simp only [Act.put, List.setIfInBounds_toArray, List.set_cons_zero, List.set_cons_succ]
    refine wpAnyH_take (i := 1) (oi := ⟨some 14, _, _, _, _, _⟩) (v := ?_) rfl (by kernel_rfl) (by kernel_rfl) (by kernel_rfl) (fun _ _ _ h => h) (Or.inl ⟨by rfl, ?_⟩) hHeld ?_
    rotate_left
    · (intro W hSW; (try dsimp only at hSW); go_simp; first | done | with_reducible rfl)
    try simp only [Act.put, List.setIfInBounds_toArray, List.set_cons_zero, List.set_cons_succ]
    refine region_left (todo := [2, 3, 4, 5, 6, 7, 8, 9, 10, 11, 12, 13, 14, 15, 16, 17, 18, 19, 20]) (φ := fun i => Sp.holds (fun _ => True) (fun _ => True) (match i with | 2 => .c (.bool true) | 3 => .c (.bool true) | 4 => .c (.agg #[.int .i64 a.kind, .int .i64 a.fro, .int .i64 a.till, .int .i64 a.at', .string a.name, .slice ia a.kids.length ic]) | 5 => .c (.int .i64 dd) | 6 => .c (.agg #[.int .i64 b.kind, .int .i64 b.fro, .int .i64 b.till, .int .i64 b.at', .string b.name, .slice ja b.kids.length jc]) | 7 => .c (.int .i64 dd) | 8 => .c (.bool true) | 9 => .c (.bool true) | 10 => .c (.bool true) | 11 => .c (.agg #[.int .i64 a.kind, .int .i64 a.fro, .int .i64 a.till, .int .i64 a.at', .string a.name, .slice ia a.kids.length ic]) | 12 => .c (.int .i64 cc) | 13 => .c (.agg #[.int .i64 b.kind, .int .i64 b.fro, .int .i64 b.till, .int .i64 b.at', .string b.name, .slice ja b.kids.length jc]) | 14 => .c (.int .i64 cc) | 15 => .c (.bool true) | 16 => .c (.bool true) | 17 => .c (.bool true) | 18 => .c (.bool true) | 19 => .c (.bool true) | 20 => .c (.bool true) | _ => .any)) (by kernel_rfl) (fun i w w' v h hb => Sp.mono _ _ _ h hb) ?_ ⟨?_, ?_, ?_, ?_, ?_, ?_, ?_, ?_, ?_, ?_, ?_, ?_, ?_, ?_, ?_, ?_, ?_, ?_, ?_, trivial⟩ ?_
    · exact fun w' hb => ⟨six_keep hHeld.1 hb, six_keep hHeld.2 hb⟩
    · intro act w' hb hr hd
      clear hHeld
      have e13 : act.tmps.getD 13 undef = .agg #[.int .i64 a.kind, .int .i64 a.fro, .int .i64 a.till, .int .i64 a.at', .string a.name, .slice ia a.kids.length ic] := hr 13 (by kernel_rfl)
      have e13' := getD_q e13
      have e14 : act.tmps.getD 14 undef = .agg #[.int .i64 b.kind, .int .i64 b.fro, .int .i64 b.till, .int .i64 b.at', .string b.name, .slice ja b.kids.length jc] := hr 14 (by kernel_rfl)
      have e14' := getD_q e14
      refine rop_call (d := 15) (o := _) rfl rfl rfl (f := 7) (args := #[.agg #[.int .i64 a.kind, .int .i64 a.fro, .int .i64 a.till, .int .i64 a.at', .string a.name, .slice ia a.kids.length ic], .agg #[.int .i64 b.kind, .int .i64 b.fro, .int .i64 b.till, .int .i64 b.at', .string b.name, .slice ja b.kids.length jc]]) (by go_simp) ?_
      refine (HM1.out _ (below_drew hb)).mono ?_
      rintro e w'' ⟨rfl, hb'⟩
      exact ⟨_, rfl, rfl, hb'⟩
    · intro act w' hb hr hd
      clear hHeld
      have e15 : act.tmps.getD 15 undef = .bool true := hd 2 (by kernel_rfl)
      have e15' := getD_q e15
      exact rop_val (d := 16) (o := _) rfl rfl rfl (v := .bool true) (w' := w') (by go_simp) rfl (Below.refl _ _)
    · intro act w' hb hr hd
      clear hHeld
      have hg : act.tmps.getD 16 undef = .bool true := hd 3 (by kernel_rfl)
      have e2 : act.tmps.getD 2 undef = .pointer (some ⟨N, 0, none⟩) := hr 2 (by kernel_rfl)
      have e2' := getD_q e2
      obtain ⟨c0, c1, c2, c3, c4, c5⟩ := six_keep HSS.out.1 (below_drew hb)
      exact rop_val (d := 17) (o := _) rfl rfl (wanted_of rfl rfl hg) (v := .agg #[.int .i64 a.kind, .int .i64 a.fro, .int .i64 a.till, .int .i64 a.at', .string a.name, .slice ia a.kids.length ic]) (w' := w') (by go_simp) rfl (Below.refl _ _)
    · intro act w' hb hr hd
      clear hHeld
      have hg : act.tmps.getD 16 undef = .bool true := hd 3 (by kernel_rfl)
      have e17 : act.tmps.getD 17 undef = .agg #[.int .i64 a.kind, .int .i64 a.fro, .int .i64 a.till, .int .i64 a.at', .string a.name, .slice ia a.kids.length ic] := hd 4 (by kernel_rfl)
      have e17' := getD_q e17
      refine rop_call (d := 18) (o := _) rfl rfl (wanted_of rfl rfl hg) (f := 8) (args := #[.agg #[.int .i64 a.kind, .int .i64 a.fro, .int .i64 a.till, .int .i64 a.at', .string a.name, .slice ia a.kids.length ic]]) (by go_simp) ?_
      refine (HM2.out _ (below_drew hb)).mono ?_
      rintro e w'' ⟨rfl, hb'⟩
      exact ⟨_, rfl, rfl, hb'⟩
    · intro act w' hb hr hd
      clear hHeld
      have hg : act.tmps.getD 16 undef = .bool true := hd 3 (by kernel_rfl)
      have e5 : act.tmps.getD 5 undef = .pointer (some ⟨P, 0, none⟩) := hr 5 (by kernel_rfl)
      have e5' := getD_q e5
      obtain ⟨c0, c1, c2, c3, c4, c5⟩ := six_keep HSS.out.2 (below_drew hb)
      exact rop_val (d := 19) (o := _) rfl rfl (wanted_of rfl rfl hg) (v := .agg #[.int .i64 b.kind, .int .i64 b.fro, .int .i64 b.till, .int .i64 b.at', .string b.name, .slice ja b.kids.length jc]) (w' := w') (by go_simp) rfl (Below.refl _ _)
    · intro act w' hb hr hd
      clear hHeld
      have hg : act.tmps.getD 16 undef = .bool true := hd 3 (by kernel_rfl)
      have e19 : act.tmps.getD 19 undef = .agg #[.int .i64 b.kind, .int .i64 b.fro, .int .i64 b.till, .int .i64 b.at', .string b.name, .slice ja b.kids.length jc] := hd 6 (by kernel_rfl)
      have e19' := getD_q e19
      refine rop_call (d := 20) (o := _) rfl rfl (wanted_of rfl rfl hg) (f := 8) (args := #[.agg #[.int .i64 b.kind, .int .i64 b.fro, .int .i64 b.till, .int .i64 b.at', .string b.name, .slice ja b.kids.length jc]]) (by go_simp) ?_
      refine (HM3.out _ (below_drew hb)).mono ?_
      rintro e w'' ⟨rfl, hb'⟩
      exact ⟨_, rfl, rfl, hb'⟩
    · intro act w' hb hr hd
      clear hHeld
      have hg : act.tmps.getD 16 undef = .bool true := hd 3 (by kernel_rfl)
      have e18 : act.tmps.getD 18 undef = .int .i64 dd := hd 5 (by kernel_rfl)
      have e18' := getD_q e18
      have e20 : act.tmps.getD 20 undef = .int .i64 dd := hd 7 (by kernel_rfl)
      have e20' := getD_q e20
      exact rop_val (d := 21) (o := _) rfl rfl (wanted_of rfl rfl hg) (v := .bool true) (w' := w') (by go_simp) rfl (Below.refl _ _)
    · intro act w' hb hr hd
      clear hHeld
      have e16 : act.tmps.getD 16 undef = .bool true := hd 3 (by kernel_rfl)
      have e16' := getD_q e16
      have e21 : act.tmps.getD 21 undef = .bool true := hd 8 (by kernel_rfl)
      have e21' := getD_q e21
      exact rop_val (d := 22) (o := _) rfl rfl rfl (v := .bool true) (w' := w') (by go_simp) rfl (Below.refl _ _)
    · intro act w' hb hr hd
      clear hHeld
      have e22 : act.tmps.getD 22 undef = .bool true := hd 9 (by kernel_rfl)
      have e22' := getD_q e22
      exact rop_val (d := 23) (o := _) rfl rfl rfl (v := .bool true) (w' := w') (by go_simp) rfl (Below.refl _ _)
    · intro act w' hb hr hd
      clear hHeld
      have hg : act.tmps.getD 23 undef = .bool true := hd 10 (by kernel_rfl)
      have e2 : act.tmps.getD 2 undef = .pointer (some ⟨N, 0, none⟩) := hr 2 (by kernel_rfl)
      have e2' := getD_q e2
      obtain ⟨c0, c1, c2, c3, c4, c5⟩ := six_keep HSS.out.1 (below_drew hb)
      exact rop_val (d := 24) (o := _) rfl rfl (wanted_of rfl rfl hg) (v := .agg #[.int .i64 a.kind, .int .i64 a.fro, .int .i64 a.till, .int .i64 a.at', .string a.name, .slice ia a.kids.length ic]) (w' := w') (by go_simp) rfl (Below.refl _ _)
    · intro act w' hb hr hd
      clear hHeld
      have hg : act.tmps.getD 23 undef = .bool true := hd 10 (by kernel_rfl)
      have e24 : act.tmps.getD 24 undef = .agg #[.int .i64 a.kind, .int .i64 a.fro, .int .i64 a.till, .int .i64 a.at', .string a.name, .slice ia a.kids.length ic] := hd 11 (by kernel_rfl)
      have e24' := getD_q e24
      refine rop_call (d := 25) (o := _) rfl rfl (wanted_of rfl rfl hg) (f := 9) (args := #[.agg #[.int .i64 a.kind, .int .i64 a.fro, .int .i64 a.till, .int .i64 a.at', .string a.name, .slice ia a.kids.length ic]]) (by go_simp) ?_
      refine (HM4.out _ (below_drew hb)).mono ?_
      rintro e w'' ⟨rfl, hb'⟩
      exact ⟨_, rfl, rfl, hb'⟩
    · intro act w' hb hr hd
      clear hHeld
      have hg : act.tmps.getD 23 undef = .bool true := hd 10 (by kernel_rfl)
      have e5 : act.tmps.getD 5 undef = .pointer (some ⟨P, 0, none⟩) := hr 5 (by kernel_rfl)
      have e5' := getD_q e5
      obtain ⟨c0, c1, c2, c3, c4, c5⟩ := six_keep HSS.out.2 (below_drew hb)
      exact rop_val (d := 26) (o := _) rfl rfl (wanted_of rfl rfl hg) (v := .agg #[.int .i64 b.kind, .int .i64 b.fro, .int .i64 b.till, .int .i64 b.at', .string b.name, .slice ja b.kids.length jc]) (w' := w') (by go_simp) rfl (Below.refl _ _)
    · intro act w' hb hr hd
      clear hHeld
      have hg : act.tmps.getD 23 undef = .bool true := hd 10 (by kernel_rfl)
      have e26 : act.tmps.getD 26 undef = .agg #[.int .i64 b.kind, .int .i64 b.fro, .int .i64 b.till, .int .i64 b.at', .string b.name, .slice ja b.kids.length jc] := hd 13 (by kernel_rfl)
      have e26' := getD_q e26
      refine rop_call (d := 27) (o := _) rfl rfl (wanted_of rfl rfl hg) (f := 9) (args := #[.agg #[.int .i64 b.kind, .int .i64 b.fro, .int .i64 b.till, .int .i64 b.at', .string b.name, .slice ja b.kids.length jc]]) (by go_simp) ?_
      refine (HM5.out _ (below_drew hb)).mono ?_
      rintro e w'' ⟨rfl, hb'⟩
      exact ⟨_, rfl, rfl, hb'⟩
    · intro act w' hb hr hd
      clear hHeld
      have hg : act.tmps.getD 23 undef = .bool true := hd 10 (by kernel_rfl)
      have e25 : act.tmps.getD 25 undef = .int .i64 cc := hd 12 (by kernel_rfl)
      have e25' := getD_q e25
      have e27 : act.tmps.getD 27 undef = .int .i64 cc := hd 14 (by kernel_rfl)
      have e27' := getD_q e27
      exact rop_val (d := 28) (o := _) rfl rfl (wanted_of rfl rfl hg) (v := .bool true) (w' := w') (by go_simp) rfl (Below.refl _ _)
    · intro act w' hb hr hd
      clear hHeld
      have e23 : act.tmps.getD 23 undef = .bool true := hd 10 (by kernel_rfl)
      have e23' := getD_q e23
      have e28 : act.tmps.getD 28 undef = .bool true := hd 15 (by kernel_rfl)
      have e28' := getD_q e28
      exact rop_val (d := 29) (o := _) rfl rfl rfl (v := .bool true) (w' := w') (by go_simp) rfl (Below.refl _ _)
    · intro act w' hb hr hd
      clear hHeld
      have e29 : act.tmps.getD 29 undef = .bool true := hd 16 (by kernel_rfl)
      have e29' := getD_q e29
      exact rop_val (d := 30) (o := _) rfl rfl rfl (v := .bool true) (w' := w') (by go_simp) rfl (Below.refl _ _)
    · intro act w' hb hr hd
      clear hHeld
      have hg : act.tmps.getD 30 undef = .bool true := hd 17 (by kernel_rfl)
      refine rop_call (d := 31) (o := _) rfl rfl (wanted_of rfl rfl hg) (f := 5) (args := #[]) (by go_simp) ?_
      refine (HWK.out _ (HR.out.keepF _ _ HW1.out (HB3.out.trans ((below_drew hb).mono HB3.out.size)))).mono ?_
      rintro e w'' ⟨rfl, hb'⟩
      exact ⟨_, rfl, rfl, hb'⟩
    · intro act w' hb hr hd
      clear hHeld
      have e30 : act.tmps.getD 30 undef = .bool true := hd 17 (by kernel_rfl)
      have e30' := getD_q e30
      have e31 : act.tmps.getD 31 undef = .bool true := hd 18 (by kernel_rfl)
      have e31' := getD_q e31
      exact rop_val (d := 32) (o := _) rfl rfl rfl (v := .bool true) (w' := w') (by go_simp) rfl (Below.refl _ _)
    · intro act w' hb hr hd
      clear hHeld
      have e32 : act.tmps.getD 32 undef = .bool true := hd 19 (by kernel_rfl)
      have e32' := getD_q e32
      exact rop_val (d := 4) (o := _) rfl rfl rfl (v := .bool true) (w' := w') (by go_simp) rfl (Below.refl _ _)
    · intro vs w' hb hφ
      have vl : vs 20 = .bool true := hφ.2.2.2.2.2.2.2.2.2.2.2.2.2.2.2.2.2.2.1
      have HB4 := Lib.hid (HB3.out.trans ((below_drew hb).mono HB3.out.size))
      clear hb hφ hHeld
      simp only [setAll, dstOf, List.getElem?_toArray, List.getElem?_cons_zero, List.getElem?_cons_succ, Option.bind_some, Option.getD_some, List.setIfInBounds_toArray, List.set_cons_zero, List.set_cons_succ]
      rw [vl]
      go_wp2_with fail
      go_ret
      exact ⟨rfl, by rw [HNN.out]; exact HB.out.trans (HB4.out.mono HBS.out)⟩
end Go.Proofs.YtkpddjbdmjbefaaGreatDoor
namespace Go.Proofs.YtkpddjbdmjbefaaGreatDoor
open Go.RowKit Go.ChangeShapes Go.WideShapes Go.ChangeAt
theorem Wit.facts3_of {W : World} (h : laidMet Tryz.prog Rows.astPlacesRow.laid W) (hs : W.ShapedOpen Tryz.prog) : Facts W ∧ FW W :=
  ⟨Wit.facts_of h hs, ⟨Wit.flt_of h, Wit.pow_of h, (Wit.facts_of h hs).rng⟩, Wit.slow_of h⟩
theorem astPlaces_law (v0 : Value) (T0 : Nd) (y : Int) (w : World) (h0 : Lim T0 ∧ NIn w TT T0 v0) (h : Facts w ∧ FW w) :
    Calls Tryz.prog 3 #[v0, .int .i64 y] w fun e w' => e = .returned (.bool true) ∧ Below w.heap.size w w' :=
  astPlaces_walk T0 y v0 w h0.1 h0.2 h.1 h.2
end Go.Proofs.YtkpddjbdmjbefaaGreatDoor
