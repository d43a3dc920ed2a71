/-
  emendlaw07's pieces: cuts in new memory. No memory that was there turns. Conditions: the lengths of the texts.
-/
import Derived.Test.YtlgjlfljohapfaaEFam
import Derived.Deep.RegionHeld3
namespace Go.Proofs.Ytlgjlfljohapfaa
open Go.RowKit

theorem cutInfo : (Try.prog.info? 70).map (fun i => (i.zero, i.size, i.bytes)) = some (some (.agg #[.int .i64 0, .int .i64 0, .slice none 0 0]), 3, 40) := by kernel_rfl
theorem prtInfo : (Try.prog.info? 67).map (fun i => (i.zero, i.size, i.bytes)) = some (some (.agg #[.int .i64 0, .int .i64 0, .string ⟨#[]⟩, .bool false]), 4, 40) := by kernel_rfl
def trP (x : Prt) : Prt := { x with s := cutS 300 x.s }
def trC (c : Ct) : Ct := ⟨c.f, c.t, (c.p.take 12).map trP⟩
def piecesL (C : List Ct) : List Ct := (C.take 20).map trC
theorem trP_at (P : List Prt) (i : Nat) (x : Prt) (hx : P[i]? = some x) : (P.take (i + 1)).map trP = (P.take i).map trP ++ [trP x] := by
  rw [take_snoc hx, List.map_append]
  rfl
theorem cutS_eq (s : ByteArray) : s.extract 0 (min (s.size : Int) 300).toNat = cutS 300 s := by
  unfold cutS
  by_cases h : s.size ≤ 300
  · rw [if_pos h, show (min (s.size : Int) 300).toNat = s.size by omega, ByteArray.extract_zero_size]
  · rw [if_neg h, show (min (s.size : Int) 300).toNat = 300 by omega]
/-- What pieces hands back. -/
def CutsEnd (w : World) (C : List Ct) (e : Ending) (w' : World) : Prop := ∃ A cap, e = .returned (.slice A C.length cap) ∧ CR w' A C ∧ Below w.heap.size w w'
set_option maxRecDepth 100000 in
set_option maxHeartbeats 8000000 in
theorem cuts_any (A : Option Addr) (C : List Ct) (c : Nat) (hZ : ∀ x ∈ C, ∀ p ∈ x.p, p.s.size ≤ maxLen) (w : World) (hS : CR w A C) :
    Calls Try.prog 27 #[.slice A C.length c] w (CutsEnd w (piecesL C)) := by
  have HS := Lib.hid hS
  have HZ := Lib.hid hZ
  clear hS hZ
  obtain ⟨i0, hi0, hz0, hz1, hz2⟩ := info_parts cutInfo
  obtain ⟨j0, hj0, hy0, hy1, hy2⟩ := info_parts prtInfo
  obtain ⟨R, hR⟩ : ∃ R, piecesL C = R := ⟨_, rfl⟩
  rw [hR]
  have HR := Lib.hid hR
  clear hR
  go_enter Try.func27, Try.ntmps27
  go_wp2_with fail
  go_loopw [3, 4] (fun v k wr => ∃ (i : Nat) (v0 : Value) (D : List (Ct × Value)), v0 = v ∧ k = .int .i64 (i : Int) ∧ i ≤ C.length ∧ i ≤ 20 ∧ Hid (D.length = i) ∧ Hid (D.map (·.1) = (C.take i).map trC) ∧ Hid (Fam wr w.heap.size v0 D) ∧ Hid (Below w.heap.size w wr)) (fun _ k _ => C.length - (intOf k).toNat)
  case atStart => exact ⟨0, _, [], rfl, rfl, Nat.zero_le _, Nat.zero_le _, Lib.hid rfl, Lib.hid rfl, Lib.hid ⟨⟨rfl, .inl ⟨rfl, rfl⟩⟩, (fun d hd => by cases hd), (fun d hd => by cases hd)⟩, Lib.hid (Below.refl _ _)⟩
  case round =>
    obtain ⟨i, v0, D, rfl, rfl, hi, hi3, HDL, HDM, hF, hb⟩ := hrel
    obtain ⟨p0, cap0, hv0⟩ := slice_form hF.out.row
    subst hv0
    have hDl : D.length ≤ 20 := by rw [HDL.out]; omega
    by_cases hlt : i < C.length ∧ i < 20
    · obtain ⟨hlt, h20⟩ := hlt
      obtain ⟨x, hx⟩ : ∃ x, C[i]? = some x := ⟨_, List.getElem?_eq_getElem hlt⟩
      obtain ⟨b, o, Ap, cp, rfl, d0, d1, d2, hpr⟩ := HS.out.at hx
      have HZx := Lib.hid (HZ.out x (List.mem_of_getElem? hx))
      have hbw := cell_lt d0
      have c0 := cell_keep2 hb.out d0 hbw
      have c1 := cell_keep2 hb.out d1 hbw
      have q : decide ((i : Int) < (C.length : Int)) = true := by simpa using hlt
      have q2 : decide (i < C.length) = true := by simpa using hlt
      have q3 : (i : Int) < 20 := by omega
      have HC0 : Hid (wr.cell? ⟨b, o + i * 3, none⟩ = some (.int .i64 x.f) ∧ wr.cell? ⟨b, o + i * 3 + 1, none⟩ = some (.int .i64 x.t)) := Lib.hid ⟨c0, c1⟩
      have hbr : b < wr.heap.size := by have := hb.out.size; omega
      have HXX := Lib.hid hx
      clear hx
      go_wp2_with fail
      go_region
      have HB0 := Lib.hid (alloc_below wr (.cells #[.int .i64 x.f, .int .i64 x.t, .slice none 0 0] 70))
      have hin0 : Inn w (wr.alloc (.cells #[.int .i64 x.f, .int .i64 x.t, .slice none 0 0] 70)).drew wr.heap.size (.slice p0 D.length cap0) D x.f x.t ((x.p.take 0).map trP) (.slice none 0 0) := by
        refine ⟨alloc_top wr #[.int .i64 x.f, .int .i64 x.t, .slice none 0 0] 70, ⟨rfl, .inl ⟨rfl, rfl⟩⟩, hF.out.below ⟨HB0.out.os, HB0.out.tape, HB0.out.output, HB0.out.size, HB0.out.block⟩, (fun q hq => by cases hq), ⟨fun e => ?_, fun d hd e => ?_⟩, hb.out.size, Below.drew (hb.out.trans (HB0.out.mono hb.out.size))⟩
        · have := (World.ownsRow.lt hF.out.row _ e).2; omega
        · have := (World.ownsRow.lt (hF.out.each d hd) _ e).2; omega
      obtain ⟨K, hK⟩ : ∃ K, wr.heap.size = K := ⟨_, rfl⟩
      rw [hK] at hin0 ⊢
      have HIN0 := Lib.hid hin0
      have HPR := Lib.hid hpr
      clear hin0 hK HB0 HC0 c0 c1 hbr hF hb d0 d1 hpr
      go_wp2_with fail
      go_loopw [6] (fun u wx => ∃ (k : Nat) (cv : Value), u = .int .i64 (k : Int) ∧ k ≤ x.p.length ∧ k ≤ 12 ∧ Hid (Inn w wx K (.slice p0 D.length cap0) D x.f x.t ((x.p.take k).map trP) cv)) (fun u _ => x.p.length - (intOf u).toNat)
      case atStart => exact ⟨0, _, rfl, Nat.zero_le _, Nat.zero_le _, HIN0⟩
      case round =>
        clear HIN0
        obtain ⟨k, cv, rfl, hk, hk12, HIN⟩ := hrel
        have hkl : Hid (((x.p.take k).map trP).length = k) := Lib.hid (by rw [List.length_map, List.length_take]; omega)
        have how := HIN.out.own
        unfold POwn at how
        rw [hkl.out] at how
        obtain ⟨q0, qc, hcv⟩ := slice_form how
        subst hcv
        have HOW := Lib.hid how
        have e2 := cell_keep2 HIN.out.below d2 hbw
        have g0 := cell_at (i := 0) HIN.out.blk
        have g1 := cell_at (i := 1) HIN.out.blk
        have g2 := cell_at (i := 2) HIN.out.blk
        have hKl := heap_lt HIN.out.blk
        clear how
        by_cases hkt : k < x.p.length ∧ k < 12
        · obtain ⟨hkt, hk2⟩ := hkt
          obtain ⟨y, hy⟩ : ∃ y, x.p[k]? = some y := ⟨_, List.getElem?_eq_getElem hkt⟩
          obtain ⟨pb, po, rfl, y0, y1, y2, y3⟩ := HPR.out.at hy
          have hpb := cell_lt y0
          have z0 := cell_keep2 HIN.out.below y0 hpb
          have z1 := cell_keep2 HIN.out.below y1 hpb
          have z2 := cell_keep2 HIN.out.below y2 hpb
          have z3 := cell_keep2 HIN.out.below y3 hpb
          have hys := HZx.out y (List.mem_of_getElem? hy)
          unfold maxLen at hys
          have HTP : Hid ((x.p.take (k + 1)).map trP = (x.p.take k).map trP ++ [⟨y.f, y.t, y.s.extract 0 (min (y.s.size : Int) 300).toNat, y.n⟩]) := Lib.hid (by rw [trP_at x.p k y hy, cutS_eq]; rfl)
          have r1 : decide ((k : Int) < (x.p.length : Int)) = true := by simpa using hkt
          have r3 : (k : Int) < 12 := by omega
          clear hy y0 y1 y2 y3
          go_wp2_with (at_builtin; refine wpList_append_own2 _ rfl _ _ 68 rfl w.heap.size 67 j0 (.agg #[.int .i64 0, .int .i64 0, .string ⟨#[]⟩, .bool false]) 4 40 Try.underlying68 hj0 hy0 hy1 hy2 rfl (by decide) _ _ _ rfl ((HOW.out.alloc _).alloc _) ⟨wr.heap.size + 1, 0, none⟩ 1 1 [.int .i64 y.f, .int .i64 y.t, .string (y.s.extract 0 (min (y.s.size : Int) 300).toNat), .bool y.n] rfl rfl (new_add2 _ _ _ _) ?c2 ?c3 ?c4 ?c5 ?_)
          case c2 => simp [Value.oneCell']
          case c3 => unfold maxLen; omega
          case c4 => omega
          case c5 => rw [World.size_alloc, World.size_alloc]; have := HIN.out.below.size; omega
          intro v2 w2 hown2 hgr2 hne2
          obtain ⟨q5, qc5, hv5⟩ := slice_form hown2
          subst hv5
          have hcpk : (Value.slice q0 k qc).ownBlock ≠ some K := fun e => (HIN.out.s1 K e).1 rfl
          have hKl := heap_lt HIN.out.blk
          have hbK : w2.heap[K]? = some (.cells #[.int .i64 x.f, .int .i64 x.t, .slice q0 k qc] 70 (0, 0)) := (hgr2.block K (by rw [World.size_alloc, World.size_alloc]; omega) (fun e => hcpk e.symm)).trans ((((alloc_below wr _).trans ((alloc_below _ _).mono (alloc_below wr _).size)).block K hKl).trans HIN.out.blk)
          have kc := cell_at (i := 2) hbK
          have kf := frozen_of_row w2 K 2 _ _ hbK
          have hown3 : w2.ownsRow w.heap.size 67 4 (.slice q5 (k + 1) qc5) (((x.p.take k).map trP).length + 1) (prcs ((x.p.take k).map trP) ++ prc ⟨y.f, y.t, y.s.extract 0 (min (y.s.size : Int) 300).toNat, y.n⟩) := by
            rw [hkl.out]
            first
              | exact hown2
              | (rw [List.map_take]; exact hown2)
          have hin := HIN.out.app (x := ⟨y.f, y.t, y.s.extract 0 (min (y.s.size : Int) 300).toNat, y.n⟩) hown3 hgr2 hne2
          have HIN2 : Hid (Inn w (w2.setCell ⟨K, 2, none⟩ (.slice q5 (k + 1) qc5)) K (.slice p0 D.length cap0) D x.f x.t ((x.p.take (k + 1)).map trP) (.slice q5 (k + 1) qc5)) := Lib.hid (by rw [HTP.out]; exact hin)
          clear hown2 hown3 hgr2 hne2 hin hcpk hKl hbK HOW HIN hkl e2
          go_wp2_with fail
          go_roundw
          case rel => exact ⟨k + 1, _, by go_num, by omega, by omega, HIN2⟩
          case measure => simp [intOf]; omega
        · have htk : (x.p.take k).map trP = (x.p.take 12).map trP := by
            by_cases h12 : k < 12
            · rw [List.take_of_length_le (i := k) (by omega), List.take_of_length_le (i := 12) (by omega)]
            · rw [show k = 12 by omega]
          have hin := HIN.out
          rw [htk] at hin
          have HIN1 := Lib.hid hin
          have HTC : Hid ((C.take (i + 1)).map trC = (C.take i).map trC ++ [⟨x.f, x.t, (x.p.take 12).map trP⟩]) := Lib.hid (by rw [take_snoc HXX.out, List.map_append]; rfl)
          have hrow := HIN.out.fam.row
          have HROW := Lib.hid hrow
          clear htk hin hrow HIN HOW
          by_cases hk2 : k < x.p.length
          · have r1 : decide ((k : Int) < (x.p.length : Int)) = true := by simpa using hk2
            have r3 : ¬ (k : Int) < 12 := by omega
            clear hkt
            go_wp2_with (at_builtin; refine wpList_append_own2 _ rfl _ _ 42 rfl w.heap.size 70 i0 (.agg #[.int .i64 0, .int .i64 0, .slice none 0 0]) 3 40 Try.underlying42 hi0 hz0 hz1 hz2 rfl (by decide) _ _ _ rfl (HROW.out.alloc _) ⟨wr.heap.size, 0, none⟩ 1 1 [.int .i64 x.f, .int .i64 x.t, .slice q0 k qc] rfl rfl (new_add _ _ _) ?c2 ?c3 ?c4 ?c5 ?_)
            case c2 => simp [Value.oneCell']
            case c3 => unfold maxLen; omega
            case c4 => omega
            case c5 => have := HIN1.out.below.size; first | omega | (rw [World.size_alloc]; omega)
            intro v2 w2 hown2 hgr2 hne2
            obtain ⟨hF2, hB2⟩ := HIN1.out.done hown2 hgr2 hne2
            have HF2 := Lib.hid hF2
            have HB2 := Lib.hid hB2
            have HDM2 : Hid ((D ++ [((⟨x.f, x.t, (x.p.take 12).map trP⟩ : Ct), (Value.slice q0 k qc))]).map (·.1) = (C.take (i + 1)).map trC) := Lib.hid (by rw [HTC.out, List.map_append, HDM.out]; rfl)
            have HDL2 : Hid ((D ++ [((⟨x.f, x.t, (x.p.take 12).map trP⟩ : Ct), (Value.slice q0 k qc))]).length = i + 1) := Lib.hid (by rw [List.length_append, HDL.out]; rfl)
            clear hown2 hgr2 hne2 hF2 hB2 HIN1 HROW e2 g0 g1 g2
            go_wp2_with fail
            go_roundw
            case rel => exact ⟨i + 1, _, _, rfl, by go_num, by omega, by omega, HDL2, HDM2, HF2, HB2⟩
            case measure => simp [intOf]; omega
          · have r1 : decide ((k : Int) < (x.p.length : Int)) = false := by simp; omega
            clear hkt
            go_wp2_with (at_builtin; refine wpList_append_own2 _ rfl _ _ 42 rfl w.heap.size 70 i0 (.agg #[.int .i64 0, .int .i64 0, .slice none 0 0]) 3 40 Try.underlying42 hi0 hz0 hz1 hz2 rfl (by decide) _ _ _ rfl (HROW.out.alloc _) ⟨wr.heap.size, 0, none⟩ 1 1 [.int .i64 x.f, .int .i64 x.t, .slice q0 k qc] rfl rfl (new_add _ _ _) ?c2 ?c3 ?c4 ?c5 ?_)
            case c2 => simp [Value.oneCell']
            case c3 => unfold maxLen; omega
            case c4 => omega
            case c5 => have := HIN1.out.below.size; first | omega | (rw [World.size_alloc]; omega)
            intro v2 w2 hown2 hgr2 hne2
            obtain ⟨hF2, hB2⟩ := HIN1.out.done hown2 hgr2 hne2
            have HF2 := Lib.hid hF2
            have HB2 := Lib.hid hB2
            have HDM2 : Hid ((D ++ [((⟨x.f, x.t, (x.p.take 12).map trP⟩ : Ct), (Value.slice q0 k qc))]).map (·.1) = (C.take (i + 1)).map trC) := Lib.hid (by rw [HTC.out, List.map_append, HDM.out]; rfl)
            have HDL2 : Hid ((D ++ [((⟨x.f, x.t, (x.p.take 12).map trP⟩ : Ct), (Value.slice q0 k qc))]).length = i + 1) := Lib.hid (by rw [List.length_append, HDL.out]; rfl)
            clear hown2 hgr2 hne2 hF2 hB2 HIN1 HROW e2 g0 g1 g2
            go_wp2_with fail
            go_roundw
            case rel => exact ⟨i + 1, _, _, rfl, by go_num, by omega, by omega, HDL2, HDM2, HF2, HB2⟩
            case measure => simp [intOf]; omega
    · have hout : R = D.map (·.1) := by
        rw [← HR.out, HDM.out]
        unfold piecesL
        by_cases h20 : i < 20
        · rw [List.take_of_length_le (i := i) (by omega), List.take_of_length_le (i := 20) (by omega)]
        · rw [show i = 20 by omega]
      obtain ⟨A2, c2, he, hr2⟩ := hF.out.reads
      rw [← hout] at he hr2
      have HE2 := Lib.hid he
      have HR2 := Lib.hid hr2
      clear hout he hr2 HR HDM
      by_cases hlt2 : i < C.length
      · have q : decide ((i : Int) < (C.length : Int)) = true := by simpa using hlt2
        have q3 : ¬ (i : Int) < 20 := by omega
        clear hlt
        go_wp2_with fail
        go_ret
        exact ⟨A2, c2, (congrArg Ending.returned HE2.out), HR2.out, hb.out⟩
      · have q : decide ((i : Int) < (C.length : Int)) = false := by simp; omega
        clear hlt
        go_wp2_with fail
        go_ret
        exact ⟨A2, c2, (congrArg Ending.returned HE2.out), HR2.out, hb.out⟩
end Go.Proofs.Ytlgjlfljohapfaa
