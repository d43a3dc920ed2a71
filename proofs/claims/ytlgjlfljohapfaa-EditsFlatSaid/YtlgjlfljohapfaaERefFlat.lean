/-
  emendref07's Same, part and Flat, AT EVERY TEXT and list of cuts. No memory that was there turns. Conditions: the lengths.
-/
import Derived.Test.YtlgjlfljohapfaaEFlat
import Derived.Deep.RegionHeld3
import Derived.Deep.AppendLies
namespace Go.Proofs.Ytlgjlfljohapfaa
open Go.RowKit

set_option maxRecDepth 100000 in
set_option maxHeartbeats 1000000 in
theorem same_yes (A B : Option Addr) (L : List Spl) (c d : Nat) (hL : L.length ≤ 1000000) (w : World) (hA : SR w A L) (hB : SR w B L) :
    Calls Try.prog 18 #[.slice A L.length c, .slice B L.length d] w fun e w' => e = .returned (.bool true) ∧ Below w.heap.size w w' := by
  have HA := Lib.hid hA
  have HB := Lib.hid hB
  clear hA hB
  go_enter Try.func18, Try.ntmps18
  go_wp2_with fail
  go_loopw [5] (fun k wr => ∃ i : Nat, k = .int .i64 (i : Int) ∧ i ≤ L.length ∧ Hid (Below w.heap.size w wr)) (fun k _ => L.length - (intOf k).toNat)
  case atStart => exact ⟨0, rfl, Nat.zero_le _, Lib.hid (Below.refl _ _)⟩
  case round =>
    obtain ⟨i, rfl, hi, hb⟩ := hrel
    by_cases hlt : i < L.length
    · obtain ⟨x, hx⟩ : ∃ x, L[i]? = some x := ⟨_, List.getElem?_eq_getElem hlt⟩
      obtain ⟨b, o, rfl, d0, d1, d2⟩ := HA.out.at hx
      obtain ⟨b', o', rfl, f0, f1, f2⟩ := HB.out.at hx
      have c0 := cell_keep2 hb.out d0 (cell_lt d0)
      have c1 := cell_keep2 hb.out d1 (cell_lt d1)
      have c2 := cell_keep2 hb.out d2 (cell_lt d2)
      have k0 := cell_keep2 hb.out f0 (cell_lt f0)
      have k1 := cell_keep2 hb.out f1 (cell_lt f1)
      have k2 := cell_keep2 hb.out f2 (cell_lt f2)
      have q : decide ((i : Int) < (L.length : Int)) = true := by simpa using hlt
      have q2 : decide (i < L.length) = true := by simpa using hlt
      clear hx d0 d1 d2 f0 f1 f2
      go_wp2_with fail
      go_quiet (fail)
      go_wp2_with fail
      go_roundw
      case rel => exact ⟨i + 1, by go_num, by omega, Lib.hid (drewN_below hb.out _)⟩
      case measure => simp [intOf]; omega
    · have q : decide ((i : Int) < (L.length : Int)) = false := by simp; omega
      go_wp2_with fail
      go_ret
      exact ⟨rfl, hb.out⟩
def partS (text : ByteArray) (p : Prt) : ByteArray := if prtOk text p = true then meanS text p else ⟨#[]⟩
set_option maxHeartbeats 2000000 in
theorem part_any (text : ByteArray) (x : Prt) (w : World) : Calls Try.prog 50 #[.string text, .agg #[.int .i64 x.f, .int .i64 x.t, .string x.s, .bool x.n]] w fun e w' => e = .returned (.tuple #[.string (partS text x), .bool (prtOk text x)]) ∧ Below w.heap.size w w' := by
  obtain ⟨f, t, s, n⟩ := x
  simp only
  have hb := Lib.hid (alloc_below w (.cells #[.int .i64 f, .int .i64 t, .string s, .bool n] 67))
  cases n with
  | true =>
    have e1 : prtOk text ⟨f, t, s, true⟩ = true := rfl
    have e2 : partS text ⟨f, t, s, true⟩ = s := rfl
    rw [e1, e2]
    clear e1 e2
    go_enter Try.func50, Try.ntmps50
    go_wp2_with fail
    go_ret2
    exact ⟨rfl, hb.out⟩
  | false =>
    by_cases h : s.size = 0
    · have := empty_of h
      subst this
      by_cases hin : 0 ≤ f ∧ f ≤ t ∧ t ≤ text.size
      · obtain ⟨g1, g2, g3⟩ := hin
        have e1 : prtOk text ⟨f, t, ⟨#[]⟩, false⟩ = true := by
          unfold prtOk inT
          rw [isCp_yes, decide_eq_true g1, decide_eq_true g2, decide_eq_true g3]
          rfl
        have e2 : partS text ⟨f, t, ⟨#[]⟩, false⟩ = text.extract f.toNat t.toNat := by unfold partS; rw [if_pos e1]; rfl
        rw [e1, e2]
        clear e1 e2 h
        obtain ⟨a, rfl⟩ := Int.eq_ofNat_of_zero_le g1
        obtain ⟨b, rfl⟩ := Int.eq_ofNat_of_zero_le (show 0 ≤ t by omega)
        simp only [Int.toNat_natCast]
        have k1 : a ≤ b := by omega
        have k2 : b ≤ text.size := by omega
        clear g1 g2 g3
        go_enter Try.func50, Try.ntmps50
        go_wp2_with fail
        go_ret2
        exact ⟨rfl, hb.out⟩
      · have e1 : prtOk text ⟨f, t, ⟨#[]⟩, false⟩ = false := by
          unfold prtOk inT
          rw [isCp_yes]
          by_cases g1 : 0 ≤ f
          · by_cases g2 : f ≤ t
            · rw [decide_eq_false (p := t ≤ text.size) (fun g3 => hin ⟨g1, g2, g3⟩)]; simp
            · rw [decide_eq_false g2]; simp
          · rw [decide_eq_false g1]; simp
        have e2 : partS text ⟨f, t, ⟨#[]⟩, false⟩ = ⟨#[]⟩ := by unfold partS; rw [e1]; rfl
        rw [e1, e2]
        clear e1 e2 h
        go_enter Try.func50, Try.ntmps50
        go_wp2_with fail
        all_goals first
          | (exfalso; omega)
          | (go_ret2; exact ⟨rfl, hb.out⟩)
    · have e1 : prtOk text ⟨f, t, s, false⟩ = true := by unfold prtOk; rw [isCp_no h]; rfl
      have e2 : partS text ⟨f, t, s, false⟩ = s := by unfold partS meanS; rw [e1, isCp_no h]; rfl
      have e3 : (s.toList.isEmpty) = false := by
        rw [Lib.toList_data, List.isEmpty_eq_false_iff]
        intro hh
        exact h (congrArg List.length hh)
      rw [e1, e2]
      clear e1 e2 h
      go_enter Try.func50, Try.ntmps50
      go_wp2_with fail
      go_ret2
      exact ⟨rfl, hb.out⟩
theorem textOf_app (l : List UInt8) (s : ByteArray) : textOf l ++ s = textOf (l ++ s.data.toList) := by
  apply ByteArray.ext
  rw [ByteArray.data_append]
  show l.toArray ++ s.data = (l ++ s.data.toList).toArray
  simp
theorem all_drop {text : ByteArray} {P : List Prt} {k : Nat} {y : Prt} (hy : P[k]? = some y) (h : prtOk text y = false) : P.all (prtOk text) = false := by
  rw [List.all_eq_false]
  exact ⟨y, List.mem_of_getElem? hy, by rw [h]; simp⟩
theorem means_snoc {text : ByteArray} {P : List Prt} {k : Nat} {y : Prt} (hy : P[k]? = some y) : cat (means text (P.take (k + 1))) = cat (means text (P.take k)) ++ (meanS text y).data.toList := by
  rw [take_snoc hy]
  unfold means
  rw [List.map_append, cat_app]
  simp [cat]
theorem take_all {text : ByteArray} {P : List Prt} {k : Nat} {y : Prt} (hy : P[k]? = some y) (h : prtOk text y = true) (ha : (P.take k).all (prtOk text) = true) : (P.take (k + 1)).all (prtOk text) = true := by
  rw [take_snoc hy, List.all_append, ha]
  simp [h]
theorem two_keep {W W' : World} {b i j : Nat} {x y : Value} (h : W.cell? ⟨b, i, none⟩ = some x ∧ W.cell? ⟨b, j, none⟩ = some y) (hb : Below W.heap.size W W') : W'.cell? ⟨b, i, none⟩ = some x ∧ W'.cell? ⟨b, j, none⟩ = some y :=
  ⟨cell_keep hb h.1, cell_keep hb h.2⟩
theorem two_drew {W : World} {b i j : Nat} {x y : Value} (h : W.cell? ⟨b, i, none⟩ = some x ∧ W.cell? ⟨b, j, none⟩ = some y) : W.drew.cell? ⟨b, i, none⟩ = some x ∧ W.drew.cell? ⟨b, j, none⟩ = some y := h
theorem new_drew (w : World) (l : List Value) (t : TypeId) : ∀ j v, l[j]? = some v → (w.alloc (.cells l.toArray t)).drew.cell? ((⟨w.heap.size, 0, none⟩ : Addr).add j) = some v := new_add w l t
theorem two_far {W W' : World} {b i j : Nat} {x y : Value} {row : Option Nat} (h : W.cell? ⟨b, i, none⟩ = some x ∧ W.cell? ⟨b, j, none⟩ = some y) (hg : W.grownBy W' row) (hr : row ≠ some b) : W'.cell? ⟨b, i, none⟩ = some x ∧ W'.cell? ⟨b, j, none⟩ = some y := by
  have hb := hg.block b (cell_lt h.1) (Ne.symm hr)
  have key : ∀ i, W'.cell? ⟨b, i, none⟩ = W.cell? ⟨b, i, none⟩ := fun i => by simp [World.cell?, hb]
  rw [key, key]
  exact h
theorem meanS_le {text : ByteArray} {P : List Prt} (h : LimP text P) {y : Prt} (hy : y ∈ P) : (meanS text y).size ≤ 1000000 := by
  unfold meanS
  split
  · exact ext_le _ _ _ h.text
  · exact h.each y hy
theorem acc_le {text : ByteArray} {P : List Prt} (h : LimP text P) (k : Nat) : (textOf (cat (means text (P.take k)))).size ≤ 1000000000 := by
  rw [textOf_size]
  exact means_tot ⟨h.text, by have := h.len; rw [List.length_take]; omega, fun x hx => h.each x (List.mem_of_mem_take hx)⟩
set_option maxRecDepth 100000 in
set_option maxHeartbeats 8000000 in
theorem refFlat_any (text : ByteArray) (A : Option Addr) (C : List Ct) (c : Nat) (hl : LimC text C) (w : World) (hS : CR w A C) :
    Calls Try.prog 28 #[.string text, .slice A C.length c] w (FlatEnd w text C) := by
  have HS := Lib.hid hS
  have HE := Lib.hid hl.each
  have hln := hl.len
  obtain ⟨i0, hi0, hz0, hz1, hz2⟩ := info_parts splInfo
  obtain ⟨E1, hE1⟩ : ∃ E1, cutsE text C = E1 := ⟨_, rfl⟩
  have HC0 : Hid (E1 = cutsE text (C.drop 0)) := Lib.hid hE1.symm
  have HE1 := Lib.hid hE1
  clear hS hl hE1
  unfold FlatEnd
  obtain ⟨E, hE⟩ : ∃ E, flatE text C = E := ⟨_, rfl⟩
  rw [hE]
  have HEE : Hid (E = if E1 = 0 then chkE (fits text.size (spl0 C)) else E1) := Lib.hid (by rw [← hE, ← HE1.out]; rfl)
  clear hE
  go_enter Try.func28, Try.ntmps28
  go_wp2_with fail
  go_loopw [6, 7] (fun v k wr => ∃ (i : Nat) (v0 : Value), v0 = v ∧ k = .int .i64 (i : Int) ∧ i ≤ C.length ∧ Hid (E1 = cutsE text (C.drop i)) ∧ Hid (wr.ownsRow w.heap.size 62 3 v0 i (scs (flatL text (C.take i)))) ∧ Hid (Below w.heap.size w wr)) (fun _ k _ => C.length - (intOf k).toNat)
  case atStart => exact ⟨0, _, rfl, rfl, Nat.zero_le _, HC0, Lib.hid (World.ownsRow_nil _ _ _ _), Lib.hid (Below.refl _ _)⟩
  case round =>
    clear HC0
    obtain ⟨i, v0, rfl, rfl, hi, hce, HO, hb⟩ := hrel
    obtain ⟨p0, cap0, hv0⟩ := slice_form HO.out
    subst hv0
    by_cases hlt : i < C.length
    · obtain ⟨x, hx⟩ : ∃ x, C[i]? = some x := ⟨_, List.getElem?_eq_getElem hlt⟩
      obtain ⟨b, o, Ap, cp, rfl, d0, d1, d2, hpr⟩ := HS.out.at hx
      have hxl := HE.out x (List.mem_of_getElem? hx)
      have hbw := cell_lt d0
      have q : decide ((i : Int) < (C.length : Int)) = true := by simpa using hlt
      have q2 : decide (i < C.length) = true := by simpa using hlt
      have hd := drop_at hx
      rw [hd] at hce
      have HCE2 : Hid (E1 = if partsE text x.p = 0 then cutsE text (C.drop (i + 1)) else partsE text x.p) := hce
      have HTK : Hid (scs (flatL text (C.take (i + 1))) = scs (flatL text (C.take i)) ++ [.int .i64 x.f, .int .i64 x.t, .string (textOf (cat (means text x.p)))]) := Lib.hid (by
        rw [take_snoc hx]
        unfold flatL
        rw [List.map_append, List.map_singleton, scs_snoc]
        rfl)
      have hmt := means_tot hxl
      have HXL := Lib.hid hxl
      have hpl := hxl.len
      have HPR := Lib.hid hpr
      have HD : Hid (w.cell? ⟨b, o + i * 3, none⟩ = some (.int .i64 x.f) ∧ w.cell? ⟨b, o + i * 3 + 1, none⟩ = some (.int .i64 x.t) ∧ w.cell? ⟨b, o + i * 3 + 2, none⟩ = some (.slice Ap x.p.length cp)) := Lib.hid ⟨d0, d1, d2⟩
      clear hx d0 d1 d2 hd hce hxl hpr
      go_wp2_with fail
      go_loopw [8, 9] (fun u v wx => ∃ k : Nat, u = .string (textOf (cat (means text (x.p.take k)))) ∧ v = .int .i64 (k : Int) ∧ k ≤ x.p.length ∧ Hid ((x.p.take k).all (prtOk text) = true) ∧ Hid (Below w.heap.size w wx) ∧ Hid (wx.ownsRow w.heap.size 62 3 (.slice p0 i cap0) i (scs (flatL text (C.take i))))) (fun _ v _ => x.p.length - (intOf v).toNat)
      case atStart => exact ⟨0, rfl, rfl, Nat.zero_le _, Lib.hid rfl, hb, HO⟩
      case round =>
        clear hb HO
        obtain ⟨k, rfl, rfl, hk, HAL, hb, HO⟩ := hrel
        have c2 := cell_keep2 hb.out HD.out.2.2 hbw
        by_cases hkt : k < x.p.length
        · obtain ⟨y, hy⟩ : ∃ y, x.p[k]? = some y := ⟨_, List.getElem?_eq_getElem hkt⟩
          obtain ⟨pb, po, rfl, y0, y1, y2, y3⟩ := HPR.out.at hy
          have hpb := cell_lt y0
          have z0 := cell_keep2 hb.out y0 hpb
          have z1 := cell_keep2 hb.out y1 hpb
          have z2 := cell_keep2 hb.out y2 hpb
          have z3 := cell_keep2 hb.out y3 hpb
          have HPT := Lib.hid (fun W => part_any text y W)
          have r1 : decide ((k : Int) < (x.p.length : Int)) = true := by simpa using hkt
          have r2 : decide (k < x.p.length) = true := by simpa using hkt
          clear y0 y1 y2 y3
          cases hok : prtOk text y with
          | true =>
            have hps : partS text y = meanS text y := by unfold partS; rw [if_pos hok]
            rw [hok, hps] at HPT
            have HSN : Hid (textOf (cat (means text (x.p.take (k + 1)))) = textOf (cat (means text (x.p.take k))) ++ meanS text y) := Lib.hid (by rw [textOf_app, means_snoc hy])
            have HAL2 := Lib.hid (take_all hy hok HAL.out)
            have hmy := meanS_le HXL.out (List.mem_of_getElem? hy)
            have hac := acc_le HXL.out k
            clear hy hok hps HAL
            generalize meanS text y = my at *
            generalize textOf (cat (means text (x.p.take k))) = acc at *
            go_wp2_with fail
            refine (HPT.out _).mono ?_
            rintro e w2 ⟨rfl, hb2⟩
            have HB3 := Lib.hid (hb.out.trans (hb2.mono hb.out.size))
            have HO3 := Lib.hid (own_below HO.out hb2)
            clear hb2 HO hb c2 z0 z1 z2 z3 HPT
            go_wp2_with fail
            go_roundw
            case rel => exact ⟨k + 1, by rw [HSN.out], by go_num, by omega, HAL2, HB3, HO3⟩
            case measure => simp [intOf]; omega
          | false =>
            have hpe : partsE text x.p = 2 := by unfold partsE; rw [if_neg (by rw [all_drop hy hok]; simp)]
            have hEp : E = 2 := by
              have h1 := HCE2.out
              rw [hpe] at h1
              have h2 := HEE.out
              rw [h1] at h2
              exact h2
            subst hEp
            rw [hok] at HPT
            clear hy hok hpe HAL HCE2 HEE HE1 HTK
            generalize partS text y = my at *
            go_wp2_with fail
            refine (HPT.out _).mono ?_
            rintro e w2 ⟨rfl, hb2⟩
            have HB3 := Lib.hid (hb.out.trans (hb2.mono hb.out.size))
            clear hb2 HO hb c2 z0 z1 z2 z3 HPT
            go_wp2_with fail
            go_ret2
            exact ⟨_, rfl, HB3.out, fun h => (by omega), fun _ => rfl⟩
        · have hall : (x.p.take k) = x.p := List.take_of_length_le (by omega)
          rw [hall] at HAL ⊢
          have hpe : partsE text x.p = if 65536 < tot (means text x.p) then 3 else 0 := by unfold partsE; rw [if_pos HAL.out]
          have hsz : (textOf (cat (means text x.p))).size = tot (means text x.p) := textOf_size _
          have r1 : decide ((k : Int) < (x.p.length : Int)) = false := by simp; omega
          clear hall HAL
          by_cases hgt : 65536 < tot (means text x.p)
          · rw [if_pos hgt] at hpe
            have hEp : E = 3 := by
              have h1 := HCE2.out
              rw [hpe] at h1
              have h2 := HEE.out
              rw [h1] at h2
              exact h2
            subst hEp
            generalize textOf (cat (means text x.p)) = acc at *
            have hgt2 : (65536 : Int) < (acc.size : Int) := by omega
            clear hsz hgt hpe HCE2 HEE HE1 HTK hmt
            go_wp2_with fail
            go_ret2
            exact ⟨_, rfl, hb.out, fun h => (by omega), fun _ => rfl⟩
          · rw [if_neg hgt] at hpe
            have HCE : Hid (E1 = cutsE text (C.drop (i + 1))) := Lib.hid (by rw [HCE2.out, if_pos hpe])
            generalize textOf (cat (means text x.p)) = acc at *
            have hgt2 : ¬ (65536 : Int) < (acc.size : Int) := by omega
            have HS0 : Hid (wr.cell? ⟨b, o + i * 3, none⟩ = some (.int .i64 x.f) ∧ wr.cell? ⟨b, o + i * 3 + 1, none⟩ = some (.int .i64 x.t)) := Lib.hid ⟨cell_keep2 hb.out HD.out.1 hbw, cell_keep2 hb.out HD.out.2.1 hbw⟩
            have HLO := Lib.hid (fun j hj => (World.ownsRow.lt HO.out j hj))
            have HSZ := Lib.hid hb.out.size
            clear hsz hgt hpe HCE2 hmt
            go_wp2_with fail
            clear c2
            go_region_held3 (fun w' => w'.cell? ⟨b, o + i * 3, none⟩ = some (.int .i64 x.f) ∧ w'.cell? ⟨b, o + i * 3 + 1, none⟩ = some (.int .i64 x.t))
              (first | exact HS0.out | exact two_drew (two_keep HS0.out (alloc_below _ _)) | exact two_far (two_drew (two_keep HS0.out (alloc_below _ _))) hgrow2 (fun e => by have := (HLO.out _ e).1; omega))
              ((refine step_append_lies _ (by rfl) _ _ _ (by rfl) w.heap.size 62 i0 _ 3 32 Try.underlying22 hi0 hz0 hz1 hz2 rfl (by decide) _ i (scs (flatL text (C.take i))) (by rfl) ((HO.out.alloc _).drew) ⟨wr.heap.size, 0, none⟩ 1 1 [.int .i64 x.f, .int .i64 x.t, .string acc] (by rfl) (by rfl) (new_drew _ _ _) (one3 _ _ _) (by decide) (by unfold maxLen; omega) (by omega) (by simp; have := HSZ.out; omega) (wr.heap.size + 1) (by simp) ?_; intro gg cap w2 hown2 hgrow2 hat hlt2))
            have HO2 : Hid (w2.ownsRow w.heap.size 62 3 (.slice (some ⟨gg, 0, none⟩) (i + 1) cap) (i + 1) (scs (flatL text (C.take (i + 1))))) := Lib.hid (by rw [HTK.out]; exact hown2)
            have HB2 : Hid (Below w.heap.size w w2) := Lib.hid ((((hb.out.alloc HSZ.out _).drew).grown hgrow2 (by simp; have := HSZ.out; omega) (fun j ej => (HLO.out j ej).1)))
            clear hown2 hgrow2 hat hlt2 HO hb HTK HS0 HLO HSZ
            go_wp2_with fail
            go_roundw
            case rel => exact ⟨i + 1, _, rfl, by go_num, by omega, HCE, HO2, HB2⟩
            case measure => simp [intOf]; omega
    · obtain rfl : i = C.length := by omega
      have hE1 : E1 = 0 := by rw [hce.out, List.drop_eq_nil_of_le (Nat.le_refl _)]; rfl
      have hee := HEE.out
      rw [if_pos hE1] at hee
      have hl0 : (flatL text C).length = C.length := by unfold flatL; rw [List.length_map]
      have hO : SOwn wr w.heap.size (.slice p0 C.length cap0) (flatL text C) := by
        have := HO.out
        rw [List.take_of_length_le (Nat.le_refl _)] at this
        unfold SOwn
        rw [hl0]
        exact this
      have hrd : SR wr p0 (flatL text C) := by
        obtain ⟨A', c', e, h⟩ := hO.reads
        injection e with e1
        subst e1
        exact h
      have hfe : fits (text.size : Int) (flatL text C) = fits text.size (spl0 C) := by
        unfold fits
        rw [fits_parts _ _ (flatL text C) (spl0 C) (by unfold flatL spl0; rw [List.map_map, List.map_map]; rfl)]
      have hck := refFits_any (text.size : Int) p0 (flatL text C) cap0 (by omega) wr hrd
      rw [hl0, hfe] at hck
      have HCK := Lib.hid hck
      have HOO := Lib.hid hO
      have q : decide ((C.length : Int) < (C.length : Int)) = false := by simp
      clear hE1 hce HO hck hO hrd hl0 HEE HE1 hfe
      by_cases hf : fits text.size (spl0 C) = true
      · rw [hf] at HCK hee
        obtain rfl : E = 0 := hee
        clear hf
        go_wp2_with fail
        refine HCK.out.mono ?_
        rintro e w5 ⟨rfl, hb5⟩
        have HB5 := Lib.hid (hb.out.trans (hb5.mono hb.out.size))
        have HO5 := Lib.hid (HOO.out.keep hb5)
        clear hb5 hb HCK HOO
        go_wp2_with fail
        go_ret2
        first
          | exact ⟨_, rfl, HB5.out, fun _ => HO5.out, fun h => absurd rfl h⟩
          | exact ⟨_, rfl, HB5.out, HO5.out⟩
          | exact ⟨_, rfl, HB5.out, HO5.out, trivial⟩
      · have hf' : fits text.size (spl0 C) = false := by simpa using hf
        rw [hf'] at HCK hee
        obtain rfl : E = 2 := hee
        clear hf hf'
        go_wp2_with fail
        refine HCK.out.mono ?_
        rintro e w5 ⟨rfl, hb5⟩
        have HB5 := Lib.hid (hb.out.trans (hb5.mono hb.out.size))
        clear hb5 hb HCK
        go_wp2_with fail
        go_ret2
        exact ⟨_, rfl, HB5.out, fun h => (by omega), fun _ => rfl⟩
end Go.Proofs.Ytlgjlfljohapfaa
