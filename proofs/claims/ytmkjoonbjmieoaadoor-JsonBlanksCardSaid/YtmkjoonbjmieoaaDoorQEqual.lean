/-
  emendlaw04.equal: a value equals itself, wherever its two copies lie. Condition: the value's size.
-/
import Derived.Test.YtmkjoonbjmieoaaDoorQFaultOf
import Derived.Deep.RegionHeld3
namespace Go.Proofs.YtmkjoonbjmieoaaDoor
open Go.RowKit

/-- Two values' blocks. -/
structure TwoJ (w : World) (c1 c2 : Array Value) (W : World) : Prop where
  below : Below w.heap.size w W
  one : W.heap[w.heap.size]? = some (.cells c1 26 (0, 0))
  two : W.heap[w.heap.size + 1]? = some (.cells c2 26 (0, 0))
theorem TwoJ.step {w W W' : World} {c1 c2 : Array Value} (h : TwoJ w c1 c2 W) (hb : Below W.heap.size W W') : TwoJ w c1 c2 W' :=
  ⟨h.below.trans (hb.mono h.below.size), heap_keep hb h.one, heap_keep hb h.two⟩
theorem TwoJ.new (w : World) (c1 c2 : Array Value) : TwoJ w c1 c2 ((w.alloc (.cells c1 26)).alloc (.cells c2 26)) := by
  have hb1 := alloc_below w (.cells c1 26)
  have hz1 : (w.alloc (.cells c1 26)).heap.size = w.heap.size + 1 := World.size_alloc ..
  have hb2 := alloc_below (w.alloc (.cells c1 26)) (.cells c2 26)
  have ht2 := alloc_top (w.alloc (.cells c1 26)) c2 26
  rw [hz1] at ht2
  exact ⟨hb1.trans (hb2.mono hb1.size), heap_keep hb2 (alloc_top w c1 _), ht2⟩
theorem below_drewJ {W W' : World} (k : Below W.drew.heap.size W.drew W') : Below W.heap.size W W' := ⟨k.os, k.tape, k.output, k.size, k.block⟩
set_option maxRecDepth 100000 in
set_option maxHeartbeats 4000000 in
theorem equalJ_step (j : J) (hsz : szJ j ≤ 1000000) (hih : ∀ t : J, szJ t < szJ j → ∀ (P Q : Nat → Prop) (u v : Value) (w : World), JIn w P t u → JIn w Q t v → Calls Tryd.prog 9 #[u, v] w fun e w' => e = .returned (.bool true) ∧ Below w.heap.size w w')
    (P Q : Nat → Prop) (u v : Value) (w : World) (hu : JIn w P j u) (hv : JIn w Q j v) : Calls Tryd.prog 9 #[u, v] w fun e w' => e = .returned (.bool true) ∧ Below w.heap.size w w' := by
  obtain ⟨k, s, ks, l⟩ := j
  rw [szJ_eq] at hsz hih
  obtain ⟨ka, kc, ia, ic, rfl, hk1, hl1⟩ := hu.open
  obtain ⟨kb, kd, ib, id, rfl, hk2, hl2⟩ := hv.open
  have hkl := szK_len ks
  have hll := szL_len l
  have HT := Lib.hid (TwoJ.new w #[.int .i64 k, .string (txt s), .slice ka ks.length kc, .slice ia l.length ic] #[.int .i64 k, .string (txt s), .slice kb ks.length kd, .slice ib l.length id])
  have HK1 := Lib.hid hk1
  have HK2 := Lib.hid hk2
  have HL1 := Lib.hid hl1
  have HL2 := Lib.hid hl2
  have HIH : Hid (∀ t ∈ l, ∀ (u v : Value) (w : World), JIn w P t u → JIn w Q t v → Calls Tryd.prog 9 #[u, v] w fun e w' => e = .returned (.bool true) ∧ Below w.heap.size w w') := Lib.hid (fun t ht => hih t (by have := szL_mem ht; omega) P Q)
  obtain ⟨x0, x1, x2, x3⟩ := tok_cells HT.out.one
  obtain ⟨y0, y1, y2, y3⟩ := tok_cells HT.out.two
  generalize hkn : ks.length = kn at *
  generalize hln : l.length = ln at *
  have HKN := Lib.hid hkn
  have HLN := Lib.hid hln
  have hknb : kn ≤ 1000000 := by omega
  have hlnb : ln ≤ 1000000 := by omega
  have hz1 : ((w.alloc (.cells #[.int .i64 k, .string (txt s), .slice ka kn kc, .slice ia ln ic] 26))).heap.size = w.heap.size + 1 := World.size_alloc ..
  clear hu hv hk1 hk2 hl1 hl2 hih hsz hkl hll hkn hln
  go_enter Tryd.func9, Tryd.ntmps9
  go_wp2_with fail
  go_loopw [5] (fun vi wr => ∃ i : Nat, i ≤ kn ∧ vi = .int .i64 i ∧ Hid (TwoJ w #[.int .i64 k, .string (txt s), .slice ka kn kc, .slice ia ln ic] #[.int .i64 k, .string (txt s), .slice kb kn kd, .slice ib ln id] wr)) (fun vi _ => kn - (intOf vi).toNat)
  case atStart => exact ⟨0, Nat.zero_le _, rfl, HT⟩
  case round =>
    clear HT x0 x1 x2 x3 y0 y1 y2 y3
    obtain ⟨i, hi, rfl, ht⟩ := hrel
    obtain ⟨x0, x1, x2, x3⟩ := tok_cells ht.out.one
    obtain ⟨y0, y1, y2, y3⟩ := tok_cells ht.out.two
    by_cases hlt : i < kn
    · have hltz : (i : Int) < (kn : Int) := by omega
      have hik : i < ks.length := by rw [HKN.out]; exact hlt
      obtain ⟨b1, o1, rfl, hc1⟩ := kin_at (HK1.out.below ht.out.below) (by omega)
      obtain ⟨b2, o2, rfl, hc2⟩ := kin_at (HK2.out.below ht.out.below) (by omega)
      have a1 := hc1 i _ (List.getElem?_eq_getElem hik)
      have a2 := hc2 i _ (List.getElem?_eq_getElem hik)
      generalize ks[i] = x at a1 a2
      clear hc1 hc2 hik
      go_wp2_with fail
      go_quiet (fail)
      go_wp2_with fail
      go_roundw
      case rel => exact ⟨i + 1, by omega, by go_num, Lib.hid (ht.out.step (below_drewNv (Below.refl _ _) _))⟩
      case measure => simp [intOf]; omega
    · have hltz : ¬ (i : Int) < (kn : Int) := by omega
      have HT := Lib.hid ht.out
      clear hlt hi
      go_wp2_with fail
      go_loopw [6] (fun vi wr => ∃ i : Nat, i ≤ ln ∧ vi = .int .i64 i ∧ Hid (TwoJ w #[.int .i64 k, .string (txt s), .slice ka kn kc, .slice ia ln ic] #[.int .i64 k, .string (txt s), .slice kb kn kd, .slice ib ln id] wr)) (fun vi _ => ln - (intOf vi).toNat)
      case atStart => exact ⟨0, Nat.zero_le _, rfl, HT⟩
      case round =>
        clear HT x0 x1 x2 x3 y0 y1 y2 y3 ht
        obtain ⟨i, hi, rfl, ht⟩ := hrel
        obtain ⟨x0, x1, x2, x3⟩ := tok_cells ht.out.one
        obtain ⟨y0, y1, y2, y3⟩ := tok_cells ht.out.two
        by_cases hlt : i < ln
        · have hltz : (i : Int) < (ln : Int) := by omega
          have hil : i < l.length := by rw [HLN.out]; exact hlt
          obtain ⟨b1, o1, rfl, -, hr1⟩ := (HL1.out.below ht.out.below) (by omega)
          obtain ⟨b2, o2, rfl, -, hr2⟩ := (HL2.out.below ht.out.below) (by omega)
          obtain ⟨t, htt⟩ : ∃ t, t = l[i] := ⟨_, rfl⟩
          have hti : l[i]? = some t := by rw [htt]; exact List.getElem?_eq_getElem hil
          have HTM : Hid (t ∈ l) := Lib.hid (by rw [htt]; exact List.getElem_mem hil)
          obtain ⟨p0, p1, p2, p3, d0, d1, d2, d3, hj1⟩ := hr1.at hti
          obtain ⟨q0, q1, q2, q3, e0, e1, e2, e3, hj2⟩ := hr2.at hti
          have HI := Lib.hid (fun (W : World) (hb : Below wr.heap.size wr W) => HIH.out t HTM.out _ _ W (hj1.below hb) (hj2.below hb))
          have HS0 := Lib.hid (show (wr.cell? ⟨w.heap.size, 3, none⟩ = some (.slice (some ⟨b1, o1, none⟩) ln ic) ∧ wr.cell? ⟨w.heap.size + 1, 3, none⟩ = some (.slice (some ⟨b2, o2, none⟩) ln id) ∧ wr.cell? ⟨b1, o1 + i * 4, none⟩ = some p0 ∧ wr.cell? ⟨b1, o1 + i * 4 + 1, none⟩ = some p1 ∧ wr.cell? ⟨b1, o1 + i * 4 + 2, none⟩ = some p2 ∧ wr.cell? ⟨b1, o1 + i * 4 + 3, none⟩ = some p3 ∧ wr.cell? ⟨b2, o2 + i * 4, none⟩ = some q0 ∧ wr.cell? ⟨b2, o2 + i * 4 + 1, none⟩ = some q1 ∧ wr.cell? ⟨b2, o2 + i * 4 + 2, none⟩ = some q2 ∧ wr.cell? ⟨b2, o2 + i * 4 + 3, none⟩ = some q3) from ⟨x3, y3, d0, d1, d2, d3, e0, e1, e2, e3⟩)
          clear hr1 hr2 hj1 hj2 htt hti hil
          go_wp2_with fail
          clear x0 x1 x2 x3 y0 y1 y2 y3 d0 d1 d2 d3 e0 e1 e2 e3
          go_region_held3 (fun W => W.cell? ⟨w.heap.size, 3, none⟩ = some (.slice (some ⟨b1, o1, none⟩) ln ic) ∧ W.cell? ⟨w.heap.size + 1, 3, none⟩ = some (.slice (some ⟨b2, o2, none⟩) ln id) ∧ W.cell? ⟨b1, o1 + i * 4, none⟩ = some p0 ∧ W.cell? ⟨b1, o1 + i * 4 + 1, none⟩ = some p1 ∧ W.cell? ⟨b1, o1 + i * 4 + 2, none⟩ = some p2 ∧ W.cell? ⟨b1, o1 + i * 4 + 3, none⟩ = some p3 ∧ W.cell? ⟨b2, o2 + i * 4, none⟩ = some q0 ∧ W.cell? ⟨b2, o2 + i * 4 + 1, none⟩ = some q1 ∧ W.cell? ⟨b2, o2 + i * 4 + 2, none⟩ = some q2 ∧ W.cell? ⟨b2, o2 + i * 4 + 3, none⟩ = some q3) (first | exact HS0.out | exact (by obtain ⟨h0, h1, h2, h3, h4, h5, h6, h7, h8, h9⟩ := HS0.out; exact ⟨cell_keep2 (below_drewJ kq) h0, cell_keep2 (below_drewJ kq) h1, cell_keep2 (below_drewJ kq) h2, cell_keep2 (below_drewJ kq) h3, cell_keep2 (below_drewJ kq) h4, cell_keep2 (below_drewJ kq) h5, cell_keep2 (below_drewJ kq) h6, cell_keep2 (below_drewJ kq) h7, cell_keep2 (below_drewJ kq) h8, cell_keep2 (below_drewJ kq) h9⟩)) (first | (go_at_call 9; refine (HI.out _ ((Below.refl _ _).drew)).mono ?_; rintro e w' ⟨rfl, kq⟩))
          have HT2 := Lib.hid (ht.out.step (below_drewJ kq))
          clear kq HS0
          go_wp2_with fail
          go_roundw
          case rel => exact ⟨i + 1, by omega, by go_num, HT2⟩
          case measure => simp [intOf]; omega
        · have hltz : ¬ (i : Int) < (ln : Int) := by omega
          go_wp2_with fail
          go_ret
          exact ⟨rfl, ht.out.below⟩
theorem equalJ_any : ∀ (n : Nat) (j : J), szJ j ≤ n → n ≤ 1000000 → ∀ (P Q : Nat → Prop) (u v : Value) (w : World), JIn w P j u → JIn w Q j v → Calls Tryd.prog 9 #[u, v] w fun e w' => e = .returned (.bool true) ∧ Below w.heap.size w w'
  | 0, j, h, _ => by have := szJ_pos j; omega
  | n + 1, j, h, hn => equalJ_step j (by omega) (fun t ht => equalJ_any n t (by omega) (by omega))
end Go.Proofs.YtmkjoonbjmieoaaDoor
