/-
  frame's drop OF A READER THAT LIES IN MEMORY: what is held then; nothing that was there turns but the reader's block. Condition: so many bytes are held.
-/
import Derived.Test.YtmaihiklcdidbaaDoorReader2
namespace Go.Proofs.YtmaihiklcdidbaaDoor
open Go.RowKit

theorem Row.of_owns {W : World} {B : Nat} {v : Value} {l : List UInt8} (h : W.ownsRow B 5 1 v l.length (l.map bcell)) : Row W v l ∧ ∀ k, v.ownBlock = some k → B ≤ k := by
  rcases h.2 with ⟨rfl, h0⟩ | ⟨g, cap, cur, rfl, hB, hg, h1, h2, h3, h4⟩
  · exact ⟨.inl ⟨rfl, List.eq_nil_of_length_eq_zero h0⟩, fun k hk => by cases hk⟩
  · refine ⟨.inr ⟨g, 0, cap, rfl, h1, h2, heap_lt hg, fun j c hj => ?_, fun j hj => ⟨?_, ?_⟩⟩, fun k hk => by cases hk; exact hB⟩
    · rw [Nat.zero_add, cell_at hg]
      have hjl := (List.getElem?_eq_some_iff.1 hj).1
      have e : (l.map bcell)[j]? = some (bcell c) := by rw [List.getElem?_map, hj]; rfl
      rw [← h4, Nat.mul_one, List.getElem?_take_of_lt hjl, Array.getElem?_toList] at e
      exact e
    · rw [Nat.zero_add, cell_at hg, Array.getElem?_eq_getElem (by omega)]; rfl
    · exact frozen_of_row W g _ _ _ hg
theorem bcell_nums (l : List UInt8) : (nums l).map (Value.int .u8) = l.map bcell := by unfold nums; rw [List.map_map]; rfl
set_option maxRecDepth 100000 in
set_option maxHeartbeats 1000000 in
theorem drop_any (R k : Nat) (g : Option Nat) (l : List UInt8) (hk : k ≤ l.length) (hk1 : 1 ≤ k) (w : World) (h : RdIn w R g (.live l)) :
    Calls Tryd.prog 25 #[.pointer (some ⟨R, 0, none⟩), .int .i64 (k : Int)] w fun e w' => (∃ v, e = .returned v) ∧ RdEnd w R g (.live (l.drop k)) w' := by
  obtain ⟨v, p, hR, hv, hp, hg, hne, hl⟩ := h
  rcases hv with ⟨_, rfl⟩ | ⟨b, o, cap, rfl, h1, h2, h3, h4, h5⟩
  · simp at hk; omega
  · have c1 := cell_at hR 1
    have c2 := cell_at hR 2
    have f1 := frozen_of_row w R 1 _ _ hR
    have f2 := frozen_of_row w R 2 _ _ hR
    have HR := Lib.hid hR
    have hd : (l.drop k).length = l.length - k := List.length_drop
    clear hR
    by_cases hck : cap = k
    · have hlk : l.length = k := by omega
      have hlt := heap_lt HR.out
      obtain ⟨W2, hW2⟩ : ∃ W2, W2 = (w.setCell ⟨R, 1, none⟩ (.slice (some ⟨b, o, none⟩) 0 0)).setCell ⟨R, 2, none⟩ (.int .i64 ((p : Int) + k)) := ⟨_, rfl⟩
      have hbR : b ≠ R := by rintro rfl; exact hne hg.symm
      have hR2 : W2.heap[R]? = some (.cells #[.pointer (some ⟨R, 0, none⟩), .slice (some ⟨b, o, none⟩) 0 0, .int .i64 ((p : Int) + k), .bool false, .int .i64 0] 52 (0, 0)) := by
        rw [hW2]; exact heap_setCell_same _ R 2 _ _ _ (heap_setCell_same w R 1 _ _ _ HR.out)
      have hb2 : W2.heap[b]? = w.heap[b]? := by
        rw [hW2, heap_setCell_other _ ⟨R, 2, none⟩ b _ hbR, heap_setCell_other w ⟨R, 1, none⟩ b _ hbR]
      have hF2 : Fr (rdX R g) w W2 := by rw [hW2]; exact ((Fr.refl (rdX R g) w).setCell (.inl (.inl rfl)) _).setCell (.inl (.inl rfl)) _
      have hrow : Row W2 (.slice (some ⟨b, o, none⟩) 0 0) (l.drop k) := by
        refine .inr ⟨b, o, 0, by rw [hd, hlk, Nat.sub_self], by rw [hd]; omega, by omega, Nat.lt_of_lt_of_le h3 hF2.size, fun j c hj => ?_, fun j hj => ?_⟩
        · rw [List.getElem?_drop] at hj
          have := (List.getElem?_eq_some_iff.1 hj).1
          omega
        · omega
      have HROW := Lib.hid hrow
      have HF2 := Lib.hid hF2
      have HR2 := Lib.hid hR2
      have HW2 := Lib.hid hW2
      have hown : Hid (g = some b) := Lib.hid hg.symm
      have hc : (0 : Int) < (p : Int) + k := by omega
      have hc3 : ¬ ((p : Int) + k ≤ 0) := by omega
      have HC : Hid (∀ q, Calls Tryd.prog 31 #[.slice (some ⟨b, o, none⟩) 0 0] (W2.drewN q) fun e w' => ∃ v', e = .returned v' ∧ w'.ownsRow (W2.drewN q).heap.size 5 1 v' 0 ((l.drop k).map bcell) ∧ Below (W2.drewN q).heap.size (W2.drewN q) w') := Lib.hid (fun q => by
        obtain ⟨p0, c0, hv0, _, _, _, hB⟩ := hrow.shape
        simp only [Value.slice.injEq] at hv0
        obtain ⟨hp0, _, _⟩ := hv0
        subst hp0
        have hx : (nums (l.drop k)).length = 0 := by rw [nums_len, hd]; omega
        have := Tryd.bytes_Clone_at ⟨b, o, none⟩ 0 0 (nums (l.drop k)) (W2.drewN q) hx (by omega) (fun i hi => by
          obtain ⟨b0, o0, e0, h0⟩ := (hB.below (drewN_below (Below.refl _ _) q)) (by omega)
          cases e0
          rw [Addr.add_lit]
          exact h0 i (by omega))
        rw [bcell_nums] at this
        exact this.mono fun e w' ⟨v', a1, a2, _, a4⟩ => ⟨v', a1, a2, a4⟩)
      rw [HW2.out] at HC
      clear hrow hF2 hR2 hW2 hb2
      go_enter Tryd.func25, Tryd.ntmps25
      go_wp2_with fail
      go_quiet (fail)
      go_wp2_with fail
      refine (HC.out nq).mono ?_
      rintro e w4 ⟨v4, rfl, ho4, hb4⟩
      rw [← HW2.out] at ho4 hb4
      have hd' : (l.drop k).length = 0 := by omega
      rw [← hd'] at ho4
      obtain ⟨hr4, hn4⟩ := Row.of_owns ho4
      obtain ⟨p4, cap4, hv4, _, _, _, _⟩ := hr4.shape
      subst hv4
      rw [hd'] at hr4 hn4
      have HB4 : Hid (Below W2.heap.size W2 w4) := Lib.hid ((drewN_below (Below.refl _ W2) nq).trans hb4)
      have hR4 := heap_keep HB4.out HR2.out
      have k1 := cell_at hR4 1
      have k2 := cell_at hR4 2
      have g1 := frozen_of_row w4 R 1 _ _ hR4
      have g2 := frozen_of_row w4 R 2 _ _ hR4
      have HR4 := Lib.hid hR4
      have HROW4 := Lib.hid hr4
      have hz2 : W2.heap.size = w.heap.size := by rw [HW2.out, World.size_setCell, World.size_setCell]
      have hn4' : ∀ j, (Value.slice p4 0 cap4).ownBlock = some j → w.heap.size ≤ j := fun j hj => by
        have : W2.heap.size ≤ j := hn4 j hj
        omega
      clear ho4 hb4 hr4 hR4 HC
      rw [hd']
      go_wp2_with fail
      go_end0
      refine ⟨⟨_, rfl⟩, RdEnd.mk (p := 0) (heap_setCell_same _ R 2 _ _ _ (heap_setCell_same w4 R 1 _ _ _ HR4.out)) ((HROW4.out.set (fun e => by have := hn4' R e; omega)).set (fun e => by have := hn4' R e; omega)) (Nat.zero_le _) (fun j hj => .inr (hn4' j hj)) hne hlt (by omega) (((HF2.out.trans (Fr.of_below HB4.out)).setCell (.inl (.inl rfl)) _).setCell (.inl (.inl rfl)) _)⟩
    · have hlt := heap_lt HR.out
      obtain ⟨W2, hW2⟩ : ∃ W2, W2 = (w.setCell ⟨R, 1, none⟩ (.slice (some ⟨b, o + k, none⟩) (l.length - k) (cap - k))).setCell ⟨R, 2, none⟩ (.int .i64 ((p : Int) + k)) := ⟨_, rfl⟩
      have hbR : b ≠ R := by rintro rfl; exact hne hg.symm
      have hR2 : W2.heap[R]? = some (.cells #[.pointer (some ⟨R, 0, none⟩), .slice (some ⟨b, o + k, none⟩) (l.length - k) (cap - k), .int .i64 ((p : Int) + k), .bool false, .int .i64 0] 52 (0, 0)) := by
        rw [hW2]; exact heap_setCell_same _ R 2 _ _ _ (heap_setCell_same w R 1 _ _ _ HR.out)
      have hb2 : W2.heap[b]? = w.heap[b]? := by
        rw [hW2, heap_setCell_other _ ⟨R, 2, none⟩ b _ hbR, heap_setCell_other w ⟨R, 1, none⟩ b _ hbR]
      have hF2 : Fr (rdX R g) w W2 := by rw [hW2]; exact ((Fr.refl (rdX R g) w).setCell (.inl (.inl rfl)) _).setCell (.inl (.inl rfl)) _
      have hrow : Row W2 (.slice (some ⟨b, o + k, none⟩) (l.length - k) (cap - k)) (l.drop k) := by
        refine .inr ⟨b, o + k, cap - k, by rw [hd], by rw [hd]; omega, by omega, Nat.lt_of_lt_of_le h3 hF2.size, fun j c hj => ?_, fun j hj => ?_⟩
        · rw [List.getElem?_drop] at hj
          rw [cell_blk' hb2, Nat.add_assoc]
          exact h4 (k + j) c hj
        · rw [cell_blk' hb2, World.frozen?_of_block (a := ⟨b, o + k + j, none⟩) hb2, Nat.add_assoc]
          exact h5 (k + j) (by omega)
      have HROW := Lib.hid hrow
      have HF2 := Lib.hid hF2
      have HR2 := Lib.hid hR2
      have HW2 := Lib.hid hW2
      have hown : Hid (g = some b) := Lib.hid hg.symm
      by_cases hc : ((l.length - k : Nat) : Int) < (p : Int) + k
      · have HC : Hid (∀ q, Calls Tryd.prog 31 #[.slice (some ⟨b, o + k, none⟩) (l.length - k) (cap - k)] (W2.drewN q) fun e w' => ∃ v', e = .returned v' ∧ w'.ownsRow (W2.drewN q).heap.size 5 1 v' (l.length - k) ((l.drop k).map bcell) ∧ Below (W2.drewN q).heap.size (W2.drewN q) w') := Lib.hid (fun q => by
          obtain ⟨p0, c0, hv0, _, _, _, hB⟩ := hrow.shape
          simp only [Value.slice.injEq] at hv0
          obtain ⟨hp0, _, _⟩ := hv0
          subst hp0
          have hx : (nums (l.drop k)).length = l.length - k := by rw [nums_len, hd]
          have := Tryd.bytes_Clone_at ⟨b, o + k, none⟩ (l.length - k) (cap - k) (nums (l.drop k)) (W2.drewN q) hx (by omega) (fun i hi => by
            obtain ⟨b0, o0, e0, h0⟩ := (hB.below (drewN_below (Below.refl _ _) q)) (by omega)
            cases e0
            rw [Addr.add_lit]
            exact h0 i (by omega))
          rw [bcell_nums] at this
          exact this.mono fun e w' ⟨v', a1, a2, _, a4⟩ => ⟨v', a1, a2, a4⟩)
        rw [HW2.out] at HC
        clear hrow hF2 hR2 hW2 hb2
        go_enter Tryd.func25, Tryd.ntmps25
        go_wp2_with fail
        go_quiet (fail)
        go_wp2_with fail
        refine (HC.out nq).mono ?_
        rintro e w4 ⟨v4, rfl, ho4, hb4⟩
        rw [← HW2.out] at ho4 hb4
        have hd' : (l.drop k).length = l.length - k := hd
        rw [← hd'] at ho4
        obtain ⟨hr4, hn4⟩ := Row.of_owns ho4
        obtain ⟨p4, cap4, hv4, _, _, _, _⟩ := hr4.shape
        subst hv4
        rw [hd'] at hr4 hn4
        have HB4 : Hid (Below W2.heap.size W2 w4) := Lib.hid ((drewN_below (Below.refl _ W2) nq).trans hb4)
        have hR4 := heap_keep HB4.out HR2.out
        have k1 := cell_at hR4 1
        have k2 := cell_at hR4 2
        have g1 := frozen_of_row w4 R 1 _ _ hR4
        have g2 := frozen_of_row w4 R 2 _ _ hR4
        have HR4 := Lib.hid hR4
        have HROW4 := Lib.hid hr4
        have hz2 : W2.heap.size = w.heap.size := by rw [HW2.out, World.size_setCell, World.size_setCell]
        have hn4' : ∀ j, (Value.slice p4 (l.length - k) cap4).ownBlock = some j → w.heap.size ≤ j := fun j hj => by
          have : W2.heap.size ≤ j := hn4 j hj
          omega
        clear ho4 hb4 hr4 hR4 HC
        rw [hd']
        go_wp2_with fail
        go_end0
        refine ⟨⟨_, rfl⟩, RdEnd.mk (p := 0) (heap_setCell_same _ R 2 _ _ _ (heap_setCell_same w4 R 1 _ _ _ HR4.out)) ((HROW4.out.set (fun e => by have := hn4' R e; omega)).set (fun e => by have := hn4' R e; omega)) (Nat.zero_le _) (fun j hj => .inr (hn4' j hj)) hne hlt (by omega) (((HF2.out.trans (Fr.of_below HB4.out)).setCell (.inl (.inl rfl)) _).setCell (.inl (.inl rfl)) _)⟩
      · clear hrow hF2 hR2 hW2 hb2
        go_enter Tryd.func25, Tryd.ntmps25
        go_wp2_with fail
        go_quiet (fail)
        go_wp2
        go_end0
        rw [← HW2.out]
        have hbd : Below W2.heap.size W2 (W2.drewN nq) := drewN_below (Below.refl _ W2) nq
        refine ⟨⟨_, rfl⟩, RdEnd.mk (p := p + k) (heap_keep hbd HR2.out) (HROW.out.keep hbd.size (fun j hj _ => hbd.block j hj)) (by omega) (fun j hj => .inl (by cases hj; exact hown.out)) hne hlt (by omega) (HF2.out.trans (Fr.of_below hbd))⟩
end Go.Proofs.YtmaihiklcdidbaaDoor
