/-
  lexer's lineEnds (a closure on the tokens so far) and pastGap AT EVERY TEXT of at most 1000000 bytes: what they make of the tokens so far, where a gap ends; nothing ahead of the tokens' variable turns. Conditions: the text's length; how many tokens there are.
-/
import Derived.Test.YtcbfohokigamfaaGreatDoorLGap0
namespace Go.Proofs.YtcbfohokigamfaaGreatDoor
open Go.RowKit

theorem ends_snoc (init : List Tok) (t : Tok) : ends (init ++ [t]) = if wants t then init ++ [t] ++ [(7, [], t.2.2.2, t.2.2.2)] else init ++ [t] :=
  ends_last _ t (by rw [List.getLast?_append, List.getLast?_singleton]; rfl)
set_option maxRecDepth 100000 in
set_option maxHeartbeats 1000000 in
theorem lineEnds_any (B L : Nat) (acc : List Tok) (W : World) (h : LSt B W L acc) (hl : acc.length ≤ 3000000) : Calls Tryz.prog 68 #[.pointer (some ⟨L, 0, none⟩)] W fun e W' => e = .returned (.tuple #[]) ∧ LSt B W' L (ends acc) ∧ Below L W W' := by
  obtain ⟨i0, hi, hz0, hz1, hz2⟩ := info_parts Tryz.info56
  obtain ⟨v, h1, h2, h3⟩ := h.cell
  obtain ⟨A, cap, rfl, hr⟩ := treads_of h3
  have HL := Lib.hid h
  have HO := Lib.hid h3
  rcases List.eq_nil_or_concat acc with hnil | ⟨init, t, hcon⟩
  · subst hnil
    clear h hr h2 h3 hi hz0 hz1 hz2
    go_enter Tryz.func68, Tryz.ntmps68
    go_wp2_with fail
    go_end0
    exact ⟨rfl, HL.out, Below.refl _ _⟩
  · obtain ⟨n, hn⟩ : ∃ n, init.length = n := ⟨_, rfl⟩
    have hlen : acc.length = n + 1 := by rw [hcon]; simp [hn]
    obtain ⟨g, hA, hc⟩ := hr (by omega)
    subst hA
    obtain ⟨c0, c1, c2, c3⟩ := hc n t (by rw [hcon, ← hn]; simp)
    have hk := h.kinds t (by rw [hcon]; simp)
    have HW := Lib.hid (fun (W : World) => wants_any t hk.1 hk.2 W)
    have HE := ends_snoc init t
    rw [← show acc = init ++ [t] from by rw [hcon]; simp] at HE
    have HEE := Lib.hid HE
    have HKK := Lib.hid h.kinds
    rw [hlen] at h1 HO
    have d : decide (0 < (n : Int) + 1) = true := by rw [decide_eq_true_eq]; omega
    have hn3 : (n : Int) ≤ 3000000 := by omega
    have HLN := Lib.hid hlen
    obtain ⟨q, x, a, b⟩ := t
    simp only at c0 c1 c2 c3 HW
    clear h hr h3 hc hk HE hn hcon hlen hl
    cases hw : wants (q, x, a, b) with
    | false =>
      rw [hw] at HW
      have HEE2 : Hid (ends acc = acc) := Lib.hid (by rw [HEE.out, hw]; rfl)
      clear hw HEE hi hz0 hz1 hz2 h2
      go_enter Tryz.func68, Tryz.ntmps68
      go_wp2_with fail
      refine (HW.out _).mono ?_
      rintro e w1 ⟨rfl, hb⟩
      have HB := Lib.hid hb
      clear hb
      go_wp2_with fail
      go_end0
      rw [HEE2.out]
      exact ⟨rfl, HL.out.below HB.out, HB.out.mono (Nat.le_of_lt (Nat.lt_of_lt_of_le HL.out.lt HL.out.sz))⟩
    | true =>
      rw [hw] at HW
      have HEE2 : Hid (ends acc = acc ++ [(7, [], b, b)]) := Lib.hid (by rw [HEE.out, hw]; rfl)
      clear hw HEE
      go_enter Tryz.func68, Tryz.ntmps68
      go_wp2_with fail
      refine (HW.out _).mono ?_
      rintro e w1 ⟨rfl, hb⟩
      have HB := Lib.hid hb
      replace h1 := cell_keep2 hb h1
      replace c3 := cell_keep2 hb c3
      have hf : w1.frozen? ⟨L, 0, none⟩ = false := by rw [hb.frozen (p := ⟨L, 0, none⟩) (Nat.lt_of_lt_of_le HL.out.lt HL.out.sz)]; exact h2
      have HO1 := Lib.hid (ownsRow_below HO.out hb)
      have HL1 := Lib.hid (HL.out.below hb)
      have HWS := Lib.hid HL1.out.sz
      clear hb h2 c0 c1 c2
      go_wp2_with (at_builtin; refine wpList_append_own2 _ rfl _ _ 48 rfl B 56 i0 (.agg #[.int .i64 0, .string ⟨#[]⟩, .int .i64 0, .int .i64 0]) 4 40 Tryz.underlying48 hi hz0 hz1 hz2 rfl (by decide) _ _ _ rfl (World.ownsRow.alloc HO1.out _) ⟨w1.heap.size, 0, none⟩ 1 1 [.int .i64 7, .string ⟨#[]⟩, .int .i64 (b : Int), .int .i64 (b : Int)] rfl rfl (new_cell _ _ _) ?c2 ?c3 ?c4 ?c5 ?_)
      case c2 => simp [Value.oneCell']
      case c3 => unfold maxLen; omega
      case c4 => omega
      case c5 => rw [World.size_alloc]; have := HWS.out; omega
      intro v2 w2 hown2 hgr2 _
      have hk2 : ∀ t ∈ acc ++ [((7, [], b, b) : Tok)], 1 ≤ t.1 ∧ t.1 ≤ 7 := fun t ht => by
        rcases List.mem_append.1 ht with ht | ht
        · exact HKK.out t ht
        · obtain rfl : t = (7, [], b, b) := by simpa using ht
          exact ⟨by show 1 ≤ 7; decide, by show 7 ≤ 7; decide⟩
      have kk : Below w1.heap.size w1 (w1.alloc (.cells #[.int .i64 7, .string ⟨#[]⟩, .int .i64 (b : Int), .int .i64 (b : Int)] 56)) := (Below.refl _ _).alloc (Nat.le_refl _) _
      have hown3 : w2.ownsRow B 56 4 v2 (acc ++ [((7, [], b, b) : Tok)]).length (tcells (acc ++ [((7, [], b, b) : Tok)])) := by
        rw [tcells_snoc, List.length_append, List.length_singleton, HLN.out]
        exact hown2
      have hO2 := World.ownsRow.alloc HO1.out (.cells #[.int .i64 7, .string ⟨#[]⟩, .int .i64 (b : Int), .int .i64 (b : Int)] 56)
      rw [← HLN.out] at hO2
      have hset := lset (HL1.out.below kk) hO2 (by rw [HLN.out]; exact hgr2) hown3 hk2
      have HS := Lib.hid hset
      have hLb : L < w1.heap.size := Nat.lt_of_lt_of_le HL1.out.lt HL1.out.sz
      have hc2 : w2.cell? ⟨L, 0, none⟩ = some (.slice (some ⟨g, 0, none⟩) (n + 1) cap) := by
        rw [cell_block (hgr2.block L (by rw [World.size_alloc]; omega) (own_far hO2 L (.inl HL1.out.lt) ∘ fun e => by rw [HLN.out]; exact e)) 0]
        exact cell_keep2 kk h1
      have hf2 : w2.frozen? ⟨L, 0, none⟩ = false := by
        rw [frozen_block (hgr2.block L (by rw [World.size_alloc]; omega) (own_far hO2 L (.inl HL1.out.lt) ∘ fun e => by rw [HLN.out]; exact e)) 0]
        exact (kk.frozen (p := ⟨L, 0, none⟩) hLb).trans hf
      obtain ⟨A2, cp2, rfl⟩ := slice_form hown3
      have HBL : Hid (Below L W (w1.alloc (.cells #[.int .i64 7, .string ⟨#[]⟩, .int .i64 (b : Int), .int .i64 (b : Int)] 56))) := Lib.hid ((HB.out.trans (kk.mono HB.out.size)).mono (Nat.le_of_lt (Nat.lt_of_lt_of_le HL.out.lt HL.out.sz)))
      clear hset hO2 hown3 hown2 hgr2 hk2 kk h1 hf hi hz0 hz1 hz2
      go_wp2_with fail
      go_end0
      have hs := HS.out
      rw [List.length_append, List.length_singleton] at hs
      rw [HEE2.out]
      exact ⟨rfl, hs.1, HBL.out.trans (hs.2.mono (Nat.le_refl _))⟩
end Go.Proofs.YtcbfohokigamfaaGreatDoor
