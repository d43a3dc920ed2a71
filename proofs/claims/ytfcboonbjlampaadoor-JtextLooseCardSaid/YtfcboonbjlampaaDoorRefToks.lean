/-
  emendref03.Tokens AT EVERY TEXT of at most 1000000 bytes: what it returns; no memory that was there turns. Condition: the text's length.
-/
import Derived.Test.YtfcboonbjlampaaDoorRefNext
import Derived.Test.YtfcboonbjlampaaDoorStep2
import Derived.Test.YtfcboonbjlampaaDoorAwake
namespace Go.Proofs.YtfcboonbjlampaaDoor
open Go.RowKit

theorem Tryd.info31 : (Tryd.prog.info? 31).map (fun i => (i.zero, i.size, i.bytes)) = some (some (.agg #[.int .i64 0, .string ⟨#[]⟩, .int .i64 0, .int .i64 0]), 4, 40) := by kernel_rfl
theorem toks_blank1 (k : Nat) (l : List UInt8) (h : fst isB l = true) : toks k l = toks (k + 1) (l.drop 1) := by
  rw [toks_blanks k l, toks_blanks (k + 1) (l.drop 1), run_yes isB l h, List.drop_drop, show k + (run isB (l.drop 1) + 1) = k + 1 + run isB (l.drop 1) by omega, Nat.add_comm 1]
theorem isB_eq (c : UInt8) : isB c = true ↔ (c.toNat = 32 ∨ c.toNat = 9 ∨ c.toNat = 10 ∨ c.toNat = 13) := by
  have : ∀ k : Fin 256, isB (UInt8.ofNat k.val) = decide (k.val = 32 ∨ k.val = 9 ∨ k.val = 10 ∨ k.val = 13) := by decide +kernel
  have h := this ⟨c.toNat, c.toNat_lt⟩
  simp only [UInt8.ofNat_toNat] at h
  rw [h, decide_eq_true_eq]
theorem valid_next (s : ByteArray) (k n : Nat) (hv : valid (rest s k) = true) (h0 : 0 < n) (hn : n ≤ s.size - k) (hl : nth (rest s k) (n - 1) < 128) : valid (rest s (k + n)) = true := by
  rw [← rest_drop]
  exact valid_drop _ n hv h0 (by rw [rest_len]; exact hn) hl
/-- What emendref03.Tokens hands back. -/
def RefTokensEnd (s : ByteArray) (w : World) (e : Ending) (w' : World) : Prop :=
  ∃ v, e = .returned (.tuple #[v, .int .i64 (plc (tokensR s.data.toList) : Int), .int .i64 (err (tokensR s.data.toList) : Int)]) ∧
    w'.ownsRow w.heap.size 31 4 v (lst (tokensR s.data.toList)).length (tcells (lst (tokensR s.data.toList))) ∧ Below w.heap.size w w'
set_option maxRecDepth 100000 in
set_option maxHeartbeats 4000000 in
theorem refTokens_any (s : ByteArray) (hs : s.size ≤ 1000000) (w : World) : Calls Tryd.prog 9 #[.string s] w (RefTokensEnd s w) := by
  obtain ⟨i0, hi, hz0, hz1, hz2⟩ := info_parts Tryd.info31
  have HP := Lib.hid (fun (w : World) => broken_any s hs w)
  have hgl := good_le s.data.toList
  have hsl : s.data.toList.length = s.size := rfl
  rw [hsl] at hgl
  unfold RefTokensEnd tokensR
  unfold brokenV at HP
  rw [hsl] at HP ⊢
  by_cases hg : good s.data.toList < s.size
  · simp only [if_pos hg, lst, plc, err] at HP ⊢
    generalize good s.data.toList = g at *
    have d0 : decide (0 ≤ (g : Int)) = true := by rw [decide_eq_true_eq]; omega
    clear hi hz0 hz1 hz2 hsl
    go_enter Tryd.func9, Tryd.ntmps9
    go_wp2_with fail
    refine (HP.out _).mono ?_
    rintro e w' ⟨rfl, rfl⟩
    go_wp2_with fail
    go_ret3
    exact ⟨_, rfl, World.ownsRow_nil _ _ _ _, Below.refl _ _⟩
  · have e1 : good s.data.toList = s.size := by omega
    have hval : valid s.data.toList = true := by rw [valid_good, e1, decide_eq_true_eq]; exact hsl.symm
    obtain ⟨R, hR⟩ : ∃ R, R = toks 0 s.data.toList := ⟨_, rfl⟩
    simp only [if_neg hg, ← hR] at HP ⊢
    have HR : Hid (behind [] (toks 0 (rest s 0)) = R) := Lib.hid (by rw [behind_nil, rest_zero, hR])
    have HVA : Hid (valid (rest s 0) = true) := Lib.hid (by rw [rest_zero]; exact hval)
    clear hg e1 hR hgl hsl hval
    go_enter Tryd.func9, Tryd.ntmps9
    go_wp2_with fail
    refine (HP.out _).mono ?_
    rintro e w' ⟨rfl, rfl⟩
    go_wp2_with fail
    clear HP
    have HE : Hid (w.heap.size ≤ w.heap.size) := Lib.hid (Nat.le_refl _)
    go_loopw [6, 7] (fun v u wr => ∃ (pos : Nat) (acc : List Tok) (v0 : Value), v0 = v ∧ pos ≤ s.size ∧ u = .int .i64 pos ∧ Hid (acc.length ≤ pos) ∧ Hid (wr.ownsRow w.heap.size 31 4 v0 acc.length (tcells acc)) ∧ Hid (Below w.heap.size w wr) ∧ Hid (behind acc (toks pos (rest s pos)) = R) ∧ Hid (valid (rest s pos) = true)) (fun _ u _ => s.size - (intOf u).toNat)
    case atStart => exact ⟨0, [], _, rfl, Nat.zero_le _, rfl, Lib.hid (by simp), Lib.hid (World.ownsRow_nil _ _ _ _), Lib.hid (Below.refl _ _), HR, HVA⟩
    case round =>
      obtain ⟨pos, acc, v, rfl, hpos, rfl, hacc, hown, hb, hrel, hva⟩ := hrel
      by_cases hlt : pos < s.size
      · have hne := rest_ne s pos hlt
        obtain ⟨x0, hx0⟩ : ∃ x, s[pos].toNat = x := ⟨_, rfl⟩
        by_cases hB : isB s[pos] = true
        · have hfB : fst isB (rest s pos) = true := by rw [fst_at _ s pos hlt]; exact hB
          have HR1 : Hid (behind acc (toks (pos + 1) (rest s (pos + 1))) = R) := Lib.hid (by rw [← hrel.out, toks_blank1 pos _ hfB, rest_drop])
          have HV1 : Hid (valid (rest s (pos + 1)) = true) := Lib.hid (valid_next s pos 1 hva.out (by omega) (by omega) (by
            show nth (rest s pos) 0 < 128
            rw [nth_rest s pos hlt]; exact lowB _ hB))
          have HA1 : Hid (acc.length ≤ pos + 1) := Lib.hid (by have := hacc.out; omega)
          have hx := (isB_eq s[pos]).1 hB
          rw [hx0] at hx
          clear hrel hva hacc hfB hB hne hi hz0 hz1 hz2
          rcases hx with rfl | rfl | rfl | rfl
          all_goals go_wp2_with fail
          all_goals (refine ⟨⟨pos + 1, acc, v, rfl, by omega, by go_num, HA1, hown, hb, HR1, HV1⟩, ?_⟩; simp [RowKit.intOf]; omega)
        · have hnb : fst isB (rest s pos) = false := by rw [fst_at _ s pos hlt]; simpa using hB
          have hx : ¬ (x0 = 32 ∨ x0 = 9 ∨ x0 = 10 ∨ x0 = 13) := fun h => hB ((isB_eq s[pos]).2 (by rw [hx0]; exact h))
          have q1 : ((x0 : Int) == 32) = false := by simp only [beq_eq_false_iff_ne, ne_eq]; omega
          have q2 : ((x0 : Int) == 9) = false := by simp only [beq_eq_false_iff_ne, ne_eq]; omega
          have q3 : ((x0 : Int) == 10) = false := by simp only [beq_eq_false_iff_ne, ne_eq]; omega
          have q4 : ((x0 : Int) == 13) = false := by simp only [beq_eq_false_iff_ne, ne_eq]; omega
          have HT := Lib.hid (fun w => refNext_any s pos hlt hs hva.out w)
          clear hx hB
          cases ht : tokP (rest s pos) with
          | none =>
            rw [ht] at HT
            have HV : Hid (R = .error pos) := Lib.hid (by rw [← hrel.out, behind_bad _ _ _ hne hnb ht])
            clear ht hne hi hz0 hz1 hz2 hrel hva hacc hnb
            go_wp2_with fail
            refine (HT.out _).mono ?_
            rintro e w3 ⟨⟨q, x, f, rfl⟩, hb3⟩
            have HB3 := Lib.hid (hb.out.trans (hb3.mono hb.out.size))
            clear hb3
            go_wp2_with fail
            go_ret3
            exact ⟨_, by rw [HV.out]; rfl, by rw [HV.out]; exact World.ownsRow_nil _ _ _ _, HB3.out.alloc HB3.out.size _⟩
          | some y =>
            obtain ⟨q, x, n⟩ := y
            rw [ht] at HT
            obtain ⟨hn1, hn2, _⟩ := tokP_len ht
            rw [rest_len] at hn2
            have HV : Hid (behind (acc ++ [(q, x, pos, pos + n)]) (toks (pos + n) (rest s (pos + n))) = R) := Lib.hid (by
              rw [← hrel.out, behind_step acc pos _ hne hnb q x n ht, rest_drop])
            have HVN : Hid (valid (rest s (pos + n)) = true) := Lib.hid (valid_next s pos n hva.out (by omega) hn2 (tokP_last ht))
            have HT2 : Hid (∀ w, Calls Tryd.prog 22 #[.string s, .int .i64 (pos : Int)] w fun e w' => e = .returned (.agg #[.int .i64 (q : Int), .string (txt x), .int .i64 (pos : Int), .int .i64 ((pos + n : Nat) : Int)]) ∧ Below w.heap.size w w') := HT
            have hz : (((pos + n : Nat) : Int) == 0) = false := by simp only [beq_eq_false_iff_ne, ne_eq]; omega
            generalize hto : ((pos + n : Nat) : Int) = z at *
            have HTO := Lib.hid hto
            have HAC := Lib.hid (show acc.length ≤ 1000000 by have := hacc.out; omega)
            have HNL := Lib.hid (show (acc ++ [(q, x, pos, pos + n)]).length ≤ pos + n by rw [List.length_append]; have := hacc.out; simp; omega)
            clear ht hne hto hrel hnb hacc hva HT
            go_wp2_with fail
            refine (HT2.out _).mono ?_
            rintro e w3 ⟨rfl, hb3⟩
            have HB3 := Lib.hid (hb.out.trans (hb3.mono hb.out.size))
            have hown3 := ownsRow_below hown.out hb3
            clear hb3 HT2
            go_wp2_with (at_builtin; refine wpList_append_own _ rfl _ _ 27 rfl w.heap.size 31 i0 (.agg #[.int .i64 0, .string ⟨#[]⟩, .int .i64 0, .int .i64 0]) 4 40 Tryd.underlying27 hi hz0 hz1 hz2 rfl (by decide) _ _ _ rfl ((hown3.alloc _).alloc _) ⟨w3.heap.size + 1, 0, none⟩ 1 1 [.int .i64 (q : Int), .string (txt x), .int .i64 (pos : Int), .int .i64 z] rfl rfl ?c1 ?c2 ?c3 ?c4 ?c5 ?_)
            case c1 => exact new_add2 _ _ _ _
            case c2 => simp [Value.oneCell']
            case c3 => have := HAC.out; unfold maxLen; omega
            case c4 => have := HAC.out; omega
            case c5 => simp only [World.size_alloc]; have := HB3.out.size; omega
            intro v' w4 hown' hgrow hne
            have hs1 : (w3.alloc (.cells #[.int .i64 (q : Int), .string (txt x), .int .i64 (pos : Int), .int .i64 z] 31)).heap.size = w3.heap.size + 1 := World.size_alloc _ _
            have hs2 : ((w3.alloc (.cells #[.int .i64 (q : Int), .string (txt x), .int .i64 (pos : Int), .int .i64 z] 31)).alloc (.cells #[.int .i64 (q : Int), .string (txt x), .int .i64 (pos : Int), .int .i64 z] 31)).heap.size = w3.heap.size + 1 + 1 := (World.size_alloc _ _).trans (by rw [hs1])
            have kk : Below w3.heap.size w3 ((w3.alloc (.cells #[.int .i64 (q : Int), .string (txt x), .int .i64 (pos : Int), .int .i64 z] 31)).alloc (.cells #[.int .i64 (q : Int), .string (txt x), .int .i64 (pos : Int), .int .i64 z] 31)) := ((Below.refl _ _).alloc (Nat.le_refl _) _).alloc (by rw [hs1]; omega) _
            have HB4 : Hid (Below w.heap.size w w4) := Lib.hid ((HB3.out.trans (kk.mono HB3.out.size)).grown hgrow (by rw [hs2]; have := HB3.out.size; omega) (fun j ej => (World.ownsRow.lt hown3 j ej).1))
            have hc3 : w4.cell? ⟨w3.heap.size, 3, none⟩ = some (.int .i64 z) := by
              rw [cell_block (hgrow.block w3.heap.size (by rw [hs2]; omega) (own_far hown3 _ (.inr (Nat.le_refl _))))]
              have k2 : Below (w3.alloc (.cells #[.int .i64 (q : Int), .string (txt x), .int .i64 (pos : Int), .int .i64 z] 31)).heap.size (w3.alloc (.cells #[.int .i64 (q : Int), .string (txt x), .int .i64 (pos : Int), .int .i64 z] 31)) ((w3.alloc (.cells #[.int .i64 (q : Int), .string (txt x), .int .i64 (pos : Int), .int .i64 z] 31)).alloc (.cells #[.int .i64 (q : Int), .string (txt x), .int .i64 (pos : Int), .int .i64 z] 31)) := (Below.refl _ _).alloc (Nat.le_refl _) _
              exact cell_keep2 k2 (new_cell3 _ _ _ _ _ _)
            have hr : tcells acc ++ [Value.int .i64 (q : Int), .string (txt x), .int .i64 (pos : Int), .int .i64 z] = tcells (acc ++ [(q, x, pos, pos + n)]) := by
              rw [tcells_snoc, ← HTO.out]; rfl
            rw [hr] at hown'
            have hl1 : acc.length + 1 = (acc ++ [(q, x, pos, pos + n)]).length := by simp
            rw [hl1] at hown'
            have HO4 := Lib.hid hown'
            clear hr hown' hgrow hne hown3 kk hs1 hs2 hl1
            go_wp2_with fail
            refine ⟨⟨pos + n, acc ++ [(q, x, pos, pos + n)], v', rfl, by omega, by rw [HTO.out], HNL, HO4, HB4, HV, HVN⟩, ?_⟩
            have := HTO.out
            simp [RowKit.intOf]; omega
      · have HV : Hid (R = .ok acc) := Lib.hid (by rw [← hrel.out, rest_end s pos hlt, toks_end]; simp [behind])
        clear hi hz0 hz1 hz2
        obtain ⟨A, c, rfl⟩ := slice_form hown.out
        go_wp2_with fail
        go_ret3
        exact ⟨_, by rw [HV.out]; rfl, by rw [HV.out]; exact hown.out, hb.out⟩
end Go.Proofs.YtfcboonbjlampaaDoor
