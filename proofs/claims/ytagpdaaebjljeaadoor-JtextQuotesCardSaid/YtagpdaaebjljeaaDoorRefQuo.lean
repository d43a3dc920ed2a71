/-
  emendref03.Quote AT EVERY TEXT of at most 1000000 bytes: what it returns; no memory that was there turns. Condition: the text's length.
-/
import Derived.Test.YtagpdaaebjljeaaDoorStep2
import Derived.Test.YtagpdaaebjljeaaDoorQuo
namespace Go.Proofs.YtagpdaaebjljeaaDoor
open Go.RowKit

theorem idx_hex8 (q : Nat) (h : q < 16) (W : World) : (Instr.index 9 (.string ⟨#[48, 49, 50, 51, 52, 53, 54, 55, 56, 57, 97, 98, 99, 100, 101, 102]⟩) (.int .u8 (q : Int))).run Tryd.prog W = .ok (.int .u8 ((dg q).toNat : Int)) W := by
  rcases (show q = 0 ∨ q = 1 ∨ q = 2 ∨ q = 3 ∨ q = 4 ∨ q = 5 ∨ q = 6 ∨ q = 7 ∨ q = 8 ∨ q = 9 ∨ q = 10 ∨ q = 11 ∨ q = 12 ∨ q = 13 ∨ q = 14 ∨ q = 15 by omega) with rfl | rfl | rfl | rfl | rfl | rfl | rfl | rfl | rfl | rfl | rfl | rfl | rfl | rfl | rfl | rfl
  all_goals kernel_rfl
theorem qB_at (s : ByteArray) (i : Nat) (h : i < s.size) (x : Nat) (hx : s[i].toNat = x) (b : List UInt8) (hb : (if x < 128 then qP x else [UInt8.ofNat x]) = b) : bodyQ (rest s i) = b ++ bodyQ (rest s (i + 1)) := by
  rw [rest_cons s i h]
  show qB s[i] ++ bodyQ (rest s (i + 1)) = b ++ bodyQ (rest s (i + 1))
  rw [← hb]
  unfold qB
  rw [hx]
  have e : UInt8.ofNat x = s[i] := UInt8.toNat_inj.1 (by rw [← hx]; simp)
  rw [e]
set_option maxRecDepth 100000 in
set_option maxHeartbeats 8000000 in
theorem refQuote_any (s : ByteArray) (hs : s.size ≤ 1000000) (w : World) :
    Calls Tryd.prog 14 #[.string s] w fun e w' => e = .returned (quoteV s.data.toList) ∧ Below w.heap.size w w' := by
  obtain ⟨i0, hi, hz0, hz1, hz2⟩ := info_parts Tryd.info5
  have HBR := Lib.hid (fun w => broken_any s hs w)
  have hsl : s.data.toList.length = s.size := rfl
  unfold quoteV
  unfold brokenV at HBR
  rw [hsl] at HBR ⊢
  by_cases hg : good s.data.toList < s.size
  · rw [if_pos hg] at HBR ⊢
    generalize good s.data.toList = g at *
    clear hsl hi hz0 hz1 hz2
    go_enter Tryd.func14, Tryd.ntmps14
    go_wp2_with fail
    refine (HBR.out _).mono ?_
    rintro e w' ⟨rfl, rfl⟩
    go_wp2_with fail
    go_ret2
    exact ⟨rfl, Below.refl _ _⟩
  · rw [if_neg hg] at HBR ⊢
    have hb0 : Below w.heap.size w (w.alloc (Obj.cells #[Value.int IntKind.u8 34] 5)) := (Below.refl _ _).alloc (Nat.le_refl _) _
    have ho0 : (w.alloc (Obj.cells #[Value.int IntKind.u8 34] 5)).ownsRow w.heap.size 5 1 (.slice (some ⟨w.heap.size, 0, none⟩) 1 1) [(34 : UInt8)].length (bcells [34]) := by
      refine ⟨rfl, .inr ⟨w.heap.size, 1, #[Value.int IntKind.u8 34], rfl, Nat.le_refl _, ?_, Nat.le_refl _, by unfold maxLen; omega, rfl, rfl⟩⟩
      unfold World.alloc
      exact Array.getElem?_push_size
    have HB0 := Lib.hid hb0
    have HO0 := Lib.hid ho0
    clear hg hsl hb0 ho0
    go_enter Tryd.func14, Tryd.ntmps14
    go_wp2_with fail
    refine (HBR.out _).mono ?_
    rintro e w' ⟨rfl, rfl⟩
    go_wp2_with fail
    go_loopw [5, 6] (fun v u wr => ∃ (i : Nat) (acc : List UInt8) (v0 : Value), v0 = v ∧ i ≤ s.size ∧ u = .int .i64 i ∧ Hid (acc.length ≤ 6 * i + 1) ∧ Hid (wr.ownsRow w.heap.size 5 1 v0 acc.length (bcells acc)) ∧ Hid (Below w.heap.size w wr) ∧ Hid (acc ++ (bodyQ (rest s i) ++ [34]) = quoteL s.data.toList)) (fun _ u _ => s.size - (intOf u).toNat)
    case atStart => exact ⟨0, [34], _, rfl, Nat.zero_le _, rfl, Lib.hid (by simp), HO0, HB0, Lib.hid (by rw [rest_zero]; rfl)⟩
    case round =>
      obtain ⟨i, acc, v, rfl, hile, rfl, hacc, hown, hb, hrel⟩ := hrel
      have HWS := Lib.hid hb.out.size
      by_cases hlt : i < s.size
      · obtain ⟨x, hx⟩ : ∃ x, s[i].toNat = x := ⟨_, rfl⟩
        have h256 : x < 256 := by rw [← hx]; exact UInt8.toNat_lt _
        have hqs := fun b hb => qB_at s i hlt x hx b hb
        have hla := hacc.out
        by_cases h34 : x = 34
        · subst h34
          have HR : Hid ((acc ++ [92, 34]) ++ (bodyQ (rest s (i + 1)) ++ [34]) = quoteL s.data.toList) := Lib.hid (by rw [← hrel.out, hqs [92, 34] (by decide)]; simp)
          clear hqs hrel hacc
          go_wp2_with (at_builtin; refine wpList_append_own _ rfl _ _ 41 rfl w.heap.size 5 i0 (.int .u8 0) 1 1 Tryd.underlying41 hi hz0 hz1 hz2 rfl (by decide) _ _ _ rfl (hown.out.alloc _) ⟨wr.heap.size, 0, none⟩ 2 2 [.int .u8 92, .int .u8 34] rfl rfl ?c1 ?c2 ?c3 ?c4 ?c5 ?_)
          case c1 => exact new_adds _ _ _
          case c2 => simp [Value.oneCell']
          case c3 => unfold maxLen; omega
          case c4 => omega
          case c5 => rw [World.size_alloc]; have := HWS.out; omega
          intro v2 w2 hown2 hg2 hne2
          have HB2 := Lib.hid (hb.out.trans (((kp_below ((Below.refl _ _).alloc (Nat.le_refl _) (.cells ([.int .u8 92, .int .u8 34] : List Value).toArray 5)) HWS.out).trans (kp_grown (hown.out.alloc _) hg2 (by rw [World.size_alloc]; have := HWS.out; omega))).below))
          have HO2 : Hid (w2.ownsRow w.heap.size 5 1 v2 (acc ++ [92, 34]).length (bcells (acc ++ [92, 34]))) := Lib.hid (by rw [List.length_append, bcells_append]; exact hown2)
          clear hown2 hg2 hne2
          go_wp2_with fail
          refine ⟨⟨i + 1, acc ++ [92, 34], v2, rfl, by omega, by go_num, Lib.hid (by rw [List.length_append]; simp; omega), HO2, HB2, HR⟩, ?_⟩
          simp [RowKit.intOf]; omega
        by_cases h92 : x = 92
        · subst h92
          have HR : Hid ((acc ++ [92, 92]) ++ (bodyQ (rest s (i + 1)) ++ [34]) = quoteL s.data.toList) := Lib.hid (by rw [← hrel.out, hqs [92, 92] (by decide)]; simp)
          clear hqs hrel hacc
          go_wp2_with (at_builtin; refine wpList_append_own _ rfl _ _ 41 rfl w.heap.size 5 i0 (.int .u8 0) 1 1 Tryd.underlying41 hi hz0 hz1 hz2 rfl (by decide) _ _ _ rfl (hown.out.alloc _) ⟨wr.heap.size, 0, none⟩ 2 2 [.int .u8 92, .int .u8 92] rfl rfl ?c1 ?c2 ?c3 ?c4 ?c5 ?_)
          case c1 => exact new_adds _ _ _
          case c2 => simp [Value.oneCell']
          case c3 => unfold maxLen; omega
          case c4 => omega
          case c5 => rw [World.size_alloc]; have := HWS.out; omega
          intro v2 w2 hown2 hg2 hne2
          have HB2 := Lib.hid (hb.out.trans (((kp_below ((Below.refl _ _).alloc (Nat.le_refl _) (.cells ([.int .u8 92, .int .u8 92] : List Value).toArray 5)) HWS.out).trans (kp_grown (hown.out.alloc _) hg2 (by rw [World.size_alloc]; have := HWS.out; omega))).below))
          have HO2 : Hid (w2.ownsRow w.heap.size 5 1 v2 (acc ++ [92, 92]).length (bcells (acc ++ [92, 92]))) := Lib.hid (by rw [List.length_append, bcells_append]; exact hown2)
          clear hown2 hg2 hne2
          go_wp2_with fail
          refine ⟨⟨i + 1, acc ++ [92, 92], v2, rfl, by omega, by go_num, Lib.hid (by rw [List.length_append]; simp; omega), HO2, HB2, HR⟩, ?_⟩
          simp [RowKit.intOf]; omega
        by_cases h8 : x = 8
        · subst h8
          have HR : Hid ((acc ++ [92, 98]) ++ (bodyQ (rest s (i + 1)) ++ [34]) = quoteL s.data.toList) := Lib.hid (by rw [← hrel.out, hqs [92, 98] (by decide)]; simp)
          clear hqs hrel hacc
          go_wp2_with (at_builtin; refine wpList_append_own _ rfl _ _ 41 rfl w.heap.size 5 i0 (.int .u8 0) 1 1 Tryd.underlying41 hi hz0 hz1 hz2 rfl (by decide) _ _ _ rfl (hown.out.alloc _) ⟨wr.heap.size, 0, none⟩ 2 2 [.int .u8 92, .int .u8 98] rfl rfl ?c1 ?c2 ?c3 ?c4 ?c5 ?_)
          case c1 => exact new_adds _ _ _
          case c2 => simp [Value.oneCell']
          case c3 => unfold maxLen; omega
          case c4 => omega
          case c5 => rw [World.size_alloc]; have := HWS.out; omega
          intro v2 w2 hown2 hg2 hne2
          have HB2 := Lib.hid (hb.out.trans (((kp_below ((Below.refl _ _).alloc (Nat.le_refl _) (.cells ([.int .u8 92, .int .u8 98] : List Value).toArray 5)) HWS.out).trans (kp_grown (hown.out.alloc _) hg2 (by rw [World.size_alloc]; have := HWS.out; omega))).below))
          have HO2 : Hid (w2.ownsRow w.heap.size 5 1 v2 (acc ++ [92, 98]).length (bcells (acc ++ [92, 98]))) := Lib.hid (by rw [List.length_append, bcells_append]; exact hown2)
          clear hown2 hg2 hne2
          go_wp2_with fail
          refine ⟨⟨i + 1, acc ++ [92, 98], v2, rfl, by omega, by go_num, Lib.hid (by rw [List.length_append]; simp; omega), HO2, HB2, HR⟩, ?_⟩
          simp [RowKit.intOf]; omega
        by_cases h9 : x = 9
        · subst h9
          have HR : Hid ((acc ++ [92, 116]) ++ (bodyQ (rest s (i + 1)) ++ [34]) = quoteL s.data.toList) := Lib.hid (by rw [← hrel.out, hqs [92, 116] (by decide)]; simp)
          clear hqs hrel hacc
          go_wp2_with (at_builtin; refine wpList_append_own _ rfl _ _ 41 rfl w.heap.size 5 i0 (.int .u8 0) 1 1 Tryd.underlying41 hi hz0 hz1 hz2 rfl (by decide) _ _ _ rfl (hown.out.alloc _) ⟨wr.heap.size, 0, none⟩ 2 2 [.int .u8 92, .int .u8 116] rfl rfl ?c1 ?c2 ?c3 ?c4 ?c5 ?_)
          case c1 => exact new_adds _ _ _
          case c2 => simp [Value.oneCell']
          case c3 => unfold maxLen; omega
          case c4 => omega
          case c5 => rw [World.size_alloc]; have := HWS.out; omega
          intro v2 w2 hown2 hg2 hne2
          have HB2 := Lib.hid (hb.out.trans (((kp_below ((Below.refl _ _).alloc (Nat.le_refl _) (.cells ([.int .u8 92, .int .u8 116] : List Value).toArray 5)) HWS.out).trans (kp_grown (hown.out.alloc _) hg2 (by rw [World.size_alloc]; have := HWS.out; omega))).below))
          have HO2 : Hid (w2.ownsRow w.heap.size 5 1 v2 (acc ++ [92, 116]).length (bcells (acc ++ [92, 116]))) := Lib.hid (by rw [List.length_append, bcells_append]; exact hown2)
          clear hown2 hg2 hne2
          go_wp2_with fail
          refine ⟨⟨i + 1, acc ++ [92, 116], v2, rfl, by omega, by go_num, Lib.hid (by rw [List.length_append]; simp; omega), HO2, HB2, HR⟩, ?_⟩
          simp [RowKit.intOf]; omega
        by_cases h10 : x = 10
        · subst h10
          have HR : Hid ((acc ++ [92, 110]) ++ (bodyQ (rest s (i + 1)) ++ [34]) = quoteL s.data.toList) := Lib.hid (by rw [← hrel.out, hqs [92, 110] (by decide)]; simp)
          clear hqs hrel hacc
          go_wp2_with (at_builtin; refine wpList_append_own _ rfl _ _ 41 rfl w.heap.size 5 i0 (.int .u8 0) 1 1 Tryd.underlying41 hi hz0 hz1 hz2 rfl (by decide) _ _ _ rfl (hown.out.alloc _) ⟨wr.heap.size, 0, none⟩ 2 2 [.int .u8 92, .int .u8 110] rfl rfl ?c1 ?c2 ?c3 ?c4 ?c5 ?_)
          case c1 => exact new_adds _ _ _
          case c2 => simp [Value.oneCell']
          case c3 => unfold maxLen; omega
          case c4 => omega
          case c5 => rw [World.size_alloc]; have := HWS.out; omega
          intro v2 w2 hown2 hg2 hne2
          have HB2 := Lib.hid (hb.out.trans (((kp_below ((Below.refl _ _).alloc (Nat.le_refl _) (.cells ([.int .u8 92, .int .u8 110] : List Value).toArray 5)) HWS.out).trans (kp_grown (hown.out.alloc _) hg2 (by rw [World.size_alloc]; have := HWS.out; omega))).below))
          have HO2 : Hid (w2.ownsRow w.heap.size 5 1 v2 (acc ++ [92, 110]).length (bcells (acc ++ [92, 110]))) := Lib.hid (by rw [List.length_append, bcells_append]; exact hown2)
          clear hown2 hg2 hne2
          go_wp2_with fail
          refine ⟨⟨i + 1, acc ++ [92, 110], v2, rfl, by omega, by go_num, Lib.hid (by rw [List.length_append]; simp; omega), HO2, HB2, HR⟩, ?_⟩
          simp [RowKit.intOf]; omega
        by_cases h12 : x = 12
        · subst h12
          have HR : Hid ((acc ++ [92, 102]) ++ (bodyQ (rest s (i + 1)) ++ [34]) = quoteL s.data.toList) := Lib.hid (by rw [← hrel.out, hqs [92, 102] (by decide)]; simp)
          clear hqs hrel hacc
          go_wp2_with (at_builtin; refine wpList_append_own _ rfl _ _ 41 rfl w.heap.size 5 i0 (.int .u8 0) 1 1 Tryd.underlying41 hi hz0 hz1 hz2 rfl (by decide) _ _ _ rfl (hown.out.alloc _) ⟨wr.heap.size, 0, none⟩ 2 2 [.int .u8 92, .int .u8 102] rfl rfl ?c1 ?c2 ?c3 ?c4 ?c5 ?_)
          case c1 => exact new_adds _ _ _
          case c2 => simp [Value.oneCell']
          case c3 => unfold maxLen; omega
          case c4 => omega
          case c5 => rw [World.size_alloc]; have := HWS.out; omega
          intro v2 w2 hown2 hg2 hne2
          have HB2 := Lib.hid (hb.out.trans (((kp_below ((Below.refl _ _).alloc (Nat.le_refl _) (.cells ([.int .u8 92, .int .u8 102] : List Value).toArray 5)) HWS.out).trans (kp_grown (hown.out.alloc _) hg2 (by rw [World.size_alloc]; have := HWS.out; omega))).below))
          have HO2 : Hid (w2.ownsRow w.heap.size 5 1 v2 (acc ++ [92, 102]).length (bcells (acc ++ [92, 102]))) := Lib.hid (by rw [List.length_append, bcells_append]; exact hown2)
          clear hown2 hg2 hne2
          go_wp2_with fail
          refine ⟨⟨i + 1, acc ++ [92, 102], v2, rfl, by omega, by go_num, Lib.hid (by rw [List.length_append]; simp; omega), HO2, HB2, HR⟩, ?_⟩
          simp [RowKit.intOf]; omega
        by_cases h13 : x = 13
        · subst h13
          have HR : Hid ((acc ++ [92, 114]) ++ (bodyQ (rest s (i + 1)) ++ [34]) = quoteL s.data.toList) := Lib.hid (by rw [← hrel.out, hqs [92, 114] (by decide)]; simp)
          clear hqs hrel hacc
          go_wp2_with (at_builtin; refine wpList_append_own _ rfl _ _ 41 rfl w.heap.size 5 i0 (.int .u8 0) 1 1 Tryd.underlying41 hi hz0 hz1 hz2 rfl (by decide) _ _ _ rfl (hown.out.alloc _) ⟨wr.heap.size, 0, none⟩ 2 2 [.int .u8 92, .int .u8 114] rfl rfl ?c1 ?c2 ?c3 ?c4 ?c5 ?_)
          case c1 => exact new_adds _ _ _
          case c2 => simp [Value.oneCell']
          case c3 => unfold maxLen; omega
          case c4 => omega
          case c5 => rw [World.size_alloc]; have := HWS.out; omega
          intro v2 w2 hown2 hg2 hne2
          have HB2 := Lib.hid (hb.out.trans (((kp_below ((Below.refl _ _).alloc (Nat.le_refl _) (.cells ([.int .u8 92, .int .u8 114] : List Value).toArray 5)) HWS.out).trans (kp_grown (hown.out.alloc _) hg2 (by rw [World.size_alloc]; have := HWS.out; omega))).below))
          have HO2 : Hid (w2.ownsRow w.heap.size 5 1 v2 (acc ++ [92, 114]).length (bcells (acc ++ [92, 114]))) := Lib.hid (by rw [List.length_append, bcells_append]; exact hown2)
          clear hown2 hg2 hne2
          go_wp2_with fail
          refine ⟨⟨i + 1, acc ++ [92, 114], v2, rfl, by omega, by go_num, Lib.hid (by rw [List.length_append]; simp; omega), HO2, HB2, HR⟩, ?_⟩
          simp [RowKit.intOf]; omega
        by_cases h32 : x < 32
        · have HR : Hid ((acc ++ [92, 117, 48, 48, dg (x / 16), dg (x % 16)]) ++ (bodyQ (rest s (i + 1)) ++ [34]) = quoteL s.data.toList) := Lib.hid (by rw [← hrel.out, hqs [92, 117, 48, 48, dg (x / 16), dg (x % 16)] (by rw [if_pos (by omega)]; unfold qP; rw [if_neg h34, if_neg h92, if_neg h8, if_neg h9, if_neg h10, if_neg h12, if_neg h13, if_pos h32])]; simp)
          have q34 : (((x : Nat) : Int) == 34) = false := by simp only [beq_eq_false_iff_ne, ne_eq]; omega
          have q92 : (((x : Nat) : Int) == 92) = false := by simp only [beq_eq_false_iff_ne, ne_eq]; omega
          have q8 : (((x : Nat) : Int) == 8) = false := by simp only [beq_eq_false_iff_ne, ne_eq]; omega
          have q9 : (((x : Nat) : Int) == 9) = false := by simp only [beq_eq_false_iff_ne, ne_eq]; omega
          have q10 : (((x : Nat) : Int) == 10) = false := by simp only [beq_eq_false_iff_ne, ne_eq]; omega
          have q12 : (((x : Nat) : Int) == 12) = false := by simp only [beq_eq_false_iff_ne, ne_eq]; omega
          have q13 : (((x : Nat) : Int) == 13) = false := by simp only [beq_eq_false_iff_ne, ne_eq]; omega
          have l32 : decide ((x : Int) < 32) = true := by simp; omega
          have hxq : ∀ W, (Instr.index 9 (.string ⟨#[48, 49, 50, 51, 52, 53, 54, 55, 56, 57, 97, 98, 99, 100, 101, 102]⟩) (.int .u8 ((x : Int) / 16))).run Tryd.prog W = .ok (.int .u8 ((dg (x / 16)).toNat : Int)) W := fun W => by
            rw [show ((x : Int) / 16) = ((x / 16 : Nat) : Int) by omega]
            exact idx_hex8 (x / 16) (by omega) W
          have hxw : ∀ W, (Instr.index 9 (.string ⟨#[48, 49, 50, 51, 52, 53, 54, 55, 56, 57, 97, 98, 99, 100, 101, 102]⟩) (.int .u8 (IntKind.u8.wrap ((x : Int) / 16)))).run Tryd.prog W = .ok (.int .u8 ((dg (x / 16)).toNat : Int)) W := fun W => by
            rw [show IntKind.u8.wrap ((x : Int) / 16) = ((x / 16 : Nat) : Int) by rw [IntKind.wrap_u8]; omega]
            exact idx_hex8 (x / 16) (by omega) W
          have hxr : ∀ W, (Instr.index 9 (.string ⟨#[48, 49, 50, 51, 52, 53, 54, 55, 56, 57, 97, 98, 99, 100, 101, 102]⟩) (.int .u8 ((x : Int).tmod 16))).run Tryd.prog W = .ok (.int .u8 ((dg (x % 16)).toNat : Int)) W := fun W => by
            rw [show ((x : Int).tmod 16) = ((x % 16 : Nat) : Int) by rw [Int.tmod_eq_emod_of_nonneg (by omega)]; omega]
            exact idx_hex8 (x % 16) (by omega) W
          clear hqs hrel hacc
          go_wp2_with fail
          have hwd : wr.drew.ownsRow w.heap.size 5 1 v acc.length (bcells acc) := hown.out
          refine wp_region_noPanic ?_
          refine wp_region_held_drew (S := fun _ => True) (by kernel_rfl) trivial (fun hHeld => ?_)
          clear hHeld
          refine wpAnyH_take (i := 0) (oi := ⟨some 69, _, _, _, _, _⟩) (v := ?_) rfl (by kernel_rfl) (by kernel_rfl) (by kernel_rfl) (fun _ _ _ h => h) (Or.inl ⟨by rfl, ?_⟩) trivial ?_
          rotate_left
          · (intro W hSW; go_simp; first | done | with_reducible rfl)
          simp only [Act.put, List.setIfInBounds_toArray, List.set_cons_zero, List.set_cons_succ]
          refine wpAnyH_take (i := 1) (oi := ⟨some 70, _, _, _, _, _⟩) (v := ?_) rfl (by kernel_rfl) (by kernel_rfl) (by kernel_rfl) (fun _ _ _ h => h) (Or.inl ⟨by rfl, ?_⟩) trivial ?_
          rotate_left
          · (intro W hSW; go_simp; first | done | with_reducible rfl)
          simp only [Act.put, List.setIfInBounds_toArray, List.set_cons_zero, List.set_cons_succ]
          refine wpAnyH_take (i := 2) (oi := ⟨some 71, _, _, _, _, _⟩) (v := ?_) rfl (by kernel_rfl) (by kernel_rfl) (by kernel_rfl) (fun _ _ _ h => h) (Or.inl ⟨by rfl, ?_⟩) trivial ?_
          rotate_left
          · (intro W hSW; go_simp; first | done | with_reducible rfl)
          simp only [Act.put, List.setIfInBounds_toArray, List.set_cons_zero, List.set_cons_succ]
          refine wpAnyH_take (i := 3) (oi := ⟨some 72, _, _, _, _, _⟩) (v := ?_) rfl (by kernel_rfl) (by kernel_rfl) (by kernel_rfl) (fun _ _ _ h => h) (Or.inl ⟨by rfl, ?_⟩) trivial ?_
          rotate_left
          · (intro W hSW; go_simp; first | done | with_reducible rfl)
          simp only [Act.put, List.setIfInBounds_toArray, List.set_cons_zero, List.set_cons_succ]
          refine wpAnyH_take (i := 4) (oi := ⟨some 73, _, _, _, _, _⟩) (v := ?_) rfl (by kernel_rfl) (by kernel_rfl) (by kernel_rfl) (fun _ _ _ h => h) (Or.inl ⟨by rfl, ?_⟩) trivial ?_
          rotate_left
          · (intro W hSW; go_simp; first | done | with_reducible rfl)
          simp only [Act.put, List.setIfInBounds_toArray, List.set_cons_zero, List.set_cons_succ]
          refine wpAnyH_take (i := 5) (oi := ⟨some 74, _, _, _, _, _⟩) (v := ?_) rfl (by kernel_rfl) (by kernel_rfl) (by kernel_rfl) (fun _ _ _ h => h) (Or.inl ⟨by rfl, ?_⟩) trivial ?_
          rotate_left
          · (intro W hSW; go_simp; first | done | with_reducible rfl)
          simp only [Act.put, List.setIfInBounds_toArray, List.set_cons_zero, List.set_cons_succ]
          refine wpAnyH_take (i := 6) (oi := ⟨some 75, _, _, _, _, _⟩) (v := ?_) rfl (by kernel_rfl) (by kernel_rfl) (by kernel_rfl) (fun _ _ _ h => h) (Or.inl ⟨by rfl, ?_⟩) trivial ?_
          rotate_left
          · (intro W hSW; go_simp; first | done | with_reducible rfl)
          simp only [Act.put, List.setIfInBounds_toArray, List.set_cons_zero, List.set_cons_succ]
          refine wpAnyH_take (i := 7) (oi := ⟨some 76, _, _, _, _, _⟩) (v := ?_) rfl (by kernel_rfl) (by kernel_rfl) (by kernel_rfl) (fun _ _ _ h => h) (Or.inl ⟨by rfl, ?_⟩) trivial ?_
          rotate_left
          · (intro W hSW; go_simp; first | done | with_reducible rfl)
          simp only [Act.put, List.setIfInBounds_toArray, List.set_cons_zero, List.set_cons_succ]
          refine wpAnyH_take (i := 8) (oi := ⟨some 77, _, _, _, _, _⟩) (v := ?_) rfl (by kernel_rfl) (by kernel_rfl) (by kernel_rfl) (fun _ _ _ h => h) (Or.inl ⟨by rfl, ?_⟩) trivial ?_
          rotate_left
          · (intro W hSW; go_simp; first | done | with_reducible rfl)
          simp only [Act.put, List.setIfInBounds_toArray, List.set_cons_zero, List.set_cons_succ]
          clear hxq hxr hxw
          refine wpAnyH_ready (rs := [9]) (by kernel_rfl) (by simp) ?_
          refine AllReadyH.cons (o := ⟨some 78, _, _, _, _, _⟩) rfl (fun K hK => ?_) AllReadyH.nil
          go_simp
          refine hK.out _ _ trivial (fun hHeld => ?_)
          clear hK K hHeld
          try simp only [Act.put, List.setIfInBounds_toArray, List.set_cons_zero, List.set_cons_succ]
          refine wpAnyH_ready (rs := [10]) (by kernel_rfl) (by simp) ?_
          refine AllReadyH.cons (o := ⟨some 79, _, _, _, _, _⟩) rfl (fun K hK => ?_) AllReadyH.nil
          rw [if_pos (by kernel_rfl)]
          refine wp_append_own (P := Tryd.prog) _ _ _ 41 rfl w.heap.size 5 i0 (.int .u8 0) 1 1 Tryd.underlying41 hi hz0 hz1 hz2 rfl (by decide) _ _ _ rfl (hwd.alloc (.cells #[.int .u8 92, .int .u8 117, .int .u8 48, .int .u8 48, .int .u8 ((dg (x / 16)).toNat : Int), .int .u8 ((dg (x % 16)).toNat : Int)] 5)) ⟨wr.heap.size, 0, none⟩ 6 6 [.int .u8 92, .int .u8 117, .int .u8 48, .int .u8 48, .int .u8 ((dg (x / 16)).toNat : Int), .int .u8 ((dg (x % 16)).toNat : Int)] rfl rfl (new_adds wr _ _) (by simp [Value.oneCell']) (by unfold maxLen; omega) (by omega) (Nat.le_trans HWS.out (by show wr.heap.size ≤ (wr.alloc _).heap.size; rw [World.size_alloc]; omega)) (fun v2 w2 hown2 hg2 _ => ?_)
          have hka : Kp w.heap.size wr (wr.drew.alloc (.cells #[.int .u8 92, .int .u8 117, .int .u8 48, .int .u8 48, .int .u8 ((dg (x / 16)).toNat : Int), .int .u8 ((dg (x % 16)).toNat : Int)] 5)) := (kp_drew _ wr).trans (kp_below ((Below.refl _ _).alloc (Nat.le_refl _) _) HWS.out)
          have HB2 := Lib.hid (hb.out.trans ((hka.trans (kp_grown (hwd.alloc _) (show (wr.drew.alloc (.cells #[.int .u8 92, .int .u8 117, .int .u8 48, .int .u8 48, .int .u8 ((dg (x / 16)).toNat : Int), .int .u8 ((dg (x % 16)).toNat : Int)] 5)).grownBy w2 v.ownBlock from hg2) (Nat.le_trans HWS.out (by show wr.heap.size ≤ (wr.alloc _).heap.size; rw [World.size_alloc]; omega)))).below))
          have HO2 : Hid (w2.ownsRow w.heap.size 5 1 v2 (acc ++ [92, 117, 48, 48, dg (x / 16), dg (x % 16)]).length (bcells (acc ++ [92, 117, 48, 48, dg (x / 16), dg (x % 16)]))) := Lib.hid (by rw [List.length_append, bcells_append]; exact hown2)
          clear hown2 hg2 hka hwd
          refine hK.out _ _ trivial (fun hHeld => ?_)
          clear hK K hHeld
          try simp only [Act.put, List.setIfInBounds_toArray, List.set_cons_zero, List.set_cons_succ]
          refine wpAnyH_take (i := 11) (oi := ⟨some 5, _, _, _, _, _⟩) (v := ?_) rfl (by kernel_rfl) (by kernel_rfl) (by kernel_rfl) (fun _ _ _ h => h) (Or.inl ⟨by rfl, ?_⟩) trivial ?_
          rotate_left
          · (intro W hSW; go_simp; first | done | with_reducible rfl)
          simp only [Act.put, List.setIfInBounds_toArray, List.set_cons_zero, List.set_cons_succ]
          refine wpAnyH_done (by kernel_rfl) ?_ _
          refine NoPanic.normal ?_
          go_wp2_with fail
          refine ⟨⟨i + 1, acc ++ [92, 117, 48, 48, dg (x / 16), dg (x % 16)], v2, rfl, by omega, by go_num, Lib.hid (by rw [List.length_append]; simp; omega), HO2, HB2, HR⟩, ?_⟩
          simp [RowKit.intOf]; omega
        · have HR : Hid ((acc ++ [UInt8.ofNat x]) ++ (bodyQ (rest s (i + 1)) ++ [34]) = quoteL s.data.toList) := Lib.hid (by rw [← hrel.out, hqs [UInt8.ofNat x] (by split; (unfold qP; rw [if_neg h34, if_neg h92, if_neg h8, if_neg h9, if_neg h10, if_neg h12, if_neg h13, if_neg h32]; exact enc_ascii x (by assumption)); rfl)]; simp)
          have q34 : (((x : Nat) : Int) == 34) = false := by simp only [beq_eq_false_iff_ne, ne_eq]; omega
          have q92 : (((x : Nat) : Int) == 92) = false := by simp only [beq_eq_false_iff_ne, ne_eq]; omega
          have q8 : (((x : Nat) : Int) == 8) = false := by simp only [beq_eq_false_iff_ne, ne_eq]; omega
          have q9 : (((x : Nat) : Int) == 9) = false := by simp only [beq_eq_false_iff_ne, ne_eq]; omega
          have q10 : (((x : Nat) : Int) == 10) = false := by simp only [beq_eq_false_iff_ne, ne_eq]; omega
          have q12 : (((x : Nat) : Int) == 12) = false := by simp only [beq_eq_false_iff_ne, ne_eq]; omega
          have q13 : (((x : Nat) : Int) == 13) = false := by simp only [beq_eq_false_iff_ne, ne_eq]; omega
          have l32 : decide ((x : Int) < 32) = false := by simp; omega
          clear hqs hrel hacc
          go_wp2_with (at_builtin; refine wpList_append_own _ rfl _ _ 41 rfl w.heap.size 5 i0 (.int .u8 0) 1 1 Tryd.underlying41 hi hz0 hz1 hz2 rfl (by decide) _ _ _ rfl (hown.out.alloc _) ⟨wr.heap.size, 0, none⟩ 1 1 [.int .u8 (x : Int)] rfl rfl ?c1 ?c2 ?c3 ?c4 ?c5 ?_)
          case c1 => exact new_adds _ _ _
          case c2 => simp [Value.oneCell']
          case c3 => unfold maxLen; omega
          case c4 => omega
          case c5 => rw [World.size_alloc]; have := HWS.out; omega
          intro v2 w2 hown2 hg2 hne2
          have HB2 := Lib.hid (hb.out.trans (((kp_below ((Below.refl _ _).alloc (Nat.le_refl _) (.cells ([.int .u8 (x : Int)] : List Value).toArray 5)) HWS.out).trans (kp_grown (hown.out.alloc _) hg2 (by rw [World.size_alloc]; have := HWS.out; omega))).below))
          have HO2 : Hid (w2.ownsRow w.heap.size 5 1 v2 (acc ++ [UInt8.ofNat x]).length (bcells (acc ++ [UInt8.ofNat x]))) := Lib.hid (by rw [List.length_append, bcells_append]; have e : bcells [UInt8.ofNat x] = [.int .u8 (x : Int)] := (by show [Value.int .u8 ((UInt8.ofNat x).toNat : Int)] = _; rw [ofNat_toNat x h256]); rw [e]; exact hown2)
          clear hown2 hg2 hne2
          go_wp2_with fail
          refine ⟨⟨i + 1, acc ++ [UInt8.ofNat x], v2, rfl, by omega, by go_num, Lib.hid (by rw [List.length_append]; simp; omega), HO2, HB2, HR⟩, ?_⟩
          simp [RowKit.intOf]; omega
      · have HR : Hid (acc ++ [34] = quoteL s.data.toList) := Lib.hid (by rw [← hrel.out, rest_end s i hlt]; rfl)
        have hla := hacc.out
        clear hrel hacc
        go_wp2_with (at_builtin; refine wpList_append_own _ rfl _ _ 41 rfl w.heap.size 5 i0 (.int .u8 0) 1 1 Tryd.underlying41 hi hz0 hz1 hz2 rfl (by decide) _ _ _ rfl (hown.out.alloc _) ⟨wr.heap.size, 0, none⟩ 1 1 [.int .u8 34] rfl rfl ?c1 ?c2 ?c3 ?c4 ?c5 ?_)
        case c1 => exact new_adds _ _ _
        case c2 => simp [Value.oneCell']
        case c3 => unfold maxLen; omega
        case c4 => omega
        case c5 => rw [World.size_alloc]; have := HWS.out; omega
        intro v2 w2 hown2 hg2 hne2
        have HB2 := Lib.hid (hb.out.trans (((kp_below ((Below.refl _ _).alloc (Nat.le_refl _) (.cells #[.int .u8 34] 5)) HWS.out).trans (kp_grown (hown.out.alloc _) hg2 (by rw [World.size_alloc]; have := HWS.out; omega))).below))
        have hrow : w2.ownsRow w.heap.size 5 1 v2 (quoteL s.data.toList).length (bcells (quoteL s.data.toList)) := by
          rw [← HR.out, List.length_append, bcells_append]; exact hown2
        have hcv := str_conv hrow
        clear hown2 hg2 hne2 hrow
        go_wp2_with fail
        go_ret2
        exact ⟨rfl, HB2.out⟩
end Go.Proofs.YtagpdaaebjljeaaDoor
