/-
  The document's own reader of frames IN MEMORY: Next. Nothing that was there turns but the reader's own block. Conditions: how many bytes are held.
-/
import Derived.Test.YtmaihiklcdidbaaDoorRefF
namespace Go.Proofs.YtmaihiklcdidbaaDoor
open Go.RowKit

set_option maxRecDepth 100000 in
theorem refNext_dead (Q n : Nat) (w : World) (h : QIn w Q (.dead n)) :
    Calls Tryd.prog 13 #[.pointer (some ⟨Q, 0, none⟩)] w fun e w' => e = .returned (nextV (nextE (.dead n))) ∧ QIn w' Q (.dead n) ∧ Fr (· = Q) w w' := by
  have H := Lib.hid h
  obtain ⟨S, hQ, hn⟩ := h
  have c1 := cell_at hQ 1
  clear hQ hn
  go_enter Tryd.func13, Tryd.ntmps13
  go_wp2_with fail
  go_ret3
  exact ⟨rfl, H.out, Fr.refl _ _⟩
set_option maxRecDepth 100000 in
set_option maxHeartbeats 2000000 in
theorem refNext_live (Q : Nat) (l : List UInt8) (w : World) (h : QIn w Q (.live l)) :
    Calls Tryd.prog 13 #[.pointer (some ⟨Q, 0, none⟩)] w fun e w' => e = .returned (nextV (nextE (.live l))) ∧ QIn w' Q (nextR (.live l)) ∧ Fr (· = Q) w w' := by
  have H := Lib.hid h
  obtain ⟨hQ, hl⟩ := h
  have hsz : (txt l).size = l.length := by rw [Lib.size_eq, txt_list]
  have HE := Lib.hid (ends_any (txt l) (by omega) w)
  rw [txt_list] at HE
  have HLN := Lib.hid (fun (a : Nat) => Length_any ((txt l).extract 0 a) (by rw [ByteArray.size_extract]; omega) w)
  have hext := fun a b => ext_list (txt l) a b
  rw [txt_list] at hext
  have HEX := Lib.hid hext
  have HQ := Lib.hid hQ
  have HSZ := Lib.hid hsz
  have c0 := cell_at hQ 0
  have c1 := cell_at hQ 1
  have f0 := frozen_of_row w Q 0 _ _ hQ
  have f1 := frozen_of_row w Q 1 _ _ hQ
  have hN : nextP l = if 0 ≤ Lib.index (l.take 1024) hend then
      match headP ((l.take 1024).take (Lib.index (l.take 1024) hend).toNat) with
      | none => .bad 4
      | some n => if 262144 < n then .bad 3 else if (Lib.index (l.take 1024) hend).toNat + 4 + n ≤ l.length then .body ((Lib.index (l.take 1024) hend).toNat + 4) n else .wait
    else if (l.take 1024).length < 1024 then .wait else .bad 4 := rfl
  have hge := Lib.index_ge (l.take 1024) hend
  have hlen := @index_len (l.take 1024) hend
  rw [List.length_take] at hlen
  generalize Lib.index (l.take 1024) hend = X at *
  have hlive : ∀ z, nextP l = z → nextE (.live l) = (match z with | .wait => ⟨[], false, 0⟩ | .bad k => ⟨[], false, k⟩ | .body f n => ⟨(l.drop f).take n, true, 0⟩) ∧ nextR (.live l) = (match z with | .wait => .live l | .bad _ => .dead l.length | .body f n => .live (l.drop (f + n))) := fun z hz => by subst hz; exact ⟨rfl, rfl⟩
  obtain ⟨ne, hne⟩ : ∃ ne, ne = nextE (.live l) := ⟨_, rfl⟩
  obtain ⟨nr, hnr⟩ : ∃ nr, nr = nextR (.live l) := ⟨_, rfl⟩
  rw [← hne, ← hnr] at hlive
  rw [← hne, ← hnr]
  clear hne hnr
  have HLV := Lib.hid hlive
  have HNN := Lib.hid hN
  have HLE := Lib.hid hlen
  clear hQ hext hN hlen hlive
  generalize hS : txt l = S at *
  have HTS := Lib.hid hS
  clear hS
  by_cases hX : 0 ≤ X
  · obtain ⟨a, rfl⟩ : ∃ a : Nat, X = a := ⟨X.toNat, by omega⟩
    have ha := HLE.out hX
    rw [Int.toNat_natCast] at ha
    have h4 : hend.length = 4 := rfl
    rw [h4] at ha
    have ha1 : a + 4 ≤ l.length := by omega
    have ha2 : a + 4 ≤ 1024 := by omega
    have HL := Lib.hid (HLN.out a)
    rw [HEX.out, List.drop_zero, Nat.sub_zero] at HL
    have hN2 := HNN.out
    rw [if_pos hX, Int.toNat_natCast, List.take_take, Nat.min_eq_left (by omega)] at hN2
    cases hh : headP (l.take a) with
    | none =>
      rw [hh] at hN2 HL
      have hz := HLV.out (.bad 4) hN2
      have HZ := Lib.hid hz
      have hi : intO none = -1 := rfl
      rw [hi] at HL
      clear hz hN2 hh hi ha h4 hge
      go_enter Tryd.func13, Tryd.ntmps13
      go_wp2_with fail
      refine HE.out.mono ?_
      rintro e w1 ⟨rfl, rfl⟩
      go_wp2_with fail
      refine HL.out.mono ?_
      rintro e w1 ⟨rfl, hb⟩
      have hQ1 := heap_keep hb HQ.out
      have k0 := cell_at hQ1 0
      have k1 := cell_at hQ1 1
      have g1 := frozen_of_row w1 Q 1 _ _ hQ1
      have HQ2 : Hid (QIn (w1.setCell ⟨Q, 1, none⟩ (.bool true)) Q (.dead l.length)) := Lib.hid ⟨S, heap_setCell_same w1 Q 1 _ _ (.bool true) hQ1, hsz⟩
      have HF2 := Lib.hid ((Fr.of_below (X := (· = Q)) hb).setCell (R := Q) (i := 1) (.inl rfl) (.bool true))
      clear hb hQ1
      go_wp2_with fail
      go_ret3
      rw [HZ.out.1, HZ.out.2]
      exact ⟨rfl, HQ2.out, HF2.out⟩
    | some m =>
      rw [hh] at hN2 HL
      have hi : intO (some m) = (m : Int) := rfl
      rw [hi] at HL
      simp only at hN2
      by_cases hm : 262144 < m
      · have hz := HLV.out (.bad 3) (by rw [hN2, if_pos hm])
        have HZ := Lib.hid hz
        have q1 : (262144 : Int) < (m : Int) := by omega
        clear hz hN2 hh hi ha h4 hge
        go_enter Tryd.func13, Tryd.ntmps13
        go_wp2_with fail
        refine HE.out.mono ?_
        rintro e w1 ⟨rfl, rfl⟩
        go_wp2_with fail
        refine HL.out.mono ?_
        rintro e w1 ⟨rfl, hb⟩
        have hQ1 := heap_keep hb HQ.out
        have k0 := cell_at hQ1 0
        have k1 := cell_at hQ1 1
        have g1 := frozen_of_row w1 Q 1 _ _ hQ1
        have HQ2 : Hid (QIn (w1.setCell ⟨Q, 1, none⟩ (.bool true)) Q (.dead l.length)) := Lib.hid ⟨S, heap_setCell_same w1 Q 1 _ _ (.bool true) hQ1, hsz⟩
        have HF2 := Lib.hid ((Fr.of_below (X := (· = Q)) hb).setCell (R := Q) (i := 1) (.inl rfl) (.bool true))
        clear hb hQ1
        go_wp2_with fail
        go_ret3
        rw [HZ.out.1, HZ.out.2]
        exact ⟨rfl, HQ2.out, HF2.out⟩
      · have q1 : ¬ (262144 : Int) < (m : Int) := by omega
        rw [if_neg hm] at hN2
        by_cases hf : a + 4 + m ≤ l.length
        · have hz := HLV.out (.body (a + 4) m) (by rw [hN2, if_pos hf])
          have HZ := Lib.hid hz
          have q2 : ¬ (l.length : Int) < (a : Int) + 4 + (m : Int) := by omega
          have HB1 : Hid (S.extract (a + 4) (a + 4 + m) = txt ((l.drop (a + 4)).take m)) := Lib.hid (by
            apply ba_ext
            rw [HEX.out, txt_list, Nat.add_sub_cancel_left])
          have HB2 : Hid (S.extract (a + 4 + m) S.size = txt (l.drop (a + 4 + m))) := Lib.hid (by
            apply ba_ext
            rw [HEX.out, txt_list, List.take_of_length_le (by rw [List.length_drop]; omega)])
          clear hz hN2 hh hi ha h4 hge
          go_enter Tryd.func13, Tryd.ntmps13
          go_wp2_with fail
          refine HE.out.mono ?_
          rintro e w1 ⟨rfl, rfl⟩
          go_wp2_with fail
          refine HL.out.mono ?_
          rintro e w1 ⟨rfl, hb⟩
          have hQ1 := heap_keep hb HQ.out
          have k0 := cell_at hQ1 0
          have k1 := cell_at hQ1 1
          have g0 := frozen_of_row w1 Q 0 _ _ hQ1
          have HQ2 : Hid (QIn (w1.setCell ⟨Q, 0, none⟩ (.string (S.extract (a + 4 + m) S.size))) Q (.live (l.drop (a + 4 + m)))) := Lib.hid ⟨by rw [HB2.out]; exact heap_setCell_same w1 Q 0 _ _ (.string (txt (l.drop (a + 4 + m)))) hQ1, by rw [List.length_drop]; omega⟩
          have HF2 := Lib.hid ((Fr.of_below (X := (· = Q)) hb).setCell (R := Q) (i := 0) (.inl rfl) (.string (S.extract (a + 4 + m) S.size)))
          rw [hsz] at HQ2 HF2
          clear hb hQ1
          go_wp2_with fail
          go_ret3
          rw [HZ.out.1, HZ.out.2]
          exact ⟨by unfold nextV; rw [← HB1.out]; rfl, HQ2.out, HF2.out⟩
        · have hz := HLV.out .wait (by rw [hN2, if_neg hf])
          have HZ := Lib.hid hz
          have q2 : (l.length : Int) < (a : Int) + 4 + (m : Int) := by omega
          clear hz hN2 hh hi ha h4 hge
          go_enter Tryd.func13, Tryd.ntmps13
          go_wp2_with fail
          refine HE.out.mono ?_
          rintro e w1 ⟨rfl, rfl⟩
          go_wp2_with fail
          refine HL.out.mono ?_
          rintro e w1 ⟨rfl, hb⟩
          have hQ1 := heap_keep hb HQ.out
          have k0 := cell_at hQ1 0
          have k1 := cell_at hQ1 1
          have HQ2 := Lib.hid (H.out.below hb)
          have HF2 := Lib.hid (Fr.of_below (X := (· = Q)) hb)
          clear hb hQ1
          go_wp2_with fail
          go_ret3
          rw [HZ.out.1, HZ.out.2]
          exact ⟨rfl, HQ2.out, HF2.out⟩
  · obtain rfl : X = -1 := by omega
    by_cases h1024 : l.length < 1024
    · have hz := HLV.out .wait (by rw [HNN.out, if_neg hX, if_pos (by rw [List.length_take]; omega)])
      have HZ := Lib.hid hz
      have q1 : (l.length : Int) < 1024 := by omega
      clear hz
      go_enter Tryd.func13, Tryd.ntmps13
      go_wp2_with fail
      refine HE.out.mono ?_
      rintro e w1 ⟨rfl, rfl⟩
      go_wp2_with fail
      go_ret3
      rw [HZ.out.1, HZ.out.2]
      exact ⟨rfl, by have := H.out; exact this, Fr.refl _ _⟩
    · have hz := HLV.out (.bad 4) (by rw [HNN.out, if_neg hX, if_neg (by rw [List.length_take]; omega)])
      have HZ := Lib.hid hz
      have q1 : ¬ (l.length : Int) < 1024 := by omega
      have HQ2 : Hid (QIn (w.setCell ⟨Q, 1, none⟩ (.bool true)) Q (.dead l.length)) := Lib.hid ⟨S, heap_setCell_same w Q 1 _ _ (.bool true) HQ.out, hsz⟩
      have HF2 := Lib.hid ((Fr.refl (· = Q) w).setCell (R := Q) (i := 1) (.inl rfl) (.bool true))
      clear hz
      go_enter Tryd.func13, Tryd.ntmps13
      go_wp2_with fail
      refine HE.out.mono ?_
      rintro e w1 ⟨rfl, rfl⟩
      go_wp2_with fail
      go_ret3
      rw [HZ.out.1, HZ.out.2]
      exact ⟨rfl, HQ2.out, HF2.out⟩
end Go.Proofs.YtmaihiklcdidbaaDoor
