/-
  emendref08's Dir AT EVERY TEXT: what it returns; no memory that was there turns. Condition: the text's length.
-/
import Derived.Test.YtpphkkelikdhkaaDoorORefDir
namespace Go.Proofs.YtpphkkelikdhkaaDoor
open Go.RowKit

theorem ext_list (s : ByteArray) (a b : Nat) : (s.extract a b).data.toList = (s.data.toList.drop a).take (b - a) := by
  rw [ByteArray.data_extract, Array.toList_extract, List.extract_eq_take_drop]
theorem ret_sb {a b : ByteArray} {x y : Bool} (h : a = b) (k : x = y) : Ending.returned (.tuple #[.string a, .bool x]) = .returned (.tuple #[.string b, .bool y]) := by rw [h, k]
theorem good_false {m : List UInt8} {i : Nat} (x : UInt8) (hx : m[i]? = some x) (h : x ≠ 47) : goodAt m i = false := by
  unfold goodAt
  rw [hx, decide_eq_false (by simpa using h)]
  rfl
theorem good_is {m : List UInt8} {i : Nat} (hx : m[i]? = some 47) : goodAt m i = (nameB (m.take i) && !resB (m.take i) && nameB (m.drop (i + 1))) := by
  unfold goodAt
  rw [hx, decide_eq_true rfl, Bool.true_and]
set_option maxRecDepth 100000 in
set_option maxHeartbeats 1000000 in
theorem refDir_any (s : ByteArray) (hs : s.size ≤ 1000000) (w : World) : Calls Tryd.prog 9 #[.string s] w fun e w' => e = .returned (.tuple #[.string (dirS s.data.toList), .bool (dirB s.data.toList)]) ∧ Below w.heap.size w w' := by
  have hsl : s.size = s.data.toList.length := Lib.size_eq s
  by_cases h1 : s.size < 11
  · obtain ⟨e1, e2⟩ := dir_none (dirL_short (l := s.data.toList) (by omega))
    rw [e1, e2]
    have q : (s.size : Int) - 3 < 8 := by omega
    clear e1 e2 hsl
    go_enter Tryd.func9, Tryd.ntmps9
    go_wp2_with fail
    go_ret2
    exact ⟨rfl, Below.refl _ _⟩
  have q : ¬ (s.size : Int) - 3 < 8 := by omega
  have q0 : (8 : Int) ≤ s.size := by omega
  obtain ⟨n, hn⟩ : ∃ n : Nat, s.size = n + 11 := ⟨s.size - 11, by omega⟩
  have q1 : (s.size : Int) - 3 = ((n + 8 : Nat) : Int) := by omega
  have hp : ((s.extract 0 8).toList == headL) = (s.data.toList.take 8 == headL) := by rw [Lib.toList_data, ext_list]; rfl
  have ht : ((s.extract (n + 8) s.size).toList == tailL) = (s.data.toList.drop (s.data.toList.length - 3) == tailL) := by
    rw [Lib.toList_data, Lib.extract_to_end, ← hsl, hn]
    rfl
  unfold headL at hp
  unfold tailL at ht
  obtain ⟨l, hl⟩ : ∃ l, s.data.toList = l := ⟨_, rfl⟩
  rw [hl] at hp ht hsl ⊢
  by_cases hh : (l.take 8 == headL) = true
  case neg =>
    have hh2 : (l.take 8 == headL) = false := by simpa using hh
    obtain ⟨e1, e2⟩ := dir_none (dirL_head hh2)
    rw [e1, e2]
    unfold headL at hh2
    rw [hh2] at hp
    clear e1 e2 hh hh2 ht hl hsl hn
    go_enter Tryd.func9, Tryd.ntmps9
    go_wp2_with fail
    go_ret2
    exact ⟨rfl, Below.refl _ _⟩
  by_cases hq : (l.drop (l.length - 3) == tailL) = true
  case neg =>
    have hq2 : (l.drop (l.length - 3) == tailL) = false := by simpa using hq
    obtain ⟨e1, e2⟩ := dir_none (dirL_tail (by omega) hq2)
    rw [e1, e2]
    unfold tailL at hq2
    rw [hq2] at ht
    unfold headL at hh
    rw [hh] at hp
    clear e1 e2 hh hq hq2 hl hsl hn
    go_enter Tryd.func9, Tryd.ntmps9
    go_wp2_with fail
    go_ret2
    exact ⟨rfl, Below.refl _ _⟩
  have hm := dirL_mid (by omega) hh hq
  unfold tailL at hq
  rw [hq] at ht
  unfold headL at hh
  rw [hh] at hp
  have hM : (s.extract 8 (n + 8)).data.toList = middle l := by
    rw [ext_list, hl]
    unfold middle
    rw [show n + 8 - 8 = l.length - 11 by omega]
  have hMs : (s.extract 8 (n + 8)).size = n := by rw [ByteArray.size_extract]; omega
  have HS := Lib.hid (fun (i : Nat) (h : goodAt (middle l) i = true) => dir_some (l := l) (d := (middle l).take i) (by rw [hm]; exact dirM_good h))
  have HN := Lib.hid (fun (h : ∀ i, i < (middle l).length → goodAt (middle l) i = false) => dir_none (l := l) (by rw [hm]; exact dirM_none h))
  have hget := fun i h => Lib.data_getElem? (s.extract 8 (n + 8)) i h
  rw [hM] at hget
  have hex := fun a b => ext_list (s.extract 8 (n + 8)) a b
  rw [hM] at hex
  have hml : (middle l).length = n := by rw [← hM]; exact (Lib.size_eq _).symm.trans hMs
  have q2 : ((n + 8 : Nat) : Int) ≤ s.size := by omega
  have q3 : (8 : Int) ≤ ((n + 8 : Nat) : Int) := by omega
  clear hh hq hl hm hM hn
  obtain ⟨M, hMd⟩ : ∃ M, s.extract 8 (n + 8) = M := ⟨_, rfl⟩
  rw [hMd] at hget hex hMs
  have HMd := Lib.hid hMd
  generalize middle l = m at *
  generalize dirS l = rs at *
  generalize dirB l = rb at *
  have HG := Lib.hid hget
  have HX := Lib.hid hex
  have HL := Lib.hid hml
  have HZ := Lib.hid hMs
  have hM1 : M.size = n := hMs
  have HB1 : Hid (M.size ≤ 1000000) := Lib.hid (by omega)
  have HXX : Hid (∀ i, M.extract 0 i = ⟨(m.take i).toArray⟩) := Lib.hid (fun i => ba_of (by rw [hex, Nat.sub_zero, List.drop_zero]))
  clear hget hex hml hsl l
  go_enter Tryd.func9, Tryd.ntmps9
  go_wp2_with fail
  clear hM1 hMs hMd hp ht q0 q1 q2 q3 h1 hs
  have hnm : ∀ a b W, Calls Tryd.prog 32 #[.string (M.extract a b)] W fun e w' => e = .returned (.bool (nameB ((m.drop a).take (b - a)))) ∧ W = w' := fun a b W => by
    rw [← HX.out]
    exact refName_any _ (by have := HZ.out; rw [ByteArray.size_extract]; have := HB1.out; omega) W
  have hrs : ∀ i W, Calls Tryd.prog 33 #[.string (M.extract 0 i)] W fun e w' => e = .returned (.bool (resB (m.take i))) ∧ Below W.heap.size W w' := fun i W => by
    have := refReserved_any (M.extract 0 i) W
    rw [HX.out] at this
    exact this
  have HNM := Lib.hid hnm
  have HRS := Lib.hid hrs
  have HML : Hid (m.length = M.size) := Lib.hid (HL.out.trans HZ.out.symm)
  have hMB := HB1.out
  clear hnm hrs HX HMd HZ HL
  go_loopw [6] (fun v wr => ∃ i : Nat, v = .int .i64 (i : Int) ∧ i ≤ M.size ∧ Hid (Below w.heap.size w wr) ∧ Hid (∀ j, j < i → goodAt m j = false)) (fun v _ => M.size - (intOf v).toNat)
  case atStart => exact ⟨0, rfl, Nat.zero_le _, Lib.hid (Below.refl _ _), Lib.hid (fun j h => by omega)⟩
  case round =>
    obtain ⟨i, rfl, hi, hb, hno⟩ := hrel
    by_cases hi3 : i < M.size
    · have hisz : (i : Int) < (M.size : Int) := by omega
      have hnext : ∀ (_ : goodAt m i = false), Hid (∀ j, j < i + 1 → goodAt m j = false) := fun hg => Lib.hid (fun j hj => by
        by_cases e : j = i
        · rw [e]; exact hg
        · exact hno.out j (by omega))
      have HNX := Lib.hid hnext
      obtain ⟨x, hx⟩ : ∃ x : UInt8, M[i]'(by omega) = x := ⟨_, rfl⟩
      have Hx := Lib.hid (HG.out i (by omega))
      rw [hx] at Hx
      have HSi := Lib.hid (HS.out i)
      clear hnext hno
      by_cases h47 : x = 47
      · subst h47
        have hgd := good_is Hx.out
        have i3 : (i : Int) + 1 ≤ (M.size : Int) := by omega
        cases b1 : nameB (m.take i) with
        | false =>
          have HE := HNX.out (by rw [hgd, b1]; rfl)
          clear hgd
          go_wp2_with fail
          refine (HNM.out 0 i _).mono ?_
          rintro e w1 ⟨rfl, rfl⟩
          rw [Nat.sub_zero, List.drop_zero, b1]
          go_wp2_with fail
          go_roundw
          case rel => exact ⟨i + 1, by go_num, by omega, hb, HE⟩
          case measure => simp [intOf]; omega
        | true =>
          cases b2 : resB (m.take i) with
          | true =>
            have HE := HNX.out (by rw [hgd, b1, b2]; rfl)
            clear hgd
            go_wp2_with fail
            refine (HNM.out 0 i _).mono ?_
            rintro e w1 ⟨rfl, rfl⟩
            rw [Nat.sub_zero, List.drop_zero, b1]
            go_wp2_with fail
            refine (HRS.out i _).mono ?_
            rintro e w1 ⟨rfl, hb1⟩
            rw [b2]
            have HB := Lib.hid (hb.out.trans (hb1.mono hb.out.size))
            clear hb1 hb
            go_wp2_with fail
            go_roundw
            case rel => exact ⟨i + 1, by go_num, by omega, HB, HE⟩
            case measure => simp [intOf]; omega
          | false =>
            cases b3 : nameB (m.drop (i + 1)) with
            | false =>
              have HE := HNX.out (by rw [hgd, b1, b2, b3]; rfl)
              have H3 : Hid (nameB ((m.drop (i + 1)).take (M.size - (i + 1))) = false) := Lib.hid (by rw [List.take_of_length_le (by rw [List.length_drop, HML.out]; omega)]; exact b3)
              clear hgd
              go_wp2_with fail
              refine (HNM.out 0 i _).mono ?_
              rintro e w1 ⟨rfl, rfl⟩
              rw [Nat.sub_zero, List.drop_zero, b1]
              go_wp2_with fail
              refine (HRS.out i _).mono ?_
              rintro e w1 ⟨rfl, hb1⟩
              rw [b2]
              have HB := Lib.hid (hb.out.trans (hb1.mono hb.out.size))
              clear hb1 hb
              go_wp2_with fail
              refine (HNM.out (i + 1) M.size _).mono ?_
              rintro e w2 ⟨rfl, rfl⟩
              rw [H3.out]
              go_wp2_with fail
              go_roundw
              case rel => exact ⟨i + 1, by go_num, by omega, HB, HE⟩
              case measure => simp [intOf]; omega
            | true =>
              have HE := Lib.hid (HSi.out (by rw [hgd, b1, b2, b3]; rfl))
              have H3 : Hid (nameB ((m.drop (i + 1)).take (M.size - (i + 1))) = true) := Lib.hid (by rw [List.take_of_length_le (by rw [List.length_drop, HML.out]; omega)]; exact b3)
              clear hgd
              go_wp2_with fail
              refine (HNM.out 0 i _).mono ?_
              rintro e w1 ⟨rfl, rfl⟩
              rw [Nat.sub_zero, List.drop_zero, b1]
              go_wp2_with fail
              refine (HRS.out i _).mono ?_
              rintro e w1 ⟨rfl, hb1⟩
              rw [b2]
              have HB := Lib.hid (hb.out.trans (hb1.mono hb.out.size))
              clear hb1 hb
              go_wp2_with fail
              refine (HNM.out (i + 1) M.size _).mono ?_
              rintro e w2 ⟨rfl, rfl⟩
              rw [H3.out]
              go_wp2_with fail
              go_ret2
              exact ⟨ret_sb (by rw [HE.out.1]; exact HXX.out i) HE.out.2.symm, HB.out⟩
      · have h47' : ¬ (x.toNat : Int) = 47 := by
          intro h
          apply h47
          apply UInt8.toNat_inj.1
          show x.toNat = 47
          omega
        have HE := HNX.out (good_false x Hx.out h47)
        go_wp2_with fail
        go_roundw
        case rel => exact ⟨i + 1, by go_num, by omega, hb, HE⟩
        case measure => simp [intOf]; omega
    · have hie : ¬ (i : Int) < (M.size : Int) := by omega
      have HE := Lib.hid (HN.out (fun j hj => hno.out j (by have := HML.out; omega)))
      clear hno
      go_wp2_with fail
      go_ret2
      exact ⟨ret_sb HE.out.1.symm HE.out.2.symm, hb.out⟩
end Go.Proofs.YtpphkkelikdhkaaDoor
