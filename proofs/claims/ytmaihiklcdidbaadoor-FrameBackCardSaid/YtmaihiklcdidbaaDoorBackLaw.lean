/-
  THE LAW FrameBack: bodies that are put one behind the other come out as they were, in whatever parts their bytes come in. Conditions: what the variables that are read hold (Facts).
-/
import Derived.Test.YtmaihiklcdidbaaDoorBack
namespace Go.Proofs.YtmaihiklcdidbaaDoor
open Go.RowKit

set_option maxRecDepth 100000 in
set_option maxHeartbeats 4000000 in
theorem back_any (A : Option Addr) (M : List ByteArray) (c : Nat) (A1 : Option Addr) (Z : List UInt8) (c1 : Nat) (w : World) (hM : SReads w A M) (hZ : BReads w A1 Z) (hF : Facts w) :
    Calls Tryd.prog 5 #[.slice A M.length c, .slice A1 Z.length c1] w fun e w' => e = .returned (.bool true) ∧ Below w.heap.size w w' := by
  obtain ⟨i0, hi0, hz0, hz1, hz2⟩ := info_parts str_info
  obtain ⟨hb1, hb2, hb3⟩ := bodies_le M
  have hat := bodies_at M
  have HC := Lib.hid (fun (s : ByteArray) (h : s ∈ M) (W : World) => cut_any s (by have := hM.2 s h; unfold maxLen at this; omega) W)
  have HP := Lib.hid (fun (b : List UInt8) (h : b.length ≤ 3000) (W : World) (hb : Below w.heap.size w W) => put_any (txt b) (by show (List.toArray b).size ≤ _; simp; omega) W (hF.below hb))
  have HM := Lib.hid hM
  have HZ := Lib.hid hZ
  have HF := Lib.hid hF
  generalize hbs : bodiesOf M = bs at *
  have hsn := puts_snoc bs
  have hpl := puts_len
  clear hM hZ hF hbs
  go_enter Tryd.func5, Tryd.ntmps5
  go_wp2_with fail
  go_loopw [5, 6, 7] (fun v t n wr => ∃ (i : Nat) (v0 : Value), v0 = v ∧ t = .string (txt (putsP (bs.take i))) ∧ n = .int .i64 (i : Int) ∧ i ≤ bs.length ∧ Hid (SRow wr w.heap.size v0 (bs.take i)) ∧ Hid (Below w.heap.size w wr)) (fun _ _ n _ => bs.length - (intOf n).toNat)
  case atStart => exact ⟨0, _, rfl, rfl, rfl, Nat.zero_le _, Lib.hid (nil_row _ _), Lib.hid (Below.refl _ _)⟩
  case round =>
    obtain ⟨i, v0, rfl, rfl, rfl, hi, hS, hB⟩ := hrel
    obtain ⟨p0, c0, hv0⟩ := hS.out.shape
    by_cases hiM : i < M.length
    · by_cases hi20 : i < 20
      · have hbi := hat i M[i] (List.getElem?_eq_getElem hiM) hi20
        have hib := (List.getElem?_eq_some_iff.1 hbi).1
        obtain ⟨b, o, rfl, hcell⟩ := HM.out.1 (by omega)
        have hcw := hcell i M[i] (List.getElem?_eq_getElem hiM)
        have hmem : M[i] ∈ M := List.getElem_mem hiM
        generalize M[i] = s at *
        have HC1 := Lib.hid (HC.out s hmem)
        have h1 : (i : Int) < (M.length : Int) := by omega
        have h2 : (i : Int) < 20 := by omega
        rw [List.length_take, Nat.min_eq_left hi] at hv0
        subst hv0
        generalize hbb : s.data.toList.take 3000 = bb at *
        have hbl : bb.length ≤ 3000 := by rw [← hbb, List.length_take]; omega
        have hti : (bs.take i).length = i := by rw [List.length_take]; omega
        have HON : Hid (wr.ownsRow w.heap.size 9 1 (.slice p0 i c0) i (scells (bs.take i))) := Lib.hid (by have := hS.out; unfold SRow at this; rw [hti] at this; exact this)
        have HB1 : Hid (w.heap.size ≤ wr.heap.size) := Lib.hid hB.out.size
        have HCW := Lib.hid hcw
        have hc0 := cell_keep hB.out hcw
        have hsz1 : (txt (putsP (bs.take i))).size ≤ 60760 := by
          have h1 := hpl (bs.take i) (fun x hx => hb3 x (List.mem_of_mem_take hx))
          show (List.toArray _).size ≤ _
          rw [hti] at h1
          simp
          omega
        have hsz2 : (txt (putP bb)).size ≤ 3038 := by
          have h3 := dec_len bb.length (by omega)
          have h4 := putP_len bb
          show (List.toArray _).size ≤ _
          simp
          omega
        have hst : txt (putsP (bs.take i)) ++ txt (putP bb) = txt (putsP (bs.take (i + 1))) := by
          apply ba_ext
          rw [data_app, txt_list, txt_list, txt_list, hsn i bb hbi]
        have HPB := Lib.hid (HP.out bb hbl)
        rw [txt_list] at HPB
        have HST := Lib.hid hst
        have HBI := Lib.hid hbi
        clear hst hbi hsn
        generalize hT2 : txt (putP bb) = T2 at *
        generalize hT1 : txt (putsP (bs.take i)) = T1 at *
        clear hT1 hT2
        have d1 : ¬ 9223372036854775807 < T1.size + T2.size := by omega
        clear hcell hbb hcw hsz1 hsz2
        go_wp2_with fail
        refine (HC1.out _).mono ?_
        rintro e w1 ⟨rfl, rfl⟩
        go_wp2_with (at_builtin; refine wpList_append_own2 _ rfl _ _ 44 rfl w.heap.size 9 i0 (.string ⟨#[]⟩) 1 16 Tryd.underlying44 hi0 hz0 hz1 hz2 rfl (by decide) _ _ _ rfl (HON.out.alloc _) ⟨wr.heap.size, 0, none⟩ 1 1 [.string (txt bb)] rfl rfl (one_new _ _) ?c2 ?c3 ?c4 ?c5 ?_)
        case c2 => simp [Value.oneCell']
        case c3 => unfold maxLen; omega
        case c4 => omega
        case c5 => rw [World.size_alloc]; have := HB1.out; omega
        intro v2 w2 hown2 hgr2 hne2
        have HS2 : Hid (SRow w2 w.heap.size v2 (bs.take (i + 1))) := Lib.hid (by
          unfold SRow
          have e1 : bs.take (i + 1) = bs.take i ++ [bb] := by
            rw [List.take_succ_eq_append_getElem hib, (List.getElem?_eq_some_iff.1 HBI.out).2]
          rw [e1, List.length_append, hti, show scells (bs.take i ++ [bb]) = scells (bs.take i) ++ [.string (txt bb)] by simp [scells]]
          exact hown2)
        have HB2 : Hid (Below w.heap.size w w2) := Lib.hid (((hB.out.trans ((alloc_below wr (.cells #[.string (txt bb)] 9)).mono HB1.out))).grown hgr2 (by rw [World.size_alloc]; have := HB1.out; omega) (fun k hk => (hS.out.lt hk).2))
        have hc2 := cell_keep HB2.out HCW.out
        obtain ⟨p2, c2, hv2⟩ := HS2.out.shape
        have ht2 : (bs.take (i + 1)).length = i + 1 := by rw [List.length_take]; omega
        rw [ht2] at hv2
        subst hv2
        clear hown2 hgr2 hne2 HON hS hc0
        go_wp2_with fail
        refine (HC1.out _).mono ?_
        rintro e w3 ⟨rfl, rfl⟩
        go_wp2_with fail
        refine (HPB.out w2 HB2.out).mono ?_
        rintro e w3 ⟨rfl, hb4⟩
        have HB3 := Lib.hid (HB2.out.trans (hb4.mono HB2.out.size))
        have HS3 := Lib.hid (HS2.out.keep (fun k hk => hb4.block k (HS2.out.lt hk).1))
        clear hb4 HS2
        go_wp2_with fail
        refine ⟨⟨i + 1, _, rfl, by rw [HST.out], by go_num, by omega, HS3, HB3⟩, ?_⟩
        simp [intOf]
        omega
      · have h1 : (i : Int) < (M.length : Int) := by omega
        have h2 : ¬ (i : Int) < 20 := by omega
        obtain rfl : i = bs.length := by omega
        rw [List.take_of_length_le (Nat.le_refl _)] at hS ⊢ hv0
        clear hv0
        obtain ⟨pW, cW, hvW⟩ := hS.out.shape
        subst hvW
        have HN := Lib.hid (new_any wr)
        have HBW := Lib.hid hB.out
        go_wp2_with fail
        refine HN.out.mono ?_
        rintro e w2 ⟨rfl, hr2, hb2, hz2⟩
        obtain ⟨R, hR⟩ : ∃ R, R = wr.heap.size := ⟨_, rfl⟩
        rw [← hR] at hr2 ⊢
        have hQ : QSt w w2 R none (.live []) nilV (.slice pW bs.length cW) [] bs := by
          have hwr : w.heap.size ≤ wr.heap.size := hB.out.size
          refine ⟨hB.out.trans (hb2.mono hB.out.size), hr2, nil_row _ _, hS.out.keep (fun k hk => hb2.block k (hS.out.lt hk).1), fun k hk => by rw [rdX_none hk]; omega, (fun k hk => by cases hk), fun k hk hx => ?_, (fun k hk => by cases hk)⟩
          have := (hS.out.lt hk).1
          have := rdX_none hx
          omega
        have HQ := Lib.hid hQ
        clear hr2 hb2 hz2 hQ HN hS hB hR
        go_wp2_with fail
        go_loopw [6, 9, 10] (fun t v n wl => ∃ (turn j : Nat) (m r : List UInt8) (g : Option Nat) (v0 : Value), v0 = v ∧ t = .string (txt m) ∧ n = .int .i64 (turn : Int) ∧ turn ≤ 4000 ∧ j ≤ bs.length ∧ r ++ m = putsP (bs.drop j) ∧ (m = [] → j = bs.length ∧ r = []) ∧ Hid (QSt w wl R g (.live r) v0 (.slice pW bs.length cW) (bs.take j) bs)) (fun _ _ n _ => 4000 - (intOf n).toNat)
        case atStart => exact ⟨0, 0, putsP bs, [], none, _, rfl, rfl, rfl, by omega, Nat.zero_le _, rfl, fun h => by rw [puts_nil h]; exact ⟨rfl, rfl⟩, HQ⟩
        case round =>
          obtain ⟨turn, j, m, r, g, v1, rfl, rfl, rfl, htu, hj, hrm, hend, hQ⟩ := hrel
          clear HQ
          obtain ⟨p1, c1', hv1⟩ := hQ.out.row1.shape
          rw [List.length_take, Nat.min_eq_left hj] at hv1
          subst hv1
          by_cases hm : m = []
          · obtain ⟨hj2, hr2⟩ := hend hm
            subst hm hr2
            subst hj2
            rw [List.take_of_length_le (Nat.le_refl _)] at hQ
            have hemp : (txt []).toList.isEmpty = true := (isEmpty_of []).trans rfl
            have HSM := Lib.hid (same_eq _ w.heap.size w.heap.size _ _ bs hQ.out.row1 hQ.out.row2 (by omega))
            have hQ2 := hQ
            clear hrm hend hQ
            go_wp2_with fail
            refine HSM.out.mono ?_
            rintro e w5 ⟨rfl, hb5⟩
            have HQ5 := Lib.hid (hQ2.out.more hb5)
            have HH := Lib.hid (held_any R g (.live []) w5 HQ5.out.rd)
            rw [show RS.held (.live []) = 0 from rfl] at HH
            clear hb5 HSM hQ2
            go_wp2_with fail
            refine HH.out.mono ?_
            rintro e w6 ⟨rfl, rfl⟩
            have HA := Lib.hid (awake_any _ (HF.out.below HQ5.out.below))
            go_wp2_with fail
            refine HA.out.mono ?_
            rintro e w7 ⟨rfl, hb7⟩
            have HB7 := Lib.hid (HQ5.out.below.trans (hb7.mono HQ5.out.below.size))
            clear hb7
            go_wp2_with fail
            go_ret
            exact ⟨rfl, HB7.out⟩
          · have hemp : (txt m).toList.isEmpty = false := (isEmpty_of m).trans (by
              cases m with
              | nil => exact absurd rfl hm
              | cons _ _ => rfl)
            by_cases ht4 : turn < 4000
            · have ht5 : (turn : Int) < 4000 := by omega
              have hrl : r.length + m.length ≤ 60760 := by
                have h1 := hpl (bs.drop j) (fun x hx => hb3 x (List.mem_of_mem_drop hx))
                rw [← hrm, List.length_append, List.length_drop] at h1
                omega
              have hSd : (txt m).data.toList = m := rfl
              have hSz : (txt m).size = m.length := by show (List.toArray m).size = _; simp
              generalize hS' : txt m = S at *
              clear hS'
              by_cases hZ1 : turn < Z.length
              · obtain ⟨b1, o1, rfl, hzc⟩ := HZ.out (by omega)
                have hzv := cell_keep hQ.out.below (hzc turn Z[turn] (List.getElem?_eq_getElem hZ1))
                have hz1' : (turn : Int) < (Z.length : Int) := by omega
                generalize Z[turn] = zz at *
                obtain ⟨nn, hnn⟩ : ∃ nn : Nat, min (S.size : Int) (zz.toNat : Int) = (nn : Int) := ⟨(min (S.size : Int) (zz.toNat : Int)).toNat, by omega⟩
                have hnS : nn ≤ S.size := by omega
                clear hzc
                have hnl : nn ≤ m.length := by omega
                have hE1 : (S.extract 0 nn).data.toList = m.take nn := by rw [ext_list, hSd, List.drop_zero, Nat.sub_zero]
                have hE2 : (S.extract nn S.size) = txt (m.drop nn) := by
                  apply ba_ext
                  rw [ext_list, hSd, txt_list, List.take_of_length_le (by rw [List.length_drop]; omega)]
                have hE3 : (S.extract 0 nn).size = nn := by rw [ByteArray.size_extract]; omega
                obtain ⟨j2, r2, q1, q2, q3, q4, q5, q6⟩ := allR_back 200 (bs.drop j) (r ++ m.take nn) (m.drop nn) (by rw [List.length_drop]; omega) (fun x hx => by have := hb3 x (List.mem_of_mem_drop hx); omega) (by rw [List.append_assoc, List.take_append_drop]; exact hrm)
                have HPU := Lib.hid (hQ.out.push (S.extract 0 nn) (by rw [hE3]; omega))
                rw [hE1] at HPU
                rw [List.length_drop] at q1
                have htl : (bs.take (j + j2)).length = j + j2 := by rw [List.length_take]; omega
                have htk : bs.take j ++ (bs.drop j).take j2 = bs.take (j + j2) := by rw [List.take_add]
                have hjl : ((bs.drop j).take j2).length = j2 := by rw [List.length_take, List.length_drop]; omega
                have hjl2 : (bs.take j).length = j := by rw [List.length_take]; omega
                have HQ0 := Lib.hid q5
                have HQ6 := Lib.hid q6
                have HE2 := Lib.hid hE2
                have HTK := Lib.hid htk
                clear hrm hend hE1 hE2 hE3 q5 q6 htk hm hSd hSz hnl hrl
                have hwz : wrap64 (zz.toNat : Int) = (zz.toNat : Int) := by
                  have := zz.toNat_lt
                  unfold wrap64
                  omega
                rw [← hwz] at hnn
                have hnI : (nn : Int) ≤ (S.size : Int) := by omega
                clear hwz
                go_wp2_with fail
                refine HPU.out.mono ?_
                rintro e w5 ⟨rfl, g5, hq5⟩
                have HA5 := Lib.hid (hq5.all HF.out)
                rw [q2, q3, q4] at HA5
                clear hq5 HPU hQ
                go_wp2_with fail
                refine HA5.out.mono ?_
                rintro e w6 ⟨v6, g6, rfl, hq6, hrow6⟩
                obtain ⟨p6, c6, hv6⟩ := hrow6.shape
                rw [hjl] at hv6
                subst hv6
                have HQ7 := Lib.hid hq6
                have R6 := Lib.hid hq6.row1
                have R7 := Lib.hid hrow6
                have B6 := Lib.hid hq6.below.size
                clear hq6 hrow6 HA5
                go_wp2_with (at_builtin; refine wpList_append_rows rfl _ _ rfl rfl R6.out rfl R7.out (by omega) B6.out ?_; intro v7 w7 hs7 hf7 hne7; obtain ⟨p7, c7, hv7⟩ := hs7.shape; subst hv7)
                have HQ8 := Lib.hid (HQ7.out.app hs7 hf7 hne7)
                rw [HTK.out] at HQ8
                clear hs7 hf7 hne7 HQ7 R6 R7 B6
                rw [HE2.out]
                refine ⟨⟨turn + 1, j + j2, m.drop nn, r2, g6, _, rfl, rfl, by go_num, by omega, by omega, by rw [← List.drop_drop]; exact HQ0.out, fun h => ⟨by have := (HQ6.out h).1; rw [List.length_drop] at this; omega, (HQ6.out h).2⟩, by rw [htl] at HQ8; exact HQ8⟩, ?_⟩
                simp [intOf]
                omega
              · have hz1' : ¬ (turn : Int) < (Z.length : Int) := by omega
                have hnl : S.size ≤ m.length := by omega
                obtain ⟨j2, r2, q1, q2, q3, q4, q5, q6⟩ := allR_back 200 (bs.drop j) (r ++ m) [] (by rw [List.length_drop]; omega) (fun x hx => by have := hb3 x (List.mem_of_mem_drop hx); omega) (by rw [List.append_nil]; exact hrm)
                have HPU := Lib.hid (hQ.out.push S (by omega))
                rw [hSd] at HPU
                rw [List.length_drop] at q1
                have htl : (bs.take (j + j2)).length = j + j2 := by rw [List.length_take]; omega
                have htk : bs.take j ++ (bs.drop j).take j2 = bs.take (j + j2) := by rw [List.take_add]
                have hjl : ((bs.drop j).take j2).length = j2 := by rw [List.length_take, List.length_drop]; omega
                have hjl2 : (bs.take j).length = j := by rw [List.length_take]; omega
                have HQ0 := Lib.hid q5
                have HQ6 := Lib.hid q6
                have HTK := Lib.hid htk
                clear hrm hend q5 q6 htk hm hSd hSz hnl hrl
                go_wp2_with fail
                refine HPU.out.mono ?_
                rintro e w5 ⟨rfl, g5, hq5⟩
                have HA5 := Lib.hid (hq5.all HF.out)
                rw [q2, q3, q4] at HA5
                clear hq5 HPU hQ
                go_wp2_with fail
                refine HA5.out.mono ?_
                rintro e w6 ⟨v6, g6, rfl, hq6, hrow6⟩
                obtain ⟨p6, c6, hv6⟩ := hrow6.shape
                rw [hjl] at hv6
                subst hv6
                have HQ7 := Lib.hid hq6
                have R6 := Lib.hid hq6.row1
                have R7 := Lib.hid hrow6
                have B6 := Lib.hid hq6.below.size
                clear hq6 hrow6 HA5
                go_wp2_with (at_builtin; refine wpList_append_rows rfl _ _ rfl rfl R6.out rfl R7.out (by omega) B6.out ?_; intro v7 w7 hs7 hf7 hne7; obtain ⟨p7, c7, hv7⟩ := hs7.shape; subst hv7)
                have HQ8 := Lib.hid (HQ7.out.app hs7 hf7 hne7)
                rw [HTK.out] at HQ8
                clear hs7 hf7 hne7 HQ7 R6 R7 B6
                refine ⟨⟨turn + 1, j + j2, [], r2, g6, _, rfl, rfl, by go_num, by omega, by omega, by rw [← List.drop_drop]; exact HQ0.out, fun h => ⟨by have := (HQ6.out trivial).1; rw [List.length_drop] at this; omega, (HQ6.out trivial).2⟩, by rw [htl] at HQ8; exact HQ8⟩, ?_⟩
                simp [intOf]
                omega
            · have ht5 : ¬ (turn : Int) < 4000 := by omega
              have HA := Lib.hid (awake_any _ (HF.out.below hQ.out.below))
              clear hrm hend
              go_wp2_with fail
              refine HA.out.mono ?_
              rintro e w7 ⟨rfl, hb7⟩
              have HB7 := Lib.hid (hQ.out.below.trans (hb7.mono hQ.out.below.size))
              clear hb7
              go_wp2_with fail
              go_ret
              exact ⟨rfl, HB7.out⟩
    · have h1 : ¬ (i : Int) < (M.length : Int) := by omega
      obtain rfl : i = bs.length := by omega
      rw [List.take_of_length_le (Nat.le_refl _)] at hS ⊢ hv0
      clear hv0
      obtain ⟨pW, cW, hvW⟩ := hS.out.shape
      subst hvW
      have HN := Lib.hid (new_any wr)
      have HBW := Lib.hid hB.out
      go_wp2_with fail
      refine HN.out.mono ?_
      rintro e w2 ⟨rfl, hr2, hb2, hz2⟩
      obtain ⟨R, hR⟩ : ∃ R, R = wr.heap.size := ⟨_, rfl⟩
      rw [← hR] at hr2 ⊢
      have hQ : QSt w w2 R none (.live []) nilV (.slice pW bs.length cW) [] bs := by
        have hwr : w.heap.size ≤ wr.heap.size := hB.out.size
        refine ⟨hB.out.trans (hb2.mono hB.out.size), hr2, nil_row _ _, hS.out.keep (fun k hk => hb2.block k (hS.out.lt hk).1), fun k hk => by rw [rdX_none hk]; omega, (fun k hk => by cases hk), fun k hk hx => ?_, (fun k hk => by cases hk)⟩
        have := (hS.out.lt hk).1
        have := rdX_none hx
        omega
      have HQ := Lib.hid hQ
      clear hr2 hb2 hz2 hQ HN hS hB hR
      go_wp2_with fail
      go_loopw [6, 9, 10] (fun t v n wl => ∃ (turn j : Nat) (m r : List UInt8) (g : Option Nat) (v0 : Value), v0 = v ∧ t = .string (txt m) ∧ n = .int .i64 (turn : Int) ∧ turn ≤ 4000 ∧ j ≤ bs.length ∧ r ++ m = putsP (bs.drop j) ∧ (m = [] → j = bs.length ∧ r = []) ∧ Hid (QSt w wl R g (.live r) v0 (.slice pW bs.length cW) (bs.take j) bs)) (fun _ _ n _ => 4000 - (intOf n).toNat)
      case atStart => exact ⟨0, 0, putsP bs, [], none, _, rfl, rfl, rfl, by omega, Nat.zero_le _, rfl, fun h => by rw [puts_nil h]; exact ⟨rfl, rfl⟩, HQ⟩
      case round =>
        obtain ⟨turn, j, m, r, g, v1, rfl, rfl, rfl, htu, hj, hrm, hend, hQ⟩ := hrel
        clear HQ
        obtain ⟨p1, c1', hv1⟩ := hQ.out.row1.shape
        rw [List.length_take, Nat.min_eq_left hj] at hv1
        subst hv1
        by_cases hm : m = []
        · obtain ⟨hj2, hr2⟩ := hend hm
          subst hm hr2
          subst hj2
          rw [List.take_of_length_le (Nat.le_refl _)] at hQ
          have hemp : (txt []).toList.isEmpty = true := (isEmpty_of []).trans rfl
          have HSM := Lib.hid (same_eq _ w.heap.size w.heap.size _ _ bs hQ.out.row1 hQ.out.row2 (by omega))
          have hQ2 := hQ
          clear hrm hend hQ
          go_wp2_with fail
          refine HSM.out.mono ?_
          rintro e w5 ⟨rfl, hb5⟩
          have HQ5 := Lib.hid (hQ2.out.more hb5)
          have HH := Lib.hid (held_any R g (.live []) w5 HQ5.out.rd)
          rw [show RS.held (.live []) = 0 from rfl] at HH
          clear hb5 HSM hQ2
          go_wp2_with fail
          refine HH.out.mono ?_
          rintro e w6 ⟨rfl, rfl⟩
          have HA := Lib.hid (awake_any _ (HF.out.below HQ5.out.below))
          go_wp2_with fail
          refine HA.out.mono ?_
          rintro e w7 ⟨rfl, hb7⟩
          have HB7 := Lib.hid (HQ5.out.below.trans (hb7.mono HQ5.out.below.size))
          clear hb7
          go_wp2_with fail
          go_ret
          exact ⟨rfl, HB7.out⟩
        · have hemp : (txt m).toList.isEmpty = false := (isEmpty_of m).trans (by
            cases m with
            | nil => exact absurd rfl hm
            | cons _ _ => rfl)
          by_cases ht4 : turn < 4000
          · have ht5 : (turn : Int) < 4000 := by omega
            have hrl : r.length + m.length ≤ 60760 := by
              have h1 := hpl (bs.drop j) (fun x hx => hb3 x (List.mem_of_mem_drop hx))
              rw [← hrm, List.length_append, List.length_drop] at h1
              omega
            have hSd : (txt m).data.toList = m := rfl
            have hSz : (txt m).size = m.length := by show (List.toArray m).size = _; simp
            generalize hS' : txt m = S at *
            clear hS'
            by_cases hZ1 : turn < Z.length
            · obtain ⟨b1, o1, rfl, hzc⟩ := HZ.out (by omega)
              have hzv := cell_keep hQ.out.below (hzc turn Z[turn] (List.getElem?_eq_getElem hZ1))
              have hz1' : (turn : Int) < (Z.length : Int) := by omega
              generalize Z[turn] = zz at *
              obtain ⟨nn, hnn⟩ : ∃ nn : Nat, min (S.size : Int) (zz.toNat : Int) = (nn : Int) := ⟨(min (S.size : Int) (zz.toNat : Int)).toNat, by omega⟩
              have hnS : nn ≤ S.size := by omega
              clear hzc
              have hnl : nn ≤ m.length := by omega
              have hE1 : (S.extract 0 nn).data.toList = m.take nn := by rw [ext_list, hSd, List.drop_zero, Nat.sub_zero]
              have hE2 : (S.extract nn S.size) = txt (m.drop nn) := by
                apply ba_ext
                rw [ext_list, hSd, txt_list, List.take_of_length_le (by rw [List.length_drop]; omega)]
              have hE3 : (S.extract 0 nn).size = nn := by rw [ByteArray.size_extract]; omega
              obtain ⟨j2, r2, q1, q2, q3, q4, q5, q6⟩ := allR_back 200 (bs.drop j) (r ++ m.take nn) (m.drop nn) (by rw [List.length_drop]; omega) (fun x hx => by have := hb3 x (List.mem_of_mem_drop hx); omega) (by rw [List.append_assoc, List.take_append_drop]; exact hrm)
              have HPU := Lib.hid (hQ.out.push (S.extract 0 nn) (by rw [hE3]; omega))
              rw [hE1] at HPU
              rw [List.length_drop] at q1
              have htl : (bs.take (j + j2)).length = j + j2 := by rw [List.length_take]; omega
              have htk : bs.take j ++ (bs.drop j).take j2 = bs.take (j + j2) := by rw [List.take_add]
              have hjl : ((bs.drop j).take j2).length = j2 := by rw [List.length_take, List.length_drop]; omega
              have hjl2 : (bs.take j).length = j := by rw [List.length_take]; omega
              have HQ0 := Lib.hid q5
              have HQ6 := Lib.hid q6
              have HE2 := Lib.hid hE2
              have HTK := Lib.hid htk
              clear hrm hend hE1 hE2 hE3 q5 q6 htk hm hSd hSz hnl hrl
              have hwz : wrap64 (zz.toNat : Int) = (zz.toNat : Int) := by
                have := zz.toNat_lt
                unfold wrap64
                omega
              rw [← hwz] at hnn
              have hnI : (nn : Int) ≤ (S.size : Int) := by omega
              clear hwz
              go_wp2_with fail
              refine HPU.out.mono ?_
              rintro e w5 ⟨rfl, g5, hq5⟩
              have HA5 := Lib.hid (hq5.all HF.out)
              rw [q2, q3, q4] at HA5
              clear hq5 HPU hQ
              go_wp2_with fail
              refine HA5.out.mono ?_
              rintro e w6 ⟨v6, g6, rfl, hq6, hrow6⟩
              obtain ⟨p6, c6, hv6⟩ := hrow6.shape
              rw [hjl] at hv6
              subst hv6
              have HQ7 := Lib.hid hq6
              have R6 := Lib.hid hq6.row1
              have R7 := Lib.hid hrow6
              have B6 := Lib.hid hq6.below.size
              clear hq6 hrow6 HA5
              go_wp2_with (at_builtin; refine wpList_append_rows rfl _ _ rfl rfl R6.out rfl R7.out (by omega) B6.out ?_; intro v7 w7 hs7 hf7 hne7; obtain ⟨p7, c7, hv7⟩ := hs7.shape; subst hv7)
              have HQ8 := Lib.hid (HQ7.out.app hs7 hf7 hne7)
              rw [HTK.out] at HQ8
              clear hs7 hf7 hne7 HQ7 R6 R7 B6
              rw [HE2.out]
              refine ⟨⟨turn + 1, j + j2, m.drop nn, r2, g6, _, rfl, rfl, by go_num, by omega, by omega, by rw [← List.drop_drop]; exact HQ0.out, fun h => ⟨by have := (HQ6.out h).1; rw [List.length_drop] at this; omega, (HQ6.out h).2⟩, by rw [htl] at HQ8; exact HQ8⟩, ?_⟩
              simp [intOf]
              omega
            · have hz1' : ¬ (turn : Int) < (Z.length : Int) := by omega
              have hnl : S.size ≤ m.length := by omega
              obtain ⟨j2, r2, q1, q2, q3, q4, q5, q6⟩ := allR_back 200 (bs.drop j) (r ++ m) [] (by rw [List.length_drop]; omega) (fun x hx => by have := hb3 x (List.mem_of_mem_drop hx); omega) (by rw [List.append_nil]; exact hrm)
              have HPU := Lib.hid (hQ.out.push S (by omega))
              rw [hSd] at HPU
              rw [List.length_drop] at q1
              have htl : (bs.take (j + j2)).length = j + j2 := by rw [List.length_take]; omega
              have htk : bs.take j ++ (bs.drop j).take j2 = bs.take (j + j2) := by rw [List.take_add]
              have hjl : ((bs.drop j).take j2).length = j2 := by rw [List.length_take, List.length_drop]; omega
              have hjl2 : (bs.take j).length = j := by rw [List.length_take]; omega
              have HQ0 := Lib.hid q5
              have HQ6 := Lib.hid q6
              have HTK := Lib.hid htk
              clear hrm hend q5 q6 htk hm hSd hSz hnl hrl
              go_wp2_with fail
              refine HPU.out.mono ?_
              rintro e w5 ⟨rfl, g5, hq5⟩
              have HA5 := Lib.hid (hq5.all HF.out)
              rw [q2, q3, q4] at HA5
              clear hq5 HPU hQ
              go_wp2_with fail
              refine HA5.out.mono ?_
              rintro e w6 ⟨v6, g6, rfl, hq6, hrow6⟩
              obtain ⟨p6, c6, hv6⟩ := hrow6.shape
              rw [hjl] at hv6
              subst hv6
              have HQ7 := Lib.hid hq6
              have R6 := Lib.hid hq6.row1
              have R7 := Lib.hid hrow6
              have B6 := Lib.hid hq6.below.size
              clear hq6 hrow6 HA5
              go_wp2_with (at_builtin; refine wpList_append_rows rfl _ _ rfl rfl R6.out rfl R7.out (by omega) B6.out ?_; intro v7 w7 hs7 hf7 hne7; obtain ⟨p7, c7, hv7⟩ := hs7.shape; subst hv7)
              have HQ8 := Lib.hid (HQ7.out.app hs7 hf7 hne7)
              rw [HTK.out] at HQ8
              clear hs7 hf7 hne7 HQ7 R6 R7 B6
              refine ⟨⟨turn + 1, j + j2, [], r2, g6, _, rfl, rfl, by go_num, by omega, by omega, by rw [← List.drop_drop]; exact HQ0.out, fun h => ⟨by have := (HQ6.out trivial).1; rw [List.length_drop] at this; omega, (HQ6.out trivial).2⟩, by rw [htl] at HQ8; exact HQ8⟩, ?_⟩
              simp [intOf]
              omega
          · have ht5 : ¬ (turn : Int) < 4000 := by omega
            have HA := Lib.hid (awake_any _ (HF.out.below hQ.out.below))
            clear hrm hend
            go_wp2_with fail
            refine HA.out.mono ?_
            rintro e w7 ⟨rfl, hb7⟩
            have HB7 := Lib.hid (hQ.out.below.trans (hb7.mono hQ.out.below.size))
            clear hb7
            go_wp2_with fail
            go_ret
            exact ⟨rfl, HB7.out⟩
end Go.Proofs.YtmaihiklcdidbaaDoor
