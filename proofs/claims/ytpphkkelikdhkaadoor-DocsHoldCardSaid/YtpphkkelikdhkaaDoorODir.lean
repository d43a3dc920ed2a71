/-
  docs' Dir, isURI AT EVERY TEXT: what they return; no memory that was there turns. Conditions: the text's length; what the variables that are read hold (Fx).
-/
import Derived.Test.YtpphkkelikdhkaaDoorOKit
import Derived.Test.YtpphkkelikdhkaaDoorORefDir2
import Derived.Lib.IndexMore
namespace Go.Proofs.YtpphkkelikdhkaaDoor
open Go.RowKit Go.Shelf

theorem index_idx (c : UInt8) : ∀ s : List UInt8, Lib.index s [c] = if s.idxOf c < s.length then (s.idxOf c : Int) else -1
  | [] => rfl
  | b :: l => by
    unfold Lib.index
    rw [index_idx c l]
    by_cases h : b = c
    · subst h
      simp
    · have h2 : (b == c) = false := by simpa using h
      have h3 : ([c].isPrefixOf (b :: l)) = false := by
        simp [List.isPrefixOf]
        exact fun e => h e.symm
      rw [h3, List.idxOf_cons, h2]
      simp only [Bool.false_eq_true, if_false, cond_false, List.length_cons]
      by_cases hl : l.idxOf c < l.length
      · have : ((l.idxOf c : Int) == -1) = false := by rw [beq_eq_false_iff_ne]; omega
        rw [if_pos hl, this, if_pos (show l.idxOf c + 1 < l.length + 1 by omega)]
        simp
      · have : ((-1 : Int) == -1) = true := rfl
        rw [if_neg hl, this, if_neg (show ¬ l.idxOf c + 1 < l.length + 1 by omega)]
        simp
theorem cut_slash (m : List UInt8) : Lib.cut m [47] = if m.idxOf 47 < m.length then (m.take (m.idxOf 47), m.drop (m.idxOf 47 + 1), true) else (m, [], false) := by
  unfold Lib.cut
  rw [index_idx]
  by_cases h : m.idxOf 47 < m.length
  · rw [if_pos h, if_pos (by omega), if_pos h, Int.toNat_natCast]
    rfl
  · rw [if_neg h, if_neg (by omega), if_neg h]
theorem good_idx {m : List UInt8} (h : m.idxOf 47 < m.length) : goodAt m (m.idxOf 47) = (nameB (m.take (m.idxOf 47)) && !resB (m.take (m.idxOf 47)) && nameB (m.drop (m.idxOf 47 + 1))) := by
  apply good_is
  rw [List.getElem?_eq_getElem h, List.getElem_idxOf]
theorem clone_any (s : ByteArray) (hs : s.size ≤ 1000000) (w : World) : Calls Tryd.prog 31 #[.string s] w fun e w' => e = .returned (.string s) ∧ Below w.heap.size w w' := by
  go_enter Tryd.func31, Tryd.ntmps31
  go_wp2_with fail
  refine (Tryd.stringslite_Clone s _ (by omega)).mono ?_
  rintro e w1 ⟨rfl, hb⟩
  have HB := Lib.hid hb
  clear hb
  go_wp2_with fail
  go_ret
  exact ⟨rfl, HB.out⟩
theorem mid_take (l : List UInt8) : (l.drop 8).take ((l.drop 8).length - 3) = middle l := by
  unfold middle
  rw [List.length_drop, show l.length - 8 - 3 = l.length - 11 by omega]
theorem dirL_noHead {l : List UInt8} (h : Lib.hasPrefix l headL = false) : dirL l = none := by
  unfold Lib.hasPrefix at h
  unfold dirL
  rw [h]
  rfl
theorem dirL_noTail {l : List UInt8} (h : Lib.hasSuffix (l.drop 8) tailL = false) : dirL l = none := by
  unfold Lib.hasSuffix at h
  unfold dirL
  rw [h, Bool.and_false]
  rfl
theorem dirL_both {l : List UInt8} (h1 : Lib.hasPrefix l headL = true) (h2 : Lib.hasSuffix (l.drop 8) tailL = true) : dirL l = dirM (middle l) := by
  unfold Lib.hasPrefix at h1
  unfold Lib.hasSuffix at h2
  unfold dirL
  rw [h1, h2]
  rfl
theorem ba_size (l : List UInt8) : (⟨l.toArray⟩ : ByteArray).size = l.length := by
  show (⟨l.toArray⟩ : ByteArray).data.size = _
  simp
set_option maxRecDepth 100000 in
set_option maxHeartbeats 1000000 in
theorem dir_any (s : ByteArray) (hs : s.size ≤ 1000000) (w : World) (hF : Fx w) : Calls Tryd.prog 8 #[.string s] w fun e w' => e = .returned (.tuple #[.string (dirS s.data.toList), .bool (dirB s.data.toList)]) ∧ Below w.heap.size w w' := by
  obtain ⟨_, mx, hmx⟩ := hF
  have hsl : s.size = s.data.toList.length := Lib.size_eq s
  have hc1 := Tryd.strings_CutPrefix s ⟨#[102, 105, 108, 101, 58, 47, 47, 47]⟩ w
  obtain ⟨l, hl⟩ : ∃ l, s.data.toList = l := ⟨_, rfl⟩
  rw [hl] at hc1 hsl ⊢
  rw [show (⟨#[102, 105, 108, 101, 58, 47, 47, 47]⟩ : ByteArray).data.toList = headL from rfl] at hc1
  cases hp : Lib.hasPrefix l headL with
  | false =>
    obtain ⟨e1, e2⟩ := dir_none (dirL_noHead hp)
    rw [e1, e2]
    rw [hp] at hc1
    have HC := Lib.hid hc1
    clear hc1 e1 e2 hp hl hsl hmx
    go_enter Tryd.func8, Tryd.ntmps8
    go_wp2_with fail
    refine HC.out.mono ?_
    rintro e w1 ⟨rfl, rfl⟩
    go_wp2_with fail
    go_ret2
    exact ⟨rfl, Below.refl _ _⟩
  | true =>
    have e8 : Lib.trimPrefix l headL = l.drop 8 := by unfold Lib.trimPrefix; rw [hp]; rfl
    rw [hp, e8] at hc1
    have hc2 := Tryd.strings_CutSuffix ⟨(l.drop 8).toArray⟩ ⟨#[46, 103, 111]⟩ w (by rw [ba_size, List.length_drop]; omega)
    rw [show (⟨(l.drop 8).toArray⟩ : ByteArray).data.toList = l.drop 8 by simp, show (⟨#[46, 103, 111]⟩ : ByteArray).data.toList = tailL from rfl] at hc2
    cases ht : Lib.hasSuffix (l.drop 8) tailL with
    | false =>
      obtain ⟨e1, e2⟩ := dir_none (dirL_noTail ht)
      rw [e1, e2]
      rw [ht] at hc2
      have HC := Lib.hid hc1
      have HC2 := Lib.hid hc2
      clear hc1 hc2 e1 e2 hp hl hsl hmx ht e8
      go_enter Tryd.func8, Tryd.ntmps8
      go_wp2_with fail
      refine HC.out.mono ?_
      rintro e w1 ⟨rfl, rfl⟩
      go_wp2_with fail
      refine HC2.out.mono ?_
      rintro e w1 ⟨rfl, rfl⟩
      go_wp2_with fail
      go_ret2
      exact ⟨rfl, Below.refl _ _⟩
    | true =>
      have em : Lib.trimSuffix (l.drop 8) tailL = middle l := by
        unfold Lib.trimSuffix
        rw [ht]
        exact mid_take l
      rw [ht, em] at hc2
      have hm := dirL_both hp ht
      have hml : (middle l).length ≤ 1000000 := by unfold middle; rw [List.length_take, List.length_drop]; omega
      have hc3 := Tryd.strings_Cut ⟨(middle l).toArray⟩ ⟨#[47]⟩ mx w (by rw [ba_size]; omega) hmx
      rw [show (⟨(middle l).toArray⟩ : ByteArray).data.toList = middle l by simp, show (⟨#[47]⟩ : ByteArray).data.toList = [47] from rfl, cut_slash] at hc3
      have HC := Lib.hid hc1
      have HC2 := Lib.hid hc2
      have hs1 : ∀ d, dirM (middle l) = some d → dirS l = ⟨d.toArray⟩ ∧ dirB l = true := fun d h => dir_some (hm.trans h)
      have hs2 : dirM (middle l) = none → dirS l = ⟨#[]⟩ ∧ dirB l = false := fun h => dir_none (hm.trans h)
      clear hc1 hc2 hp hl hsl hmx ht e8 em hm
      generalize l.drop 8 = r at *
      generalize middle l = m at *
      generalize dirS l = rs at *
      generalize dirB l = rb at *
      unfold dirM at hs1 hs2
      by_cases hi : m.idxOf 47 < m.length
      · rw [if_pos hi] at hc3
        rw [good_idx hi] at hs1 hs2
        have HC3 := Lib.hid hc3
        have HL : Hid (m.length ≤ 1000000) := Lib.hid hml
        have hn1 := name_any ⟨(m.take (m.idxOf 47)).toArray⟩ (by rw [ba_size, List.length_take]; omega)
        have hn2 := reserved_any ⟨(m.take (m.idxOf 47)).toArray⟩
        have hn3 := name_any ⟨(m.drop (m.idxOf 47 + 1)).toArray⟩ (by rw [ba_size, List.length_drop]; omega)
        have hn4 := clone_any ⟨(m.take (m.idxOf 47)).toArray⟩ (by rw [ba_size, List.length_take]; omega)
        rw [show (⟨(m.take (m.idxOf 47)).toArray⟩ : ByteArray).data.toList = m.take (m.idxOf 47) by simp] at hn1 hn2
        rw [show (⟨(m.drop (m.idxOf 47 + 1)).toArray⟩ : ByteArray).data.toList = m.drop (m.idxOf 47 + 1) by simp] at hn3
        clear hc3 hml hi
        generalize m.take (m.idxOf 47) = a at *
        generalize m.drop (m.idxOf 47 + 1) = b at *
        have HN1 := Lib.hid hn1
        have HN2 := Lib.hid hn2
        have HN3 := Lib.hid hn3
        have HN4 := Lib.hid hn4
        clear hn1 hn2 hn3 hn4
        cases b1 : nameB a with
        | false =>
          rw [b1] at HN1 hs2
          obtain ⟨rfl, rfl⟩ := hs2 rfl
          clear hs1 hs2
          go_enter Tryd.func8, Tryd.ntmps8
          go_wp2_with fail
          refine HC.out.mono ?_
          rintro e w1 ⟨rfl, rfl⟩
          go_wp2_with fail
          refine HC2.out.mono ?_
          rintro e w1 ⟨rfl, rfl⟩
          go_wp2_with fail
          refine HC3.out.mono ?_
          rintro e w1 ⟨rfl, n, rfl⟩
          go_wp2_with fail
          refine (HN1.out _).mono ?_
          rintro e w1 ⟨rfl, rfl⟩
          go_wp2_with fail
          go_ret2
          exact ⟨rfl, drewN_below (Below.refl _ _) n⟩
        | true =>
          cases b2 : resB a with
          | true =>
            rw [b1] at HN1 hs2
            rw [b2] at HN2 hs2
            obtain ⟨rfl, rfl⟩ := hs2 rfl
            clear hs1 hs2
            go_enter Tryd.func8, Tryd.ntmps8
            go_wp2_with fail
            refine HC.out.mono ?_
            rintro e w1 ⟨rfl, rfl⟩
            go_wp2_with fail
            refine HC2.out.mono ?_
            rintro e w1 ⟨rfl, rfl⟩
            go_wp2_with fail
            refine HC3.out.mono ?_
            rintro e w1 ⟨rfl, n, rfl⟩
            go_wp2_with fail
            refine (HN1.out _).mono ?_
            rintro e w1 ⟨rfl, rfl⟩
            go_wp2_with fail
            refine (HN2.out _).mono ?_
            rintro e w1 ⟨rfl, rfl⟩
            go_wp2_with fail
            go_ret2
            exact ⟨rfl, drewN_below (Below.refl _ _) n⟩
          | false =>
            cases b3 : nameB b with
            | false =>
              rw [b1] at HN1 hs2
              rw [b2] at HN2 hs2
              rw [b3] at HN3 hs2
              obtain ⟨rfl, rfl⟩ := hs2 rfl
              clear hs1 hs2
              go_enter Tryd.func8, Tryd.ntmps8
              go_wp2_with fail
              refine HC.out.mono ?_
              rintro e w1 ⟨rfl, rfl⟩
              go_wp2_with fail
              refine HC2.out.mono ?_
              rintro e w1 ⟨rfl, rfl⟩
              go_wp2_with fail
              refine HC3.out.mono ?_
              rintro e w1 ⟨rfl, n, rfl⟩
              go_wp2_with fail
              refine (HN1.out _).mono ?_
              rintro e w1 ⟨rfl, rfl⟩
              go_wp2_with fail
              refine (HN2.out _).mono ?_
              rintro e w1 ⟨rfl, rfl⟩
              go_wp2_with fail
              refine (HN3.out _).mono ?_
              rintro e w1 ⟨rfl, rfl⟩
              go_wp2_with fail
              go_ret2
              exact ⟨rfl, drewN_below (Below.refl _ _) n⟩
            | true =>
              rw [b1] at HN1 hs1
              rw [b2] at HN2 hs1
              rw [b3] at HN3 hs1
              obtain ⟨rfl, rfl⟩ := hs1 a rfl
              clear hs1 hs2
              go_enter Tryd.func8, Tryd.ntmps8
              go_wp2_with fail
              refine HC.out.mono ?_
              rintro e w1 ⟨rfl, rfl⟩
              go_wp2_with fail
              refine HC2.out.mono ?_
              rintro e w1 ⟨rfl, rfl⟩
              go_wp2_with fail
              refine HC3.out.mono ?_
              rintro e w1 ⟨rfl, n, rfl⟩
              go_wp2_with fail
              refine (HN1.out _).mono ?_
              rintro e w1 ⟨rfl, rfl⟩
              go_wp2_with fail
              refine (HN2.out _).mono ?_
              rintro e w1 ⟨rfl, rfl⟩
              go_wp2_with fail
              refine (HN3.out _).mono ?_
              rintro e w1 ⟨rfl, rfl⟩
              go_wp2_with fail
              refine (HN4.out _).mono ?_
              rintro e w1 ⟨rfl, hb⟩
              have HB := Lib.hid hb
              clear hb
              go_wp2_with fail
              go_ret2
              exact ⟨rfl, (drewN_below (Below.refl _ _) n).trans (HB.out.mono (Nat.le_refl _))⟩
      · rw [if_neg hi] at hc3
        have hg : goodAt m (m.idxOf 47) = false := by
          unfold goodAt
          rw [List.getElem?_eq_none (by omega)]
          rfl
        rw [hg] at hs2
        obtain ⟨rfl, rfl⟩ := hs2 rfl
        have HC3 := Lib.hid hc3
        clear hs1 hs2 hc3 hml hi hg
        go_enter Tryd.func8, Tryd.ntmps8
        go_wp2_with fail
        refine HC.out.mono ?_
        rintro e w1 ⟨rfl, rfl⟩
        go_wp2_with fail
        refine HC2.out.mono ?_
        rintro e w1 ⟨rfl, rfl⟩
        go_wp2_with fail
        refine HC3.out.mono ?_
        rintro e w1 ⟨rfl, n, rfl⟩
        go_wp2_with fail
        go_ret2
        exact ⟨rfl, drewN_below (Below.refl _ _) n⟩
theorem uri_any (s : ByteArray) (hs : s.size ≤ 1000000) (w : World) (hF : Fx w) : Calls Tryd.prog 37 #[.string s] w fun e w' => e = .returned (.bool (dirB s.data.toList)) ∧ Below w.heap.size w w' := by
  have HC := Lib.hid (dir_any s hs w hF)
  clear hF
  generalize dirS s.data.toList = a at *
  generalize dirB s.data.toList = b at *
  go_enter Tryd.func37, Tryd.ntmps37
  go_wp2_with fail
  refine HC.out.mono ?_
  rintro e w1 ⟨rfl, hb⟩
  have HB := Lib.hid hb
  clear hb
  go_wp2_with fail
  go_ret
  exact ⟨rfl, HB.out⟩
end Go.Proofs.YtpphkkelikdhkaaDoor
