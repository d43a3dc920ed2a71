/-
  JtextBack (P3.3): for every input the law returns true and leaves all memory that was there as it was. Condition: the variables that are read hold what their text lays (Facts).
-/
import Derived.Test.YtagpdaaebjljeaaDoorPlain3
import Derived.Test.YtagpdaaebjljeaaDoorAwake
namespace Go.Proofs.YtagpdaaebjljeaaDoor
open Go.RowKit

theorem cut_size (s : ByteArray) : (cutB s).size ≤ 2000 := by
  unfold cutB
  rw [ByteArray.size_extract]
  omega
theorem bodyQ_len : ∀ l : List UInt8, (bodyQ l).length ≤ 6 * l.length
  | [] => Nat.le_refl _
  | c :: l => by
    have ih := bodyQ_len l
    have h6 := qP_len c.toNat
    show (qB c ++ bodyQ l).length ≤ _
    rw [List.length_append, List.length_cons]
    have : (qB c).length ≤ 6 := by
      unfold qB
      split
      · exact h6
      · simp
    omega
set_option maxRecDepth 100000 in
set_option maxHeartbeats 1000000 in
theorem back_walk (s0 : ByteArray) (w : World) (hF : Facts w) : Calls Tryd.prog 6 #[.string s0] w fun e w' => e = .returned (.bool true) ∧ Below w.heap.size w w' := by
  have HC := Lib.hid (fun w => cut_any s0 w)
  have hs := cut_size s0
  generalize cutB s0 = s at *
  have HF := Lib.hid hF
  have HQ := Lib.hid (fun (w : World) (hF : Facts w) => quote_any s (by omega) w hF)
  unfold quoteV at HQ
  have hsl : s.data.toList.length = s.size := rfl
  have hgl := good_le s.data.toList
  by_cases hg : good s.data.toList < s.data.toList.length
  · rw [if_pos hg] at HQ
    clear hg hgl hsl hF
    go_enter Tryd.func6, Tryd.ntmps6
    go_wp2_with fail
    refine (HC.out _).mono ?_
    rintro e w' ⟨rfl, rfl⟩
    go_wp2_with fail
    refine (HQ.out _ HF.out).mono ?_
    rintro e w1 ⟨rfl, hb⟩
    have HB1 := Lib.hid hb
    have HF1 := Lib.hid (HF.out.below hb)
    clear hb
    go_wp2_with fail
    refine (awake_any _ HF1.out).mono ?_
    rintro e w2 ⟨rfl, hb⟩
    have HB2 := Lib.hid (HB1.out.trans (hb.mono HB1.out.size))
    clear hb
    go_wp2_with fail
    go_ret
    exact ⟨rfl, HB2.out⟩
  · rw [if_neg hg] at HQ
    have hv : valid s.data.toList = true := by rw [valid_good, decide_eq_true_eq]; omega
    have ht := toks_quote s.data.toList hv
    obtain ⟨q, hq⟩ : ∃ q : ByteArray, q = ⟨(quoteL s.data.toList).toArray⟩ := ⟨_, rfl⟩
    have hql : q.data.toList = quoteL s.data.toList := by rw [hq]
    have hqz : q.size = (quoteL s.data.toList).length := by rw [hq]; rfl
    rw [← hq] at HQ
    rw [← hql] at ht
    have hl := bodyQ_len s.data.toList
    have hqb : q.size ≤ 1000000 := by
      rw [hqz]
      unfold quoteL
      rw [List.length_cons, List.length_append]
      simp only [List.length_cons, List.length_nil]
      omega
    rw [hql, ← hqz, ← hql] at ht
    have HT := Lib.hid (fun (w : World) (hF : Facts w) => tokens_ok q hqb _ ht w hF)
    have hst : (txt s.data.toList) = s := rfl
    clear hg hgl hsl hF hv ht hq hql hqz hl
    go_enter Tryd.func6, Tryd.ntmps6
    go_wp2_with fail
    refine (HC.out _).mono ?_
    rintro e w' ⟨rfl, rfl⟩
    go_wp2_with fail
    refine (HQ.out _ HF.out).mono ?_
    rintro e w1 ⟨rfl, hb⟩
    have HB1 := Lib.hid hb
    have HF1 := Lib.hid (HF.out.below hb)
    clear hb
    go_wp2_with fail
    refine (HT.out _ HF1.out).mono ?_
    rintro e w2 ⟨A, cap, rfl, hr, hb⟩
    have HB2 := Lib.hid (HB1.out.trans (hb.mono HB1.out.size))
    have HF2 := Lib.hid (HF1.out.below hb)
    obtain ⟨g, rfl, hc⟩ := hr (Nat.zero_lt_one)
    obtain ⟨a0, a1, a2, a3⟩ := hc 0 _ rfl
    simp only [hst] at a1
    have hse : (s.toList == s.toList) = true := by simp
    clear hb hc hr
    go_wp2_with fail
    refine (awake_any _ HF2.out).mono ?_
    rintro e w3 ⟨rfl, hb⟩
    have HB3 := Lib.hid (HB2.out.trans (hb.mono HB2.out.size))
    clear hb
    go_wp2_with fail
    go_ret
    exact ⟨rfl, HB3.out⟩
end Go.Proofs.YtagpdaaebjljeaaDoor
