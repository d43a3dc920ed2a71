/-
  JtextQuotes (P3.2): for every input the law returns true and leaves all memory that was there as it was. Condition: the variables that are read hold what their text lays (Facts).
-/
import Derived.Test.YtagpdaaebjljeaaDoorRefQuo
import Derived.Test.YtagpdaaebjljeaaDoorAwake
namespace Go.Proofs.YtagpdaaebjljeaaDoor
open Go.RowKit

theorem cut_le (s : ByteArray) : (cutB s).size ≤ 2000 := by
  unfold cutB
  rw [ByteArray.size_extract]
  omega
set_option maxRecDepth 100000 in
set_option maxHeartbeats 1000000 in
theorem quotes_walk (s0 : ByteArray) (w : World) (hF : Facts w) : Calls Tryd.prog 4 #[.string s0] w fun e w' => e = .returned (.bool true) ∧ Below w.heap.size w w' := by
  have HC := Lib.hid (fun w => cut_any s0 w)
  have hs := cut_le s0
  generalize cutB s0 = s at *
  have HF := Lib.hid hF
  have HQ := Lib.hid (fun (w : World) (hF : Facts w) => quote_any s (by omega) w hF)
  have HR := Lib.hid (fun (w : World) => refQuote_any s (by omega) w)
  obtain ⟨q, k, hqk⟩ : ∃ (q : ByteArray) (k : Int), quoteV s.data.toList = .tuple #[.string q, .int .i64 k] := by
    unfold quoteV
    split
    · exact ⟨_, _, rfl⟩
    · exact ⟨_, _, rfl⟩
  rw [hqk] at HQ HR
  have e1 : (q.toList == q.toList) = true := by simp
  have e2 : (k == k) = true := by simp
  clear hqk hF
  go_enter Tryd.func4, Tryd.ntmps4
  go_wp2_with fail
  refine (HC.out _).mono ?_
  rintro e w' ⟨rfl, rfl⟩
  go_wp2_with fail
  refine (HQ.out _ HF.out).mono ?_
  rintro e w1 ⟨rfl, hb⟩
  have HB1 := Lib.hid hb
  have HF1 := Lib.hid (HF.out.below hb)
  clear hb
  go_wp2_with fail
  refine (HR.out _).mono ?_
  rintro e w2 ⟨rfl, hb⟩
  have HB2 := Lib.hid (HB1.out.trans (hb.mono HB1.out.size))
  have HF2 := Lib.hid (HF1.out.below hb)
  clear hb
  go_wp2_with fail
  refine (awake_any _ HF2.out).mono ?_
  rintro e w3 ⟨rfl, hb⟩
  have HB3 := Lib.hid (HB2.out.trans (hb.mono HB2.out.size))
  clear hb
  go_wp2_with fail
  go_ret
  exact ⟨rfl, HB3.out⟩
end Go.Proofs.YtagpdaaebjljeaaDoor
