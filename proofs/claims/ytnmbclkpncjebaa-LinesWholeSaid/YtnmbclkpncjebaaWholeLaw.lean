/-
  THE WALK OF emendlaw06.LinesWhole: at every text it returns true; no memory that was there turns. No condition.
-/
import Derived.Test.YtnmbclkpncjebaaWorks
import Derived.Test.YtnmbclkpncjebaaLine
import Derived.LoopTactic
namespace Go.Proofs.Ytnmbclkpncjebaa
open Go.RowKit

theorem containsAny_no (s : ByteArray) (hs : s.size ≤ 1000000) (h : ∀ c ∈ s.data.toList, isEnd c = false) (w : World) : Calls Try.prog 23 #[.string s, .string ⟨#[13, 10]⟩] w fun e w' => e = .returned (.bool false) ∧ Below w.heap.size w w' := by
  have HI := Lib.hid (fun w => indexAny_crlf s hs w)
  have hv : idxV s.data.toList = -1 := by unfold idxV; rw [if_neg (by rw [endI_none _ h]; omega)]
  rw [hv] at HI
  clear hv h
  go_enter Try.func23, Try.ntmps23
  go_wp2_with fail
  refine (HI.out _).mono ?_
  rintro e w1 ⟨rfl, k1⟩
  have B1 := Lib.hid k1
  clear k1
  go_wp2_with fail
  go_ret
  exact ⟨rfl, B1.out⟩
set_option maxRecDepth 100000 in
set_option maxHeartbeats 8000000 in
theorem linesWhole_walk (s : ByteArray) (w : World) : Calls Try.prog 7 #[.string s] w fun e w' => e = .returned (.bool true) ∧ Below w.heap.size w w' := by
  by_cases hs : 3000 < s.size
  · go_enter Try.func7, Try.ntmps7
    go_wp2_with fail
    refine (long_yes s hs _).mono ?_
    rintro e w' ⟨rfl, rfl⟩
    go_wp2_with fail
    refine (works_any _).mono ?_
    rintro e w1 ⟨rfl, k1⟩
    go_wp2_with fail
    go_ret
    exact ⟨rfl, k1⟩
  have HG := Lib.hid (long_no s (by omega))
  have HC := Lib.hid (fun w => count_any s (by omega) w)
  have HL := Lib.hid (fun (i : Nat) w => line_any s (by omega) (i : Int) w)
  have hlen := rows_len s.data.toList 0
  have hpos := rows_pos s.data.toList 0
  rw [show s.data.toList.length = s.size from rfl] at hlen
  have HF : Hid (∃ t, (rows s.data.toList 0)[0]? = some (0, t)) := Lib.hid (by obtain ⟨t, r, h⟩ := rows_first s.data.toList 0; exact ⟨t, by rw [h]; rfl⟩)
  have HN : Hid (∀ i r, (rows s.data.toList 0)[i]? = some r → i < (rows s.data.toList 0).length) := Lib.hid (fun i r h => (List.getElem?_eq_some_iff.1 h).1)
  obtain ⟨N, hN⟩ : ∃ N, (rows s.data.toList 0).length = N := ⟨_, rfl⟩
  rw [hN] at HC hlen hpos HN
  have HNN := Lib.hid hN
  clear hN
  go_enter Try.func7, Try.ntmps7
  go_wp2_with fail
  refine (HG.out _).mono ?_
  rintro e w' ⟨rfl, rfl⟩
  go_wp2_with fail
  refine (HC.out _).mono ?_
  rintro e w1 ⟨rfl, k1⟩
  have B1 := Lib.hid k1
  clear k1
  go_wp2_with fail
  go_loopw [3, 5] (fun a u wr => ∃ (i f : Nat), i < N ∧ f ≤ s.size ∧ a = .int .i64 (f : Int) ∧ u = .int .i64 (i : Int) ∧ Hid (∃ t, (rows s.data.toList 0)[i]? = some (f, t)) ∧ Hid (Below w.heap.size w wr)) (fun _ u _ => N - (intOf u).toNat)
  case atStart => exact ⟨0, 0, hpos, Nat.zero_le _, by go_num, by go_num, HF, B1⟩
  case round =>
    obtain ⟨i, f, hi, hf, rfl, rfl, hrow, hb⟩ := hrel
    obtain ⟨t, ht⟩ := hrow.out
    have hbd := rows_bound _ _ _ _ ht
    rw [show s.data.toList.length = s.size from rfl] at hbd
    simp only at hbd
    have HLi := Lib.hid (fun w => HL.out i w)
    rw [numV_nat (by omega), Int.toNat_natCast, ht] at HLi
    simp only [numA, numB, Option.isSome_some] at HLi
    have hno := rows_noend _ _ _ _ ht
    have HCA := Lib.hid (fun w => containsAny_no (s.extract f t) (Nat.le_trans (ext_le _ _ _) (by omega)) (by rw [ext_piece]; exact hno) w)
    have hsl : ∀ W, (Instr.slice 9 (.string s) (some (.int .i64 (f : Int))) (some (.int .i64 (t : Int))) none).run Try.prog W = .ok (.string (s.extract f t)) W := fun W => by
      rw [run_slice_string W 9 s .i64 .i64 f t Try.underlying9 (by omega) (by omega) (by omega), Int.toNat_natCast, Int.toNat_natCast]
    have HP := Lib.hid (fun w => Try.strings_HasPrefix (s.extract t s.size) ⟨#[13, 10]⟩ w)
    rw [ext_rest, show ((⟨#[13, 10]⟩ : ByteArray).data.toList) = [13, 10] from rfl, prefix_end] at HP
    have HT := Lib.hid ht
    clear hno ht hrow
    have lt1 : ((i : Int) < (N : Int)) := by omega
    go_wp2_with fail
    refine (HLi.out _).mono ?_
    rintro e w2 ⟨rfl, k2⟩
    have HB2 := Lib.hid (hb.out.trans (k2.mono hb.out.size))
    clear k2 hb
    go_wp2_with fail
    have hst := rows_step s.data.toList 0 i (f, t)
    have hen := rows_end s.data.toList 0 i (f, t) HT.out
    refine (HCA.out _).mono ?_
    rintro e w3 ⟨rfl, k3⟩
    have HB3 := Lib.hid (HB2.out.trans (k3.mono HB2.out.size))
    clear k3 HB2 HCA HLi
    cases hq : (rows s.data.toList 0)[i + 1]? with
    | none =>
      have h1 := hen hq
      rw [show s.data.toList.length = s.size from rfl] at h1
      simp only [Nat.zero_add] at h1
      have h2 : i + 1 = N := by
        rw [List.getElem?_eq_none_iff, HNN.out] at hq
        omega
      have he : ((i : Int) + 1 == (N : Int)) = true := by
        have : (i : Int) + 1 = (N : Int) := by omega
        simpa using this
      clear hst hen hq HP HL HC
      obtain rfl : t = s.size := h1
      go_wp2_with fail
      refine (works_any _).mono ?_
      rintro e w4 ⟨rfl, k4⟩
      have HB4 := Lib.hid (HB3.out.trans (k4.mono HB3.out.size))
      clear k4 HB3
      go_wp2_with fail
      go_ret
      exact ⟨rfl, HB4.out⟩
    | some q =>
      obtain ⟨g, t2⟩ := q
      have h1 := hst (g, t2) HT.out hq
      simp only [Nat.zero_add, Nat.sub_zero] at h1
      have h2 := HN.out _ _ hq
      rw [show s.data.toList.length = s.size from rfl] at h1
      have hbq := rows_bound _ _ _ _ hq
      rw [show s.data.toList.length = s.size from rfl] at hbq
      simp only at hbq
      have he : ((i : Int) + 1 == (N : Int)) = false := by
        have : ¬ (i : Int) + 1 = (N : Int) := by omega
        simpa using this
      have HQ := Lib.hid hq
      have h12 : 1 ≤ endW (rest s t) ∧ endW (rest s t) ≤ 2 := endW_12 _
      have h3 : g = t + endW (rest s t) := h1.2
      have HT1 : t < s.size := h1.1
      clear hst hen hq HC h1
      generalize endW (rest s t) = m at *
      by_cases hm : m = 2
      · subst hm
        have HP2 : Hid (∀ w, Calls Try.prog 24 #[.string (s.extract t s.size), .string ⟨#[13, 10]⟩] w fun e w' => e = .returned (.bool true) ∧ w' = w) := Lib.hid HP.out
        clear HP h12
        go_wp2_with fail
        refine (HP2.out _).mono ?_
        rintro e w4 ⟨rfl, rfl⟩
        go_wp2_with fail
        go_roundw
        case rel => exact ⟨i + 1, g, by omega, by omega, by go_num, by go_num, Lib.hid ⟨t2, HQ.out⟩, HB3⟩
        case measure => simp [intOf]; omega
      · have hd : decide (m = 2) = false := decide_eq_false hm
        rw [hd] at HP
        have HP2 : Hid (∀ w, Calls Try.prog 24 #[.string (s.extract t s.size), .string ⟨#[13, 10]⟩] w fun e w' => e = .returned (.bool false) ∧ w' = w) := Lib.hid HP.out
        obtain rfl : m = 1 := by omega
        clear HP h12 hd hm
        go_wp2_with fail
        refine (HP2.out _).mono ?_
        rintro e w4 ⟨rfl, rfl⟩
        go_wp2_with fail
        go_roundw
        case rel => exact ⟨i + 1, g, by omega, by omega, by go_num, by go_num, Lib.hid ⟨t2, HQ.out⟩, HB3⟩
        case measure => simp [intOf]; omega
end Go.Proofs.Ytnmbclkpncjebaa
