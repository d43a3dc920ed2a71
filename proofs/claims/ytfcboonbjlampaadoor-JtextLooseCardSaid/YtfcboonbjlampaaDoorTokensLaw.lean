/-
  JtextTokens (P3.1): for every input the law returns true and leaves all memory that was there as it was. Condition: the variables that are read hold what their text lays (Facts).
-/
import Derived.Test.YtfcboonbjlampaaDoorRefToks
import Derived.BigQuiet
namespace Go.Proofs.YtfcboonbjlampaaDoor
open Go.RowKit

theorem cut_size2 (s : ByteArray) : (cutB s).size ≤ 2000 := by
  unfold cutB
  rw [ByteArray.size_extract]
  omega
theorem refTokens_ok (s : ByteArray) (hs : s.size ≤ 1000000) (ts : List Tok) (h : tokensR s.data.toList = .ok ts) (w : World) : Calls Tryd.prog 9 #[.string s] w fun e w' => ∃ A cap, e = .returned (.tuple #[.slice A ts.length cap, .int .i64 0, .int .i64 0]) ∧ TReads w' A ts ∧ Below w.heap.size w w' := by
  refine (refTokens_any s hs w).mono ?_
  rintro e w' ⟨v, rfl, ho, hb⟩
  rw [h] at ho ⊢
  obtain ⟨A, cap, rfl, hr⟩ := treads_of ho
  exact ⟨A, cap, rfl, hr, hb⟩
theorem refTokens_no (s : ByteArray) (hs : s.size ≤ 1000000) (k e0 : Nat) (h : tokensR s.data.toList = .error (k, e0)) (w : World) : Calls Tryd.prog 9 #[.string s] w fun e w' => ∃ A cap, e = .returned (.tuple #[.slice A 0 cap, .int .i64 (k : Int), .int .i64 (e0 : Int)]) ∧ Below w.heap.size w w' := by
  refine (refTokens_any s hs w).mono ?_
  rintro e w' ⟨v, rfl, ho, hb⟩
  rw [h] at ho ⊢
  obtain ⟨A, cap, rfl, hr⟩ := treads_of ho
  exact ⟨A, cap, rfl, hb⟩
theorem tokensR_len {l : List UInt8} {ts : List Tok} (h : tokensR l = .ok ts) : ts.length ≤ l.length := tiled_len _ _ _ (tokensR_tiled h)
set_option maxRecDepth 100000 in
set_option maxHeartbeats 2000000 in
theorem tokens_walk (s0 : ByteArray) (w : World) (hF : Facts w) : Calls Tryd.prog 3 #[.string s0] w fun e w' => e = .returned (.bool true) ∧ Below w.heap.size w w' := by
  have HC := Lib.hid (fun w => cut_any s0 w)
  have hs := cut_size2 s0
  generalize cutB s0 = s at *
  have HF := Lib.hid hF
  cases hR : tokensR s.data.toList with
  | error x =>
    obtain ⟨k, e0⟩ := x
    have HT := Lib.hid (fun (w : World) (hF : Facts w) => tokens_no s (by omega) k e0 hR w hF)
    have HU := Lib.hid (fun (w : World) => refTokens_no s (by omega) k e0 hR w)
    have z1 : ((k : Int) != (k : Int)) = false := by simp
    have z2 : ((e0 : Int) != (e0 : Int)) = false := by simp
    have z3 : decide ((0 : Int) < 0) = false := by decide
    clear hR hF
    go_enter Tryd.func3, Tryd.ntmps3
    go_wp2_with fail
    refine (HC.out _).mono ?_
    rintro e w' ⟨rfl, rfl⟩
    go_wp2_with fail
    refine (HT.out _ HF.out).mono ?_
    rintro e w1 ⟨A, cap, rfl, hb⟩
    have HB1 := Lib.hid hb
    have HF1 := Lib.hid (HF.out.below hb)
    clear hb
    go_wp2_with fail
    refine (HU.out _).mono ?_
    rintro e w2 ⟨B, cap2, rfl, hb⟩
    have HB2 := Lib.hid (HB1.out.trans (hb.mono HB1.out.size))
    have HF2 := Lib.hid (HF1.out.below hb)
    clear hb
    go_wp2_with fail
    go_loop [9] (fun u => u = .int .i64 0) (fun _ => 0)
    case atStart => rfl
    case round =>
      subst hrel
      go_wp2_with fail
      refine (awake_any _ HF2.out).mono ?_
      rintro e w3 ⟨rfl, hb⟩
      have HB3 := Lib.hid (HB2.out.trans (hb.mono HB2.out.size))
      clear hb
      go_wp2_with fail
      go_ret
      exact ⟨rfl, HB3.out⟩
  | ok ts =>
    have HT := Lib.hid (fun (w : World) (hF : Facts w) => tokens_ok s (by omega) ts hR w hF)
    have HU := Lib.hid (fun (w : World) => refTokens_ok s (by omega) ts hR w)
    obtain ⟨n, hn⟩ : ∃ n, n = ts.length := ⟨_, rfl⟩
    rw [← hn] at HT HU
    have HN := Lib.hid hn
    have hnb : n ≤ 1000000 := by rw [hn]; exact Nat.le_trans (tokensR_len hR) (by show s.size ≤ _; omega)
    clear hR hF hn
    go_enter Tryd.func3, Tryd.ntmps3
    go_wp2_with fail
    refine (HC.out _).mono ?_
    rintro e w' ⟨rfl, rfl⟩
    go_wp2_with fail
    refine (HT.out _ HF.out).mono ?_
    rintro e w1 ⟨A, cap, rfl, hr, hb⟩
    have HB1 := Lib.hid hb
    have HF1 := Lib.hid (HF.out.below hb)
    have HR1 := Lib.hid hr
    clear hb hr HC HT
    go_wp2_with fail
    refine (HU.out _).mono ?_
    rintro e w2 ⟨B, cap2, rfl, hr, hb⟩
    have HB2 := Lib.hid (HB1.out.trans (hb.mono HB1.out.size))
    have HF2 := Lib.hid (HF1.out.below hb)
    have HR2 := Lib.hid (treads_keep HR1.out hb)
    have HS2 := Lib.hid hr
    clear hb hr HU
    go_wp2_with fail
    go_loopw [9] (fun vi wr => ∃ (i : Nat), i ≤ n ∧ vi = .int .i64 i ∧ Hid (TReads wr A ts) ∧ Hid (TReads wr B ts) ∧ Hid (Facts wr) ∧ Hid (Below w.heap.size w wr)) (fun vi _ => n - (intOf vi).toNat)
    case atStart => exact ⟨0, Nat.zero_le _, rfl, HR2, HS2, HF2, HB2⟩
    case round =>
      obtain ⟨i, hi, rfl, hrd, hsd, hf, hb⟩ := hrel
      by_cases hlt : i < n
      · have hip : i < ts.length := by rw [← HN.out]; exact hlt
        obtain ⟨g, rfl, hc⟩ := hrd.out (by omega)
        obtain ⟨g2, rfl, hc2⟩ := hsd.out (by omega)
        obtain ⟨a0, a1, a2, a3⟩ := hc i _ (List.getElem?_eq_getElem hip)
        obtain ⟨b0, b1, b2, b3⟩ := hc2 i _ (List.getElem?_eq_getElem hip)
        generalize ts[i] = tt at a0 a1 a2 a3 b0 b1 b2 b3
        obtain ⟨q, x, a, b⟩ := tt
        simp only at a0 a1 a2 a3 b0 b1 b2 b3
        have z1 : ((q : Int) == (q : Int)) = true := by simp
        have z2 : ((a : Int) == (a : Int)) = true := by simp
        have z3 : ((b : Int) == (b : Int)) = true := by simp
        have z4 : ((txt x).toList == (txt x).toList) = true := by simp
        clear hc hc2 hip
        go_upto_region 9 with fail
        go_cut [53] (fun v wx => v = .bool false ∧ Hid (Below wr.heap.size wr wx))
        case first =>
          go_quiet (fail)
          go_wp2_with fail
          go_meet
          exact ⟨rfl, Lib.hid (drewN_below (Below.refl _ _) _)⟩
        case rest =>
          obtain ⟨rfl, hk⟩ := hcut
          have HRD := Lib.hid (treads_keep hrd.out hk.out)
          have HSD := Lib.hid (treads_keep hsd.out hk.out)
          have HFF := Lib.hid (hf.out.below hk.out)
          have HBB := Lib.hid (hb.out.trans (hk.out.mono hb.out.size))
          clear a0 a1 a2 a3 b0 b1 b2 b3
          go_wp2_with fail
          go_roundw
          case rel => exact ⟨i + 1, by omega, by go_num, HRD, HSD, HFF, HBB⟩
          case measure => simp [intOf]; omega
      · clear hrd hsd
        go_wp2_with fail
        refine (awake_any _ hf.out).mono ?_
        rintro e w3 ⟨rfl, hb3⟩
        have HB3 := Lib.hid (hb.out.trans (hb3.mono hb.out.size))
        clear hb3
        go_wp2_with fail
        go_ret
        exact ⟨rfl, HB3.out⟩
end Go.Proofs.YtfcboonbjlampaaDoor
