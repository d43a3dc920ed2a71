/-
  JtextTiles (P3.3): for every input the law returns true and leaves all memory that was there as it was. Condition: the variables that are read hold what their text lays (Facts).
-/
import Derived.Test.YtagpdaaebjljeaaDoorPlain4
import Derived.Test.YtagpdaaebjljeaaDoorAwake
import Derived.Deep.QuietTactic
import Derived.BigQuiet
import Derived.Deep.RegionWith
import Derived.Deep.DeepCutAuto
import Derived.IntWalk
import Derived.Deep.RegionLaw
import Derived.Deep.RegionHeld3
namespace Go.Proofs.YtagpdaaebjljeaaDoor
open Go.RowKit

theorem isB_iff (c : UInt8) : isB c = true ↔ (c.toNat = 32 ∨ c.toNat = 9 ∨ c.toNat = 10 ∨ c.toNat = 13) := by
  unfold isB
  simp only [List.contains_cons, List.contains_nil, Bool.or_false, Bool.or_eq_true, beq_iff_eq]
  constructor
  · rintro (rfl | rfl | rfl | rfl) <;> decide
  · rintro (h | h | h | h)
    · exact .inl (UInt8.toNat_inj.1 h)
    · exact .inr (.inl (UInt8.toNat_inj.1 h))
    · exact .inr (.inr (.inl (UInt8.toNat_inj.1 h)))
    · exact .inr (.inr (.inr (UInt8.toNat_inj.1 h)))
theorem blank_cons (s : ByteArray) (i : Nat) (h : i < s.size) : blankB (rest s i) = (isB s[i] && blankB (rest s (i + 1))) := by
  rw [rest_cons s i h]; rfl
set_option maxHeartbeats 1000000 in
theorem blank_any (s : ByteArray) (hs : s.size ≤ 1000000) (w : World) : Calls Tryd.prog 15 #[.string s] w fun e w' => e = .returned (.bool (blankB s.data.toList)) ∧ w = w' := by
  go_enter Tryd.func15, Tryd.ntmps15
  go_wp2_with fail
  go_loop [3] (fun u => ∃ i : Nat, i ≤ s.size ∧ u = .int .i64 i ∧ Hid (blankB (rest s i) = blankB s.data.toList)) (fun u => s.size - (intOf u).toNat)
  case atStart => exact ⟨0, Nat.zero_le _, rfl, Lib.hid (by rw [rest_zero])⟩
  case round =>
    obtain ⟨i, hi, rfl, hrel⟩ := hrel
    by_cases hlt : i < s.size
    · have hc := blank_cons s i hlt
      by_cases hb : isB s[i] = true
      · have HR : Hid (blankB (rest s (i + 1)) = blankB s.data.toList) := Lib.hid (by rw [← hrel.out, hc, hb]; rfl)
        have hq := (isB_iff s[i]).1 hb
        clear hrel hc hb
        rcases hq with h | h | h | h
        · have e0 : (((s[i].toNat : Nat) : Int) != 32) = false := by simp; omega
          clear h
          go_wp2_with fail
          go_round
          case rel => exact ⟨i + 1, by omega, by go_num, HR⟩
          case measure => simp [intOf]; omega
        · have e0 : (((s[i].toNat : Nat) : Int) != 32) = true := by simp; omega
          have e1 : (((s[i].toNat : Nat) : Int) != 9) = false := by simp; omega
          clear h
          go_wp2_with fail
          go_round
          case rel => exact ⟨i + 1, by omega, by go_num, HR⟩
          case measure => simp [intOf]; omega
        · have e0 : (((s[i].toNat : Nat) : Int) != 32) = true := by simp; omega
          have e1 : (((s[i].toNat : Nat) : Int) != 9) = true := by simp; omega
          have e2 : (((s[i].toNat : Nat) : Int) != 10) = false := by simp; omega
          clear h
          go_wp2_with fail
          go_round
          case rel => exact ⟨i + 1, by omega, by go_num, HR⟩
          case measure => simp [intOf]; omega
        · have e0 : (((s[i].toNat : Nat) : Int) != 32) = true := by simp; omega
          have e1 : (((s[i].toNat : Nat) : Int) != 9) = true := by simp; omega
          have e2 : (((s[i].toNat : Nat) : Int) != 10) = true := by simp; omega
          have e3 : (((s[i].toNat : Nat) : Int) != 13) = false := by simp; omega
          clear h
          go_wp2_with fail
          go_round
          case rel => exact ⟨i + 1, by omega, by go_num, HR⟩
          case measure => simp [intOf]; omega
      · have hbf : isB s[i] = false := by simpa using hb
        have HR : Hid (false = blankB s.data.toList) := Lib.hid (by rw [← hrel.out, hc, hbf]; rfl)
        have hq : ¬ (s[i].toNat = 32 ∨ s[i].toNat = 9 ∨ s[i].toNat = 10 ∨ s[i].toNat = 13) := fun h => hb ((isB_iff s[i]).2 h)
        have e1 : (((s[i].toNat : Nat) : Int) != 32) = true := by simp; omega
        have e2 : (((s[i].toNat : Nat) : Int) != 9) = true := by simp; omega
        have e3 : (((s[i].toNat : Nat) : Int) != 10) = true := by simp; omega
        have e4 : (((s[i].toNat : Nat) : Int) != 13) = true := by simp; omega
        clear hrel hc hb hbf hq
        go_wp2_with fail
        go_ret
        exact ⟨ret_bool HR.out, rfl⟩
    · have HR : Hid (true = blankB s.data.toList) := Lib.hid (by rw [← hrel.out, rest_end s i hlt]; rfl)
      go_wp2_with fail
      go_ret
      exact ⟨ret_bool HR.out, rfl⟩
theorem cut_size (s : ByteArray) : (cutB s).size ≤ 2000 := by
  unfold cutB
  rw [ByteArray.size_extract]
  omega
theorem extract_rest (s : ByteArray) (a b : Nat) (h : a ≤ b) : (s.extract a b).data.toList = (rest s a).take (b - a) := by
  have := extract_take s a (b - a)
  rwa [show a + (b - a) = b by omega] at this
theorem blank_part (s : ByteArray) (hs : s.size ≤ 1000000) (a b : Nat) (h : a ≤ b) (hb : blankB ((rest s a).take (b - a)) = true) (w : World) : Calls Tryd.prog 15 #[.string (s.extract a b)] w fun e w' => e = .returned (.bool true) ∧ w = w' := by
  have := blank_any (s.extract a b) (by rw [ByteArray.size_extract]; omega) w
  rwa [extract_rest s a b h, hb] at this
theorem text_part (s : ByteArray) (a b : Nat) (h : a ≤ b) (x : List UInt8) (hx : x = (rest s a).take (b - a)) : ((txt x).toList == (s.extract a b).toList) = true := by
  rw [txt_list, Lib.toList_data, extract_rest s a b h, hx]
  simp
theorem new_cells4 (w : World) (a b c d : Value) (t : TypeId) : (w.alloc (.cells #[a, b, c, d] t)).cell? ⟨w.heap.size, 0, none⟩ = some a ∧ (w.alloc (.cells #[a, b, c, d] t)).cell? ⟨w.heap.size, 1, none⟩ = some b ∧ (w.alloc (.cells #[a, b, c, d] t)).cell? ⟨w.heap.size, 2, none⟩ = some c ∧ (w.alloc (.cells #[a, b, c, d] t)).cell? ⟨w.heap.size, 3, none⟩ = some d := by
  refine ⟨?_, ?_, ?_, ?_⟩ <;> (rw [World.cell?_alloc_at _ _ _ _ rfl]; rfl)
set_option maxRecDepth 100000 in
set_option maxHeartbeats 2000000 in
theorem tiles_walk (s0 : ByteArray) (w : World) (hF : Facts w) : Calls Tryd.prog 7 #[.string s0] w fun e w' => e = .returned (.bool true) ∧ Below w.heap.size w w' := by
  have HC := Lib.hid (fun w => cut_any s0 w)
  have hs := cut_size s0
  generalize cutB s0 = s at *
  have HF := Lib.hid hF
  cases hR : tokensR s.data.toList with
  | error x =>
    obtain ⟨k, e0⟩ := x
    have HT := Lib.hid (fun (w : World) (hF : Facts w) => tokens_no s (by omega) k e0 hR w hF)
    obtain ⟨hk, he⟩ := tokensR_err hR
    rw [show s.data.toList.length = s.size from rfl] at hk
    have hne : ((e0 : Int) != 0) = true := by simp; omega
    clear hR hF he
    go_enter Tryd.func7, Tryd.ntmps7
    go_wp2_with fail
    refine (HC.out _).mono ?_
    rintro e w' ⟨rfl, rfl⟩
    go_wp2_with fail
    refine (HT.out _ HF.out).mono ?_
    rintro e w1 ⟨A, cap, rfl, hb⟩
    have HB1 := Lib.hid hb
    have HF1 := Lib.hid (HF.out.below hb)
    clear hb
    go_wp2_with fail
    refine (awake_any _ HF1.out).mono ?_
    rintro e w2 ⟨rfl, hb⟩
    have HB2 := Lib.hid (HB1.out.trans (hb.mono HB1.out.size))
    clear hb
    go_wp2_with fail
    go_ret
    exact ⟨rfl, HB2.out⟩
  | ok ts =>
    have HT := Lib.hid (fun (w : World) (hF : Facts w) => tokens_ok s (by omega) ts hR w hF)
    have HTI : Hid (Tiled 0 (rest s 0) ts) := Lib.hid (by rw [rest_zero]; exact tokensR_tiled hR)
    obtain ⟨n, hn⟩ : ∃ n, n = ts.length := ⟨_, rfl⟩
    rw [← hn] at HT
    have HN := Lib.hid hn
    have HNB : Hid (n ≤ 1000000) := Lib.hid (by rw [hn]; exact Nat.le_trans (tiled_len _ _ _ (tokensR_tiled hR)) (by show s.size ≤ _; omega))
    have hnb := HNB.out
    clear hR hF hn
    go_enter Tryd.func7, Tryd.ntmps7
    go_wp2_with fail
    refine (HC.out _).mono ?_
    rintro e w' ⟨rfl, rfl⟩
    go_wp2_with fail
    refine (HT.out _ HF.out).mono ?_
    rintro e w1 ⟨A, cap, rfl, hr, hb⟩
    have HB1 := Lib.hid hb
    have HF1 := Lib.hid (HF.out.below hb)
    have HR1 := Lib.hid hr
    clear hb hr HC HT
    go_wp2_with fail
    go_loopw [6, 7] (fun va vi wr => ∃ (i k : Nat), i ≤ n ∧ k ≤ s.size ∧ va = .int .i64 k ∧ vi = .int .i64 i ∧ Hid (Tiled k (rest s k) (ts.drop i)) ∧ Hid (TReads wr A ts) ∧ Hid (Facts wr) ∧ Hid (Below w.heap.size w wr)) (fun _ vi _ => n - (intOf vi).toNat)
    case atStart => exact ⟨0, 0, Nat.zero_le _, Nat.zero_le _, rfl, rfl, HTI, HR1, HF1, HB1⟩
    case round =>
      obtain ⟨i, k, hi, hk, rfl, rfl, hti, hrd, hf, hb⟩ := hrel
      by_cases hlt : i < n
      · have hip : i < ts.length := by rw [← HN.out]; exact hlt
        obtain ⟨g, rfl, hc⟩ := hrd.out (by omega)
        obtain ⟨a0, a1, a2, a3⟩ := hc i _ (List.getElem?_eq_getElem hip)
        have ht := hti.out
        rw [List.drop_eq_getElem_cons hip] at ht
        generalize ts[i] = tt at ht a0 a1 a2 a3
        obtain ⟨q, x, a, b⟩ := tt
        obtain ⟨t1, t2, t3, t4, t5, _, t6⟩ := ht
        rw [rest_len] at t3
        rw [rest_drop, show k + (b - k) = b by omega] at t6
        rw [rest_drop, show k + (a - k) = a by omega] at t5
        have HBL := Lib.hid (fun w => blank_part s (by omega) k a t1 t4 w)
        have HT6 := Lib.hid t6
        have hbs : b ≤ s.size := by omega
        have has : a ≤ s.size := by omega
        have hab : a ≤ b := by omega
        have d1 : decide (a < k) = false := by simp; omega
        have d2 : decide (b ≤ a) = false := by simp; omega
        have d3 : decide (s.size < b) = false := by simp; omega
        have d4 : decide ((a : Int) < (k : Int)) = false := by simp; omega
        have d5 : decide ((b : Int) ≤ (a : Int)) = false := by simp; omega
        have d6 : decide ((s.size : Int) < (b : Int)) = false := by simp; omega
        simp only at a0 a1 a2 a3
        clear hc hti t3 t4 t6 hip
        by_cases h4 : q = 4
        · subst h4
          clear t5
          go_upto_region 10 with fail
          have f0 := new_cells4 wr (.int .i64 4) (.string (txt x)) (.int .i64 (a : Int)) (.int .i64 (b : Int)) 32
          have HK : Hid (Below wr.heap.size wr (wr.alloc (.cells #[.int .i64 4, .string (txt x), .int .i64 (a : Int), .int .i64 (b : Int)] 32))) := Lib.hid ((Below.refl _ _).alloc (Nat.le_refl _) _)
          generalize wr.alloc (.cells #[.int .i64 4, .string (txt x), .int .i64 (a : Int), .int .i64 (b : Int)] 32) = wf at *
          obtain ⟨f0, f1, f2, f3⟩ := f0
          go_cut [87] (fun v wx => v = .bool false ∧ Hid (wx.cell? ⟨wr.heap.size, 3, none⟩ = some (.int .i64 (b : Int))) ∧ Hid (Below wr.heap.size wr wx))
          case first =>
            go_quiet ((go_at_call 15; exact Calls.quiet_of_same ((HBL.out _).mono fun _ _ ⟨h1, h2⟩ => ⟨h1, h2.symm⟩)))
            go_wp2_with fail
            go_meet
            exact ⟨rfl, Lib.hid f3, Lib.hid (drewN_below HK.out _)⟩
          case rest =>
            obtain ⟨rfl, hc3, hk3⟩ := hcut
            clear f0 f1 f2 f3 HK
            have g3 := hc3.out
            have HRD := Lib.hid (treads_keep hrd.out hk3.out)
            have HFF := Lib.hid (hf.out.below hk3.out)
            have HBB := Lib.hid (hb.out.trans (hk3.out.mono hb.out.size))
            go_wp2_with fail
            go_roundw
            case rel => exact ⟨i + 1, b, by omega, hbs, rfl, by go_num, HT6, HRD, HFF, HBB⟩
            case measure => simp [intOf]; omega
        · have htx := text_part s a b hab x (t5.resolve_left h4)
          have hq4 : (((q : Nat) : Int) != 4) = true := by simp; omega
          clear t5
          go_upto_region 10 with fail
          have f0 := new_cells4 wr (.int .i64 (q : Int)) (.string (txt x)) (.int .i64 (a : Int)) (.int .i64 (b : Int)) 32
          have HK : Hid (Below wr.heap.size wr (wr.alloc (.cells #[.int .i64 (q : Int), .string (txt x), .int .i64 (a : Int), .int .i64 (b : Int)] 32))) := Lib.hid ((Below.refl _ _).alloc (Nat.le_refl _) _)
          generalize wr.alloc (.cells #[.int .i64 (q : Int), .string (txt x), .int .i64 (a : Int), .int .i64 (b : Int)] 32) = wf at *
          obtain ⟨f0, f1, f2, f3⟩ := f0
          go_cut [87] (fun v wx => v = .bool false ∧ Hid (wx.cell? ⟨wr.heap.size, 3, none⟩ = some (.int .i64 (b : Int))) ∧ Hid (Below wr.heap.size wr wx))
          case first =>
            go_quiet ((go_at_call 15; exact Calls.quiet_of_same ((HBL.out _).mono fun _ _ ⟨h1, h2⟩ => ⟨h1, h2.symm⟩)))
            go_wp2_with fail
            go_meet
            exact ⟨rfl, Lib.hid f3, Lib.hid (drewN_below HK.out _)⟩
          case rest =>
            obtain ⟨rfl, hc3, hk3⟩ := hcut
            clear f0 f1 f2 f3 HK
            have g3 := hc3.out
            have HRD := Lib.hid (treads_keep hrd.out hk3.out)
            have HFF := Lib.hid (hf.out.below hk3.out)
            have HBB := Lib.hid (hb.out.trans (hk3.out.mono hb.out.size))
            go_wp2_with fail
            go_roundw
            case rel => exact ⟨i + 1, b, by omega, hbs, rfl, by go_num, HT6, HRD, HFF, HBB⟩
            case measure => simp [intOf]; omega
      · have HBL := Lib.hid (fun w => blank_part s (by omega) k s.size hk (by
          have h1 := hti.out
          rw [List.drop_eq_nil_of_le (by rw [← HN.out]; omega)] at h1
          have h2 : blankB (rest s k) = true := h1
          rw [List.take_of_length_le (by rw [rest_len]; exact Nat.le_refl _)]
          exact h2) w)
        clear hti hrd
        go_wp2_with fail
        refine (HBL.out _).mono ?_
        rintro e w' ⟨rfl, rfl⟩
        go_wp2_with fail
        refine (awake_any _ hf.out).mono ?_
        rintro e w3 ⟨rfl, hb3⟩
        have HB3 := Lib.hid (hb.out.trans (hb3.mono hb.out.size))
        clear hb3
        go_wp2_with fail
        go_ret
        exact ⟨rfl, HB3.out⟩
end Go.Proofs.YtagpdaaebjljeaaDoor
