/-
  The walk of emendlaw09.LexerTiles AT EVERY TEXT: it returns true; no memory that was there turns. Conditions: the variables that are read hold what their text lays (Facts); what num.Float says of all floats (FSpec).
-/
import Derived.Test.YtpijgeogopopbaaGreatDoorLTiles
import Derived.Deep.RegionWith
import Derived.Deep.DeepCutAuto
import Derived.Deep.QuietTactic
import Derived.BigQuiet
import Derived.IntWalk
namespace Go.Proofs.YtpijgeogopopbaaGreatDoor
open Go.RowKit

variable {FW : World → Prop} {ff : List UInt8 → Nat}
theorem extract_none (s : ByteArray) (k : Nat) : s.extract k k = ByteArray.empty := by
  apply ByteArray.ext
  rw [ByteArray.data_extract]
  simp
  omega
set_option maxRecDepth 100000 in
set_option maxHeartbeats 4000000 in
theorem tiles_walk (hS : FSpec FW ff (fun _ => True)) (s0 : ByteArray) (w : World) (hF : Facts w) (hW : FW w) : Calls Tryz.prog 5 #[.string s0] w fun e w' => e = .returned (.bool true) ∧ Below w.heap.size w w' := by
  have HC := Lib.hid (fun w => cut_any s0 w)
  have hs := cutB_size s0
  generalize cutB s0 = s at *
  have hsz : s.data.toList.length = s.size := rfl
  have HFB := Lib.hid (fun (W : World) (hb : Below w.heap.size w W) => hF.below hb)
  have HA := Lib.hid (fun (W : World) (hb : Below w.heap.size w W) => awake_any hS W (hF.below hb) (hS.keep w W hW hb))
  cases hR : tokensL ff s.data.toList with
  | error x =>
    obtain ⟨k, e0⟩ := x
    have HT := Lib.hid (tokens_no hS s (by omega) (all_ok _) k e0 hR w hF hW)
    obtain ⟨hk, he⟩ := place_in ff _ _ _ hR (by rw [hsz]; omega)
    rw [hsz] at hk
    have hne : ((e0 : Int) != 0) = true := by simp; omega
    have hlt2 : decide ((k : Int) < (s.size : Int)) = true := by rw [decide_eq_true_eq]; omega
    clear hR hF hW he hS hsz
    go_enter Tryz.func5, Tryz.ntmps5
    go_wp2_with fail
    refine (HC.out _).mono ?_
    rintro e w' ⟨rfl, rfl⟩
    go_wp2_with fail
    refine HT.out.mono ?_
    rintro e w1 ⟨A, cap, rfl, hb⟩
    have HB1 := Lib.hid hb
    clear hb
    go_wp2_with fail
    refine (HA.out _ HB1.out).mono ?_
    rintro e w2 ⟨rfl, hb⟩
    have HB2 := Lib.hid (HB1.out.trans (hb.mono HB1.out.size))
    clear hb
    go_wp2_with fail
    go_ret
    exact ⟨rfl, HB2.out⟩
  | ok ts =>
    have HT := Lib.hid (tokens_ok hS s (by omega) (all_ok _) ts hR w hF hW)
    have HTI : Hid (TileL s.data.toList 0 true ts) := Lib.hid (tiles_of ff _ ts hR)
    have hcnt := count_le ff _ ts hR
    rw [hsz] at hcnt
    obtain ⟨n, hn⟩ : ∃ n, n = ts.length := ⟨_, rfl⟩
    rw [← hn] at HT hcnt
    have HN := Lib.hid hn
    have hnb : n ≤ 1000000 := by omega
    clear hR hF hW hn hcnt hS
    have HSZ := Lib.hid hsz
    clear hsz
    go_enter Tryz.func5, Tryz.ntmps5
    go_wp2_with fail
    refine (HC.out _).mono ?_
    rintro e w' ⟨rfl, rfl⟩
    go_wp2_with fail
    refine HT.out.mono ?_
    rintro e w1 ⟨A, cap, rfl, hr, hb⟩
    have HB1 := Lib.hid hb
    have HR1 := Lib.hid hr
    clear hb hr HC HT
    go_wp2_with fail
    go_loopw [6, 7] (fun va vi wr => ∃ (i k : Nat), i ≤ n ∧ k ≤ s.size ∧ va = .int .i64 k ∧ vi = .int .i64 i ∧ Hid (TileL s.data.toList k (decide (i = 0)) (ts.drop i)) ∧ Hid (∀ j, i = j + 1 → ∃ t, ts[j]? = some t ∧ t.2.2.2 = k) ∧ Hid (TReads wr A ts) ∧ Hid (Below w.heap.size w wr)) (fun _ vi _ => n - (intOf vi).toNat)
    case atStart => exact ⟨0, 0, Nat.zero_le _, Nat.zero_le _, rfl, rfl, HTI, Lib.hid (fun j h => by omega), HR1, HB1⟩
    case round =>
      obtain ⟨i, k, hi, hk, rfl, rfl, hti, hpr, hrd, hb⟩ := hrel
      by_cases hlt : i < n
      · have hip : i < ts.length := by rw [← HN.out]; exact hlt
        obtain ⟨g, rfl, hc⟩ := hrd.out (by omega)
        have hti2 := List.getElem?_eq_getElem hip
        obtain ⟨a0, a1, a2, a3⟩ := hc i _ hti2
        have HC0 := Lib.hid hc
        have ht := hti.out
        rw [List.drop_eq_getElem_cons hip] at ht
        obtain ⟨ht1, ht2⟩ := ht
        have HT2 : Hid (TileL s.data.toList (ts[i]).2.2.2 (decide (i + 1 = 0)) (ts.drop (i + 1))) := Lib.hid (by rw [decide_eq_false (by omega)]; exact ht2)
        have HP2 : Hid (∀ j, i + 1 = j + 1 → ∃ t, ts[j]? = some t ∧ t.2.2.2 = (ts[i]).2.2.2) := Lib.hid (fun j h => by
          obtain rfl : i = j := by omega
          exact ⟨_, hti2, rfl⟩)
        clear hti2 ht2 hti
        generalize ts[i] = tt at ht1 a0 a1 a2 a3 HT2 HP2
        obtain ⟨q, x, a, b⟩ := tt
        obtain ⟨t1, t2, t3, t4, t5, t6⟩ := ht1
        simp only at t1 t2 t3 t4 t5 t6 a0 a1 a2 a3 HT2 HP2
        rw [HSZ.out] at t3
        have HBL := Lib.hid (fun w => idle_part s (by omega) k a t1 t5 w)
        have htx := text_part s a b t2 x t4
        have hx0 : a = b → (txt x).toList.isEmpty = true := by
          rintro rfl
          rw [Nat.sub_self, List.take_zero] at t4
          subst t4
          rw [txt_list]; rfl
        have d1 : decide (a < k) = false := by simp; omega
        have d2 : decide (b < a) = false := by simp; omega
        have d3 : decide (s.size < b) = false := by simp; omega
        have d4 : decide ((a : Int) < (k : Int)) = false := by simp; omega
        have d5 : decide ((b : Int) < (a : Int)) = false := by simp; omega
        have d6 : decide ((s.size : Int) < (b : Int)) = false := by simp; omega
        have has : a ≤ s.size := by omega
        clear hc t4 t5 hip
        by_cases hab : a = b
        · subst hab
          obtain ⟨rfl, hi0, rfl⟩ := t6 rfl
          replace hx0 := hx0 rfl
          replace HBL := Lib.hid (show ∀ w, Calls Tryz.prog 11 #[.string ByteArray.empty] w fun e w' => e = .returned (.bool true) ∧ w = w' from fun w => by
            have h := HBL.out w
            rwa [extract_none] at h)
          obtain ⟨j, rfl⟩ : ∃ j, i = j + 1 := ⟨i - 1, by have := of_decide_eq_false hi0; omega⟩
          obtain ⟨tp, hp1, hp2⟩ := hpr.out j rfl
          obtain ⟨_, _, _, p3⟩ := HC0.out j tp hp1
          rw [hp2] at p3
          clear hp1 hp2 hpr hi0 t6 HC0
          have z1 : (((j : Int) + 1) == 0) = false := by simp; omega
          have z2 : decide (((j : Int) + 1) = 0) = false := by simp; omega
          have z3 : IntKind.i64.wrap ((j : Int) + 1 - 1) = (j : Int) := by rw [Int.add_sub_cancel]; exact IntWalk.i64_in _ (by omega)
          have z4 : (j : Int) < (n : Int) := by omega
          have z5 : ((j + 1 : Nat) : Int) = (j : Int) + 1 := by omega
          go_upto_region 10 with fail
          have f0 := new_cells4 wr (.int .i64 7) (.string (txt x)) (.int .i64 (k : Int)) (.int .i64 (k : Int)) 32
          have HK : Hid (Below wr.heap.size wr (wr.alloc (.cells #[.int .i64 7, .string (txt x), .int .i64 (k : Int), .int .i64 (k : Int)] 32))) := Lib.hid ((Below.refl _ _).alloc (Nat.le_refl _) _)
          replace p3 := cell_keep2 HK.out p3
          generalize wr.alloc (.cells #[.int .i64 7, .string (txt x), .int .i64 (k : Int), .int .i64 (k : Int)] 32) = wf at *
          obtain ⟨f0, f1, f2, f3⟩ := f0
          go_cut [104] (fun v wx => v = .bool false ∧ Hid (wx.cell? ⟨wr.heap.size, 3, none⟩ = some (.int .i64 (k : Int))) ∧ Hid (Below wr.heap.size wr wx))
          case first =>
            simp only [List.append_eq, List.cons_append, List.nil_append]
            go_big_quiet ((go_at_call 11; exact Calls.quiet_of_same ((HBL.out _).mono fun _ _ ⟨h1, h2⟩ => ⟨h1, h2.symm⟩)))
            go_wp2_with fail
            go_meet
            exact ⟨rfl, Lib.hid f3, Lib.hid (drewN_below HK.out _)⟩
          case rest =>
            obtain ⟨rfl, hc3, hk3⟩ := hcut
            clear f0 f1 f2 f3 HK
            have g3 := hc3.out
            have HRD := Lib.hid (treads_keep hrd.out hk3.out)
            have HBB := Lib.hid (hb.out.trans (hk3.out.mono hb.out.size))
            go_wp2_with fail
            go_roundw
            case rel => exact ⟨j + 1 + 1, k, by omega, hk, rfl, by go_num, HT2, HP2, HRD, HBB⟩
            case measure => simp [intOf]; omega
        · have hq : (((a : Nat) : Int) == ((b : Nat) : Int)) = false := by simp; omega
          have hq2 : decide (((a : Nat) : Int) = ((b : Nat) : Int)) = false := by simp; omega
          clear hpr t6 HC0 hx0
          go_upto_region 10 with fail
          have f0 := new_cells4 wr (.int .i64 (q : Int)) (.string (txt x)) (.int .i64 (a : Int)) (.int .i64 (b : Int)) 32
          have HK : Hid (Below wr.heap.size wr (wr.alloc (.cells #[.int .i64 (q : Int), .string (txt x), .int .i64 (a : Int), .int .i64 (b : Int)] 32))) := Lib.hid ((Below.refl _ _).alloc (Nat.le_refl _) _)
          generalize wr.alloc (.cells #[.int .i64 (q : Int), .string (txt x), .int .i64 (a : Int), .int .i64 (b : Int)] 32) = wf at *
          obtain ⟨f0, f1, f2, f3⟩ := f0
          go_cut [104] (fun v wx => v = .bool false ∧ Hid (wx.cell? ⟨wr.heap.size, 3, none⟩ = some (.int .i64 (b : Int))) ∧ Hid (Below wr.heap.size wr wx))
          case first =>
            simp only [List.append_eq, List.cons_append, List.nil_append]
            go_big_quiet ((go_at_call 11; exact Calls.quiet_of_same ((HBL.out _).mono fun _ _ ⟨h1, h2⟩ => ⟨h1, h2.symm⟩)))
            go_wp2_with fail
            go_meet
            exact ⟨rfl, Lib.hid f3, Lib.hid (drewN_below HK.out _)⟩
          case rest =>
            obtain ⟨rfl, hc3, hk3⟩ := hcut
            clear f0 f1 f2 f3 HK
            have g3 := hc3.out
            have HRD := Lib.hid (treads_keep hrd.out hk3.out)
            have HBB := Lib.hid (hb.out.trans (hk3.out.mono hb.out.size))
            go_wp2_with fail
            go_roundw
            case rel => exact ⟨i + 1, b, by omega, t3, rfl, by go_num, HT2, HP2, HRD, HBB⟩
            case measure => simp [intOf]; omega
      · have HBL := Lib.hid (fun w => idle_part s (by omega) k s.size hk (by
          have h1 := hti.out
          rw [List.drop_eq_nil_of_le (by rw [← HN.out]; omega)] at h1
          have h2 : idleB false (rest s k) = true := h1.2
          rw [List.take_of_length_le (by rw [rest_len]; exact Nat.le_refl _)]
          exact h2) w)
        clear hti hrd hpr
        go_wp2_with fail
        refine (HBL.out _).mono ?_
        rintro e w' ⟨rfl, rfl⟩
        go_wp2_with fail
        refine (HA.out _ hb.out).mono ?_
        rintro e w3 ⟨rfl, hb3⟩
        have HB3 := Lib.hid (hb.out.trans (hb3.mono hb.out.size))
        clear hb3
        go_wp2_with fail
        go_ret
        exact ⟨rfl, HB3.out⟩
end Go.Proofs.YtpijgeogopopbaaGreatDoor
