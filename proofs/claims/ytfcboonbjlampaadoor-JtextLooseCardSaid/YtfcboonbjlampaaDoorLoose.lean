/-
  JtextLoose (P3.3): for every input the law returns true and leaves all memory that was there as it was. Condition: the variables that are read hold what their text lays (Facts).
-/
import Derived.Test.YtfcboonbjlampaaDoorTokensLaw
import Derived.Test.YtfcboonbjlampaaDoorPlain7
import Derived.Deep.QuietTactic
import Derived.Deep.CutBlock
import Derived.Deep.DeepCutAuto
import Derived.IntWalk
namespace Go.Proofs.YtfcboonbjlampaaDoor
open Go.RowKit

/-- A slice that reads as bytes. -/
def BReads (W : World) (A : Option Addr) (M : List UInt8) : Prop :=
  0 < M.length → ∃ b o, A = some ⟨b, o, none⟩ ∧ ∀ j c, M[j]? = some c → W.cell? ⟨b, o + j, none⟩ = some (.int .u8 (c.toNat : Int))
theorem breads_keep {W W' : World} {A : Option Addr} {M : List UInt8} (h : BReads W A M) (hb : Below W.heap.size W W') : BReads W' A M := by
  intro hp
  obtain ⟨b, o, hA, hc⟩ := h hp
  exact ⟨b, o, hA, fun j c hj => cell_keep2 hb (hc j c hj)⟩
def blk (r : Nat) : UInt8 := if r = 0 then 32 else if r = 1 then 9 else if r = 2 then 10 else 13
theorem blk_blank (r : Nat) : isB (blk r) = true := by
  unfold blk
  split
  · decide
  · split
    · decide
    · split <;> decide
/-- The blanks that the law puts in ahead of a token, the first k of them. -/
def bsK (M : List UInt8) (i k : Nat) : List UInt8 := (List.range k).map fun j => blk ((M.getD ((i + j) % M.length) 0).toNat % 4)
def bsOf (M : List UInt8) (i : Nat) : List UInt8 := if M.length = 0 then [] else bsK M i (i % 3)
theorem bsK_zero (M : List UInt8) (i : Nat) : bsK M i 0 = [] := rfl
theorem bsK_succ (M : List UInt8) (i k : Nat) : bsK M i (k + 1) = bsK M i k ++ [blk ((M.getD ((i + k) % M.length) 0).toNat % 4)] := by
  unfold bsK
  rw [List.range_succ, List.map_append]; rfl
theorem bsK_len (M : List UInt8) (i k : Nat) : (bsK M i k).length = k := by unfold bsK; simp
theorem bsOf_len (M : List UInt8) (i : Nat) : (bsOf M i).length ≤ 2 := by
  unfold bsOf
  split
  · simp
  · rw [bsK_len]; omega
theorem bsOf_all (M : List UInt8) (i : Nat) : (bsOf M i).all isB = true := by
  unfold bsOf bsK
  split
  · rfl
  · rw [List.all_eq_true]
    intro c hc
    obtain ⟨j, _, rfl⟩ := List.mem_map.1 hc
    exact blk_blank _
theorem widen_len (M : List UInt8) : ∀ (ts : List Tok) (i k : Nat) (l : List UInt8), (widen (bsOf M) i k ts l).length ≤ l.length + 2 * (ts.length + 1)
  | [], i, k, l => by
    have := bsOf_len M i
    show (bsOf M i ++ l).length ≤ _
    rw [List.length_append]; simp; omega
  | t :: ts, i, k, l => by
    have h1 := bsOf_len M i
    have h2 := widen_len M ts (i + 1) t.2.2.2 (l.drop (t.2.2.2 - k))
    show (bsOf M i ++ (l.take (t.2.2.2 - k) ++ widen (bsOf M) (i + 1) t.2.2.2 ts (l.drop (t.2.2.2 - k)))).length ≤ _
    rw [List.length_append, List.length_append, List.length_take]
    rw [List.length_drop] at h2
    rw [List.length_cons]
    omega
/-- What is left to be written. -/
def leftW (M : List UInt8) (n i k : Nat) (ts : List Tok) (l : List UInt8) : List UInt8 := if i ≤ n then widen (bsOf M) i k ts l else l
theorem words_toks {l : List UInt8} {ws : List Wd} (h : words l = some ws) : ∃ ts, toks 0 l = .ok ts ∧ ts.map strip = ws := by
  unfold words at h
  cases ht : toks 0 l with
  | ok ts => rw [ht] at h; exact ⟨ts, rfl, Option.some.inj h⟩
  | error e => rw [ht] at h; cases h
theorem tokensR_of {l : List UInt8} {ts : List Tok} (hv : valid l = true) (h : toks 0 l = .ok ts) : tokensR l = .ok ts := by
  unfold tokensR
  rw [valid_good, decide_eq_true_eq] at hv
  rw [if_neg (by omega), h]; rfl
theorem tokensR_valid {l : List UInt8} {ts : List Tok} (h : tokensR l = .ok ts) : valid l = true := by
  rw [valid_good, decide_eq_true_eq]; exact (tokensR_ok h).2
theorem blk_ext (r : Nat) (h : r < 4) : (⟨#[32, 9, 10, 13]⟩ : ByteArray).extract r (r + 1) = ⟨#[blk r]⟩ := by
  have : r = 0 ∨ r = 1 ∨ r = 2 ∨ r = 3 := by omega
  rcases this with rfl | rfl | rfl | rfl <;> rfl
theorem strip_at {ts ts' : List Tok} (h : ts'.map strip = ts.map strip) (i : Nat) (q : Nat) (x : List UInt8) (a b : Nat) (ht : ts[i]? = some (q, x, a, b)) : ∃ a' b', ts'[i]? = some (q, x, a', b') := by
  have h1 : (ts'.map strip)[i]? = some (q, x) := by rw [h, List.getElem?_map, ht]; rfl
  rw [List.getElem?_map] at h1
  cases h2 : ts'[i]? with
  | none => rw [h2] at h1; cases h1
  | some t =>
    obtain ⟨q', x', a', b'⟩ := t
    rw [h2] at h1
    simp only [Option.map_some, Option.some.injEq, strip, Prod.mk.injEq] at h1
    obtain ⟨rfl, rfl⟩ := h1
    exact ⟨a', b', rfl⟩
set_option maxRecDepth 100000 in
set_option maxHeartbeats 4000000 in
theorem loose_walk (s0 : ByteArray) (A0 : Option Addr) (M : List UInt8) (c0 : Nat) (w : World) (hM : BReads w A0 M) (hF : Facts w) : Calls Tryd.prog 4 #[.string s0, .slice A0 M.length c0] w fun e w' => e = .returned (.bool true) ∧ Below w.heap.size w w' := by
  have HC := Lib.hid (fun w => cut_any s0 w)
  have hs := cut_size2 s0
  generalize cutB s0 = s at *
  have HF := Lib.hid hF
  cases hR : tokensR s.data.toList with
  | error x =>
    obtain ⟨k, e0⟩ := x
    have HT := Lib.hid (fun (w : World) (hF : Facts w) => tokens_no s (by omega) k e0 hR w hF)
    obtain ⟨_, he⟩ := tokensR_err hR
    have hne : ((e0 : Int) != 0) = true := by simp; omega
    clear hR hF he
    go_enter Tryd.func4, Tryd.ntmps4
    go_wp2_with fail
    refine (HC.out _).mono ?_
    rintro e w' ⟨rfl, rfl⟩
    go_wp2_with fail
    refine (HT.out _ HF.out).mono ?_
    rintro e w1 ⟨A, cap, rfl, hb⟩
    have HB1 := Lib.hid hb
    have HF1 := Lib.hid (HF.out.below hb)
    clear hb
    go_wp2_with fail
    refine (awake_any _ HF1.out).mono ?_
    rintro e w3 ⟨rfl, hb⟩
    have HB3 := Lib.hid (HB1.out.trans (hb.mono HB1.out.size))
    clear hb
    go_wp2_with fail
    go_ret
    exact ⟨rfl, HB3.out⟩
  | ok ts =>
    have HT := Lib.hid (fun (w : World) (hF : Facts w) => tokens_ok s (by omega) ts hR w hF)
    have hval := tokensR_valid hR
    obtain ⟨hww, hwv, _⟩ := words_widen (bsOf M) (bsOf_all M) ts 0 0 s.data.toList hval (tokensR_ok hR).1
    obtain ⟨ts', hts', hstrip⟩ := words_toks hww
    have hR' := tokensR_of hwv hts'
    have hwl := widen_len M ts 0 0 s.data.toList
    have htl := tokensR_len hR
    rw [show s.data.toList.length = s.size from rfl] at hwl htl
    obtain ⟨WW, hWW⟩ : ∃ WW, WW = widen (bsOf M) 0 0 ts s.data.toList := ⟨_, rfl⟩
    rw [← hWW] at hR' hwl
    have hll : ts'.length = ts.length := by
      have := congrArg List.length hstrip
      simpa using this
    have HU : Hid (∀ (w : World), Facts w → Calls Tryd.prog 8 #[.string ⟨WW.toArray⟩] w fun e w' => ∃ A cap, e = .returned (.tuple #[.slice A ts.length cap, .int .i64 0, .int .i64 0]) ∧ TReads w' A ts' ∧ Below w.heap.size w w') := Lib.hid (fun (w : World) (hF : Facts w) => by
      have := tokens_ok ⟨WW.toArray⟩ (by show WW.toArray.size ≤ _; rw [List.size_toArray]; omega) ts' hR' w hF
      rw [hll] at this
      exact this)
    have HW0 : Hid (leftW M ts.length 0 0 (ts.drop 0) (rest s 0) = WW) := Lib.hid (by unfold leftW; rw [if_pos (Nat.zero_le _), rest_zero, hWW]; rfl)
    have HTI : Hid (Tiled 0 (rest s 0) (ts.drop 0)) := Lib.hid (by rw [rest_zero]; exact tokensR_tiled hR)
    have HST := Lib.hid hstrip
    have hWL : WW.length ≤ 10000 := by omega
    have HWL := Lib.hid hWL
    have HLL := Lib.hid hll
    obtain ⟨n, hn⟩ : ∃ n, n = ts.length := ⟨_, rfl⟩
    rw [← hn] at HT HU HW0
    have HN := Lib.hid hn
    have hnb : n ≤ 2000 := by rw [hn]; omega
    clear hR hF hn hval hww hwv hts' hstrip hR' hwl htl hWW hll hWL
    go_enter Tryd.func4, Tryd.ntmps4
    go_wp2_with fail
    refine (HC.out _).mono ?_
    rintro e w' ⟨rfl, rfl⟩
    go_wp2_with fail
    refine (HT.out _ HF.out).mono ?_
    rintro e w1 ⟨A, cap, rfl, hr, hb⟩
    have HB1 := Lib.hid hb
    have HF1 := Lib.hid (HF.out.below hb)
    have HR1 := Lib.hid hr
    have HM1 := Lib.hid (breads_keep hM hb)
    clear hb hr HC HT hM
    go_wp2_with fail
    go_loopw [9, 10, 11] (fun vw va vi wr => ∃ (i k : Nat) (acc : List UInt8), i ≤ n + 1 ∧ k ≤ s.size ∧ vw = .string ⟨acc.toArray⟩ ∧ va = .int .i64 k ∧ vi = .int .i64 i ∧ Hid (acc ++ leftW M n i k (ts.drop i) (rest s k) = WW) ∧ Hid (Tiled k (rest s k) (ts.drop i)) ∧ Hid (TReads wr A ts) ∧ Hid (BReads wr A0 M) ∧ Hid (Facts wr) ∧ Hid (Below w.heap.size w wr)) (fun _ _ vi _ => n + 1 - (intOf vi).toNat)
    case atStart => exact ⟨0, 0, [], Nat.zero_le _, Nat.zero_le _, rfl, rfl, rfl, HW0, HTI, HR1, HM1, HF1, HB1⟩
    case round =>
      clear HR1 HM1 HF1 HB1
      obtain ⟨i, k, acc, hi, hk, rfl, rfl, rfl, hleft, hti, HR1, HM1, HF1, HB1⟩ := hrel
      by_cases hle : i ≤ n
      · have dle : decide ((i : Int) ≤ (n : Int)) = true := by rw [decide_eq_true_eq]; omega
        have hacc : acc.length ≤ 10000 := by
          have := congrArg List.length hleft.out
          rw [List.length_append] at this
          have := HWL.out
          omega
        go_upto_block 2 with fail
        go_cut [9] (fun v wx => v = .string ⟨(acc ++ bsOf M i).toArray⟩ ∧ wx = wr)
        case first =>
          clear hleft hti HU HW0 HTI HST HWL HLL HN HR1 HF1 HB1
          go_wp2_with fail
          go_loop [9, 12, 13] (fun v vk _ => ∃ (j : Nat) (cur : List UInt8), j ≤ i % 3 ∧ vk = .int .i64 j ∧ v = .string ⟨(acc ++ cur).toArray⟩ ∧ Hid (cur = if M.length = 0 then [] else bsK M i j) ∧ Hid (M.length = 0 → j = 0)) (fun _ vk _ => i % 3 - (intOf vk).toNat)
          case atStart => exact ⟨0, [], Nat.zero_le _, rfl, by rw [List.append_nil], Lib.hid (by rw [bsK_zero]; split <;> rfl), Lib.hid (fun _ => rfl)⟩
          case round =>
            obtain ⟨j, cur, hj, rfl, rfl, hcur, hj0⟩ := hrel
            have e3 : ((i : Int)).tmod 3 = ((i % 3 : Nat) : Int) := by rw [Int.tmod_eq_emod_of_nonneg (by omega)]; omega
            by_cases hL : M.length = 0
            · have d2 : decide ((0 : Int) < (M.length : Int)) = false := by rw [hL]; rfl
              have d2n : decide (0 < M.length) = false := by rw [hL]; rfl
              obtain rfl := hj0.out hL
              have HV : Hid (cur = bsOf M i) := Lib.hid (by rw [hcur.out]; unfold bsOf; rw [if_pos hL, if_pos hL])
              clear hcur hj0 hL
              by_cases hlt : 0 < i % 3
              · have d1 : decide (((0 : Nat) : Int) < ((i % 3 : Nat) : Int)) = true := by rw [decide_eq_true_eq]; omega
                generalize i % 3 = m at *
                go_wp2_with fail
                go_meet
                exact ⟨by rw [HV.out], rfl⟩
              · have d1 : decide (((0 : Nat) : Int) < ((i % 3 : Nat) : Int)) = false := by rw [decide_eq_false_iff_not]; omega
                generalize i % 3 = m at *
                go_wp2_with fail
                go_meet
                exact ⟨by rw [HV.out], rfl⟩
            · have hc := hcur.out
              rw [if_neg hL] at hc
              have d2 : decide ((0 : Int) < (M.length : Int)) = true := by rw [decide_eq_true_eq]; omega
              have d2n : decide (0 < M.length) = true := by rw [decide_eq_true_eq]; omega
              by_cases hlt : j < i % 3
              · have d1 : decide (((j : Nat) : Int) < ((i % 3 : Nat) : Int)) = true := by rw [decide_eq_true_eq]; omega
                have hidx : (i + j) % M.length < M.length := Nat.mod_lt _ (by omega)
                obtain ⟨b, o, hA, hcell⟩ := HM1.out (by omega)
                subst hA
                have hc1 := hcell ((i + j) % M.length) _ (List.getElem?_eq_getElem hidx)
                have hgd : M.getD ((i + j) % M.length) 0 = M[(i + j) % M.length] := by
                  rw [List.getD_eq_getElem?_getD, List.getElem?_eq_getElem hidx]; rfl
                have HV : Hid (cur ++ [blk (M[(i + j) % M.length].toNat % 4)] = bsK M i (j + 1)) := Lib.hid (by rw [hc, bsK_succ, hgd])
                have eq : (((i : Int) + (j : Int)).tmod (M.length : Int)) = (((i + j) % M.length : Nat) : Int) := by rw [Int.tmod_eq_emod_of_nonneg (by omega)]; norm_cast
                generalize (i + j) % M.length = x at *
                have hy256 : M[x].toNat < 256 := UInt8.toNat_lt _
                generalize M[x].toNat = Y at *
                have e4 : ((Y : Nat) : Int).tmod 4 = ((Y % 4 : Nat) : Int) := by rw [Int.tmod_eq_emod_of_nonneg (by omega)]; omega
                have hr4 : Y % 4 < 4 := Nat.mod_lt _ (by decide)
                have hext := blk_ext (Y % 4) hr4
                generalize Y % 4 = r at *
                have hm3 : i % 3 < 3 := Nat.mod_lt _ (by decide)
                have HJ : Hid (M.length = 0 → j + 1 = 0) := Lib.hid (fun h => absurd h hL)
                have HCU : Hid (cur ++ [blk r] = if M.length = 0 then [] else bsK M i (j + 1)) := Lib.hid (by rw [if_neg hL]; exact HV.out)
                have hclen : cur.length = j := by rw [hc, bsK_len]
                have hcat : (⟨(acc ++ cur).toArray⟩ : ByteArray) ++ ⟨#[blk r]⟩ = ⟨(acc ++ (cur ++ [blk r])).toArray⟩ := by
                  rw [show (⟨#[blk r]⟩ : ByteArray) = ⟨[blk r].toArray⟩ from rfl, cat_bytes, List.append_assoc]
                have hsum : ¬ 9223372036854775807 < (⟨(acc ++ cur).toArray⟩ : ByteArray).size + (⟨#[blk r]⟩ : ByteArray).size := by
                  have z1 : (⟨(acc ++ cur).toArray⟩ : ByteArray).size = (acc ++ cur).length := rfl
                  have z2 : (⟨#[blk r]⟩ : ByteArray).size = 1 := rfl
                  rw [z1, z2, List.length_append]; omega
                have hb4 : ¬ (⟨#[32, 9, 10, 13]⟩ : ByteArray).size < r + 1 := by show ¬ 4 < r + 1; omega
                generalize i % 3 = m at *
                clear hcur hj0 hc HV hcell hgd hclen
                go_wp2_with fail
                go_round
                case rel => exact ⟨j + 1, cur ++ [blk r], by omega, by go_num, rfl, HCU, HJ⟩
                case measure => simp [intOf]; omega
              · have d1 : decide (((j : Nat) : Int) < ((i % 3 : Nat) : Int)) = false := by rw [decide_eq_false_iff_not]; omega
                have hjj : j = i % 3 := by omega
                have HV : Hid (cur = bsOf M i) := Lib.hid (by rw [hc]; unfold bsOf; rw [if_neg hL, hjj])
                clear hjj hcur hc hj0
                generalize i % 3 = m at *
                go_wp2_with fail
                go_meet
                exact ⟨by rw [HV.out], rfl⟩
        case rest =>
          obtain ⟨rfl, rfl⟩ := hcut
          have hll2 := congrArg List.length hleft.out
          rw [List.length_append] at hll2
          have hWl := HWL.out
          by_cases hlt : i < n
          · have hip : i < ts.length := by rw [← HN.out]; exact hlt
            obtain ⟨g, rfl, hc⟩ := HR1.out (by omega)
            obtain ⟨a0, a1, a2, a3⟩ := hc i _ (List.getElem?_eq_getElem hip)
            have ht := hti.out
            have hlf := hleft.out
            rw [List.drop_eq_getElem_cons hip] at ht hlf
            generalize ts[i] = tt at ht hlf a0 a1 a2 a3
            obtain ⟨q, x, a, b⟩ := tt
            obtain ⟨t1, t2, t3, _, _, _, t6⟩ := ht
            rw [rest_len] at t3
            rw [rest_drop, show k + (b - k) = b by omega] at t6
            unfold leftW at hlf
            rw [if_pos hle] at hlf
            have hlf2 : acc ++ (bsOf M i ++ ((rest s k).take (b - k) ++ widen (bsOf M) (i + 1) b (ts.drop (i + 1)) ((rest s k).drop (b - k)))) = WW := hlf
            rw [rest_drop, show k + (b - k) = b by omega] at hlf2
            have HLF : Hid (acc ++ bsOf M i ++ (rest s k).take (b - k) ++ leftW M n (i + 1) b (ts.drop (i + 1)) (rest s b) = WW) := Lib.hid (by
              unfold leftW
              rw [if_pos (by omega), ← hlf2]
              simp only [List.append_assoc])
            have HT6 := Lib.hid t6
            have hbs : b ≤ s.size := by omega
            have hkb : k ≤ b := by omega
            have hcat : (⟨(acc ++ bsOf M i).toArray⟩ : ByteArray) ++ s.extract k b = ⟨(acc ++ bsOf M i ++ (rest s k).take (b - k)).toArray⟩ := by
              have e : s.extract k b = ⟨((rest s k).take (b - k)).toArray⟩ := by
                apply ByteArray.ext
                show (s.extract k b).data = ((rest s k).take (b - k)).toArray
                have := extract_take s k (b - k)
                rw [show k + (b - k) = b by omega] at this
                rw [← this]
              rw [e, cat_bytes]
            have hb2 := bsOf_len M i
            have hsum : ¬ 9223372036854775807 < (⟨(acc ++ bsOf M i).toArray⟩ : ByteArray).size + (s.extract k b).size := by
              have z1 : (⟨(acc ++ bsOf M i).toArray⟩ : ByteArray).size = (acc ++ bsOf M i).length := rfl
              rw [z1, ByteArray.size_extract, List.length_append]; omega
            have d1 : decide (a < k) = false := by simp; omega
            have d2 : decide (b < a) = false := by simp; omega
            have d3 : decide (s.size < b) = false := by simp; omega
            have d4 : decide ((a : Int) < (k : Int)) = false := by simp; omega
            have d5 : decide ((b : Int) < (a : Int)) = false := by simp; omega
            have d6 : decide ((s.size : Int) < (b : Int)) = false := by simp; omega
            simp only at a0 a1 a2 a3
            clear hc hti hleft hlf hlf2 t1 t2 t3 t6 hip hll2 hWl hb2
            go_upto_region 17 with fail
            go_cut [97] (fun v wx => v = .bool false ∧ Hid (wx.cell? ⟨g, i * 4 + 3, none⟩ = some (.int .i64 (b : Int))) ∧ Hid (Below wc.heap.size wc wx))
            case first =>
              clear HU HST HWL HLL HN HR1 HF1 HB1 HM1 HLF HT6 hcat hsum
              go_quiet (fail)
              go_wp2_with fail
              go_meet
              exact ⟨rfl, Lib.hid a3, Lib.hid (drewN_below (Below.refl _ _) _)⟩
            case rest =>
              obtain ⟨rfl, hc3, hk3⟩ := hcut
              clear a0 a1 a2 a3 d1 d2 d3 d4 d5 d6
              have g3 := hc3.out
              have HRD := Lib.hid (treads_keep HR1.out hk3.out)
              have HMD := Lib.hid (breads_keep HM1.out hk3.out)
              have HFF := Lib.hid (HF1.out.below hk3.out)
              have HBB := Lib.hid (HB1.out.trans (hk3.out.mono HB1.out.size))
              go_wp2_with fail
              go_roundw
              case rel => exact ⟨i + 1, b, acc ++ bsOf M i ++ (rest s k).take (b - k), by omega, hbs, by rw [List.append_assoc], rfl, by go_num, HLF, HT6, HRD, HMD, HFF, HBB⟩
              case measure => simp [intOf]; omega
          · obtain rfl : i = n := by omega
            have hdr : ts.drop i = [] := List.drop_eq_nil_of_le (by rw [← HN.out]; exact Nat.le_refl _)
            have HLF : Hid (acc ++ bsOf M i ++ leftW M i (i + 1) k (ts.drop (i + 1)) (rest s k) = WW) := Lib.hid (by
              have h1 := hleft.out
              unfold leftW at h1 ⊢
              rw [if_pos (Nat.le_refl _), hdr] at h1
              rw [if_neg (by omega), List.append_assoc]
              exact h1)
            have HTI2 : Hid (Tiled k (rest s k) (ts.drop (i + 1))) := Lib.hid (by
              have h1 := hti.out
              rw [hdr] at h1
              rw [List.drop_eq_nil_of_le (by rw [← HN.out]; exact Nat.le_succ _)]
              exact h1)
            clear hdr hleft hti hll2 hWl
            go_wp2_with fail
            go_roundw
            case rel => exact ⟨i + 1, k, acc ++ bsOf M i, by omega, hk, rfl, rfl, by go_num, HLF, HTI2, HR1, HM1, HF1, HB1⟩
            case measure => simp [intOf]
      · have hin : i = n + 1 := by omega
        subst hin
        have dle : decide (((n + 1 : Nat) : Int) ≤ (n : Int)) = false := by rw [decide_eq_false_iff_not]; omega
        have hfin : acc ++ rest s k = WW := by
          have h1 := hleft.out
          unfold leftW at h1
          rw [if_neg (by omega)] at h1
          exact h1
        have hcat : (⟨acc.toArray⟩ : ByteArray) ++ s.extract k s.size = ⟨WW.toArray⟩ := by
          have e : s.extract k s.size = ⟨(rest s k).toArray⟩ := by
            apply ByteArray.ext
            show (s.extract k s.size).data = (rest s k).toArray
            have := extract_take s k (s.size - k)
            rw [show k + (s.size - k) = s.size by omega, List.take_of_length_le (by rw [rest_len]; exact Nat.le_refl _)] at this
            rw [← this]
          rw [e, cat_bytes, hfin]
        have hsum : ¬ 9223372036854775807 < (⟨acc.toArray⟩ : ByteArray).size + (s.extract k s.size).size := by
          have z1 : (⟨acc.toArray⟩ : ByteArray).size = acc.length := rfl
          have h2 := congrArg List.length hfin
          rw [List.length_append] at h2
          have := HWL.out
          rw [z1, ByteArray.size_extract]; omega
        clear hleft hti hfin
        go_wp2_with fail
        refine (HU.out _ HF1.out).mono ?_
        rintro e w2 ⟨B, cap2, rfl, hr, hb⟩
        have HB2 := Lib.hid (HB1.out.trans (hb.mono HB1.out.size))
        have HF2 := Lib.hid (HF1.out.below hb)
        have HR2 := Lib.hid (treads_keep HR1.out hb)
        have HS2 := Lib.hid hr
        clear hb hr HU HR1 HF1 HB1 HM1 hcat hsum
        go_wp2_with fail
        go_loopw [17] (fun vi wr => ∃ (i : Nat), i ≤ n ∧ vi = .int .i64 i ∧ Hid (TReads wr A ts) ∧ Hid (TReads wr B ts') ∧ Hid (Facts wr) ∧ Hid (Below w.heap.size w wr)) (fun vi _ => n - (intOf vi).toNat)
        case atStart => exact ⟨0, Nat.zero_le _, rfl, HR2, HS2, HF2, HB2⟩
        case round =>
          obtain ⟨i, hi, rfl, hrd, hsd, hf, hb⟩ := hrel
          by_cases hlt : i < n
          · have hip : i < ts.length := by rw [← HN.out]; exact hlt
            obtain ⟨g, rfl, hc⟩ := hrd.out (by omega)
            obtain ⟨g2, rfl, hc2⟩ := hsd.out (by rw [HLL.out]; omega)
            obtain ⟨a0, a1, a2, a3⟩ := hc i _ (List.getElem?_eq_getElem hip)
            have hti := List.getElem?_eq_getElem hip
            generalize ts[i] = tt at a0 a1 a2 a3 hti
            obtain ⟨q, x, a, b⟩ := tt
            obtain ⟨a', b', ht'⟩ := strip_at HST.out i q x a b hti
            obtain ⟨b0, b1, b2, b3⟩ := hc2 i _ ht'
            simp only at a0 a1 a2 a3 b0 b1 b2 b3
            have z1 : ((q : Int) == (q : Int)) = true := by simp
            have z2 : ((q : Int) != (q : Int)) = false := by simp
            have z4 : ((txt x).toList == (txt x).toList) = true := by simp
            clear hc hc2 hip hti ht' a2 a3 b2 b3
            go_upto_region 28 with fail
            go_cut [162] (fun v wx => v = .bool false ∧ Hid (Below wr.heap.size wr wx))
            case first =>
              go_quiet (fail)
              go_wp2_with fail
              go_meet
              exact ⟨rfl, Lib.hid (drewN_below (Below.refl _ _) _)⟩
            case rest =>
              obtain ⟨rfl, hk⟩ := hcut
              have HRD := Lib.hid (treads_keep hrd.out hk.out)
              have HSD := Lib.hid (treads_keep hsd.out hk.out)
              have HFF := Lib.hid (hf.out.below hk.out)
              have HBB := Lib.hid (hb.out.trans (hk.out.mono hb.out.size))
              clear a0 a1 b0 b1
              go_wp2_with fail
              go_roundw
              case rel => exact ⟨i + 1, by omega, by go_num, HRD, HSD, HFF, HBB⟩
              case measure => simp [intOf]; omega
          · clear hrd hsd
            go_wp2_with fail
            refine (awake_any _ hf.out).mono ?_
            rintro e w3 ⟨rfl, hb3⟩
            have HB3 := Lib.hid (hb.out.trans (hb3.mono hb.out.size))
            clear hb3
            go_wp2_with fail
            go_ret
            exact ⟨rfl, HB3.out⟩
end Go.Proofs.YtfcboonbjlampaaDoor
