/-
  emendref04.Size, emendlaw04.few AT EVERY VALUE in memory (LimJ: no length beyond Go's own): if few tells yes, the value is small (szJ). No condition else.
-/
import Derived.Test.YtmkjoonbjmieoaaGreatDoorQWorks
namespace Go.Proofs.YtmkjoonbjmieoaaGreatDoor
open Go.RowKit

def totK : List (List UInt8) → Nat
  | [] => 0
  | x :: ks => 1 + x.length + totK ks
mutual
def totJ : J → Nat
  | .mk _ s ks l => 1 + s.length + totK ks + totL l
def totL : List J → Nat
  | [] => 0
  | j :: l => totJ j + totL l
end
theorem szK_tot : ∀ ks : List (List UInt8), szK ks ≤ 3 * totK ks
  | [] => by simp [szK, totK]
  | x :: ks => by have := szK_tot ks; rw [szK, totK]; omega
mutual
theorem szJ_tot : ∀ j : J, szJ j ≤ 3 * totJ j
  | .mk _ s ks l => by
    have h1 := szK_tot ks
    have h2 := szL_tot l
    rw [szJ, totJ]; omega
theorem szL_tot : ∀ l : List J, szL l ≤ 3 * totL l
  | [] => by simp [szL, totL]
  | j :: l => by
    have h1 := szJ_tot j
    have h2 := szL_tot l
    rw [szL, totL]; omega
end
mutual
/-- No length beyond Go's own bound. -/
def LimJ : J → Prop
  | .mk _ s ks l => s.length ≤ 9223372036854775807 ∧ ks.length ≤ 9223372036854775807 ∧ (∀ x ∈ ks, x.length ≤ 9223372036854775807) ∧ l.length ≤ 9223372036854775807 ∧ LimL l
def LimL : List J → Prop
  | [] => True
  | j :: l => LimJ j ∧ LimL l
end
theorem limL_mem : ∀ {l : List J} {j : J}, LimL l → j ∈ l → LimJ j
  | y :: l, j, h, hj => by
    rw [LimL] at h
    rcases List.mem_cons.1 hj with rfl | hj
    · exact h.1
    · exact limL_mem h.2 hj
theorem totK_take : ∀ (ks : List (List UInt8)) (i : Nat) (h : i < ks.length), totK (ks.take (i + 1)) = totK (ks.take i) + (1 + ks[i].length)
  | x :: ks, 0, _ => by simp [totK]
  | x :: ks, i + 1, h => by
    have := totK_take ks i (by simpa using h)
    rw [List.take_succ_cons, List.take_succ_cons, totK, totK, this, List.getElem_cons_succ]; omega
theorem totL_take : ∀ (l : List J) (i : Nat) (h : i < l.length), totL (l.take (i + 1)) = totL (l.take i) + totJ l[i]
  | x :: l, 0, _ => by simp [totL]
  | x :: l, i + 1, h => by
    have := totL_take l i (by simpa using h)
    rw [List.take_succ_cons, List.take_succ_cons, totL, totL, this, List.getElem_cons_succ]; omega
/-- What Size gives. -/
def SzEnd (j : J) (x : Int) (w : World) (e : Ending) (w' : World) : Prop := ∃ r : Int, e = .returned (.int .i64 r) ∧ r ≤ x ∧ -9223372036854775807 ≤ r ∧ (0 < r → (totJ j : Int) + r = x) ∧ Below w.heap.size w w'
def ZOk (P : Nat → Prop) (j : J) : Prop := ∀ (v : Value) (w : World) (x : Int), 0 < x → x ≤ 1500 → JIn w P j v → LimJ j → Calls Tryz.prog 32 #[v, .int .i64 x] w (SzEnd j x w)
/-- The value's block. -/
structure BJ (w : World) (c : Array Value) (W : World) : Prop where
  below : Below w.heap.size w W
  cell : W.heap[w.heap.size]? = some (.cells c 25 (0, 0))
theorem BJ.step {w W W' : World} {c : Array Value} (h : BJ w c W) (hb : Below W.heap.size W W') : BJ w c W' := ⟨h.below.trans (hb.mono h.below.size), heap_keep hb h.cell⟩
theorem BJ.new (w : World) (c : Array Value) : BJ w c (w.alloc (.cells c 25)) := ⟨alloc_below w _, alloc_top w c _⟩
set_option maxRecDepth 100000 in
set_option maxHeartbeats 4000000 in
theorem size_step (P : Nat → Prop) (j : J) (hih : ∀ t : J, totJ t < totJ j → ZOk P t) : ZOk P j := by
  intro v w x hx0 hx1 hj hlim
  obtain ⟨k, s, ks, l⟩ := j
  obtain ⟨ka, kc, ia, ic, rfl, hk, hl⟩ := hj.open
  rw [LimJ] at hlim
  obtain ⟨hs, hkn0, hkx, hln0, hll⟩ := hlim
  have HK := Lib.hid hk
  have HL := Lib.hid hl
  have HIH : Hid (∀ t ∈ l, ZOk P t ∧ LimJ t) := Lib.hid (fun t ht => ⟨hih t (by
    rw [totJ]
    have : totJ t ≤ totL l := by
      clear hj hk hl HK HL hln0 hll hih
      induction l with
      | nil => cases ht
      | cons y l ih =>
        rw [totL]
        rcases List.mem_cons.1 ht with rfl | ht
        · omega
        · have := ih ht; omega
    omega), limL_mem hll ht⟩)
  have HKX := Lib.hid hkx
  have HB := Lib.hid (BJ.new w #[.int .i64 k, .string (txt s), .slice ka ks.length kc, .slice ia l.length ic])
  have hts : (txt s).size = s.length := txt_size s
  have hw1 : IntKind.i64.wrap (x - 1) = x - 1 := IntWalk.i64_in _ (by omega)
  have hw2 : IntKind.i64.wrap (x - 1 - ((txt s).size : Int)) = x - 1 - (s.length : Int) := by rw [hts]; exact IntWalk.i64_in _ (by omega)
  have HX0 : Hid (∃ y : Int, y = x - 1 - (s.length : Int)) := Lib.hid ⟨_, rfl⟩
  have HY : Hid (x - 1 - (s.length : Int) ≤ x ∧ -9223372036854775807 ≤ x - 1 - (s.length : Int) ∧ (0 < x - 1 - (s.length : Int) → 1 + (s.length : Int) + (totK (ks.take 0) : Int) + (x - 1 - (s.length : Int)) = x)) := Lib.hid ⟨by omega, by omega, fun _ => by rw [List.take_zero, totK]; omega⟩
  obtain ⟨x0, x1, x2, x3⟩ := tok_cells HB.out.cell
  generalize hkn : ks.length = kn at *
  generalize hln : l.length = ln at *
  have HKN := Lib.hid hkn
  have HLN := Lib.hid hln
  generalize txt s = S at *
  clear hj hk hl hih hkx hll hs hts hkn hln hx0
  go_enter Tryz.func32, Tryz.ntmps32
  go_wp2_with fail
  go_loopw [1, 5] (fun vx vi wr => ∃ (i : Nat) (y : Int), i ≤ kn ∧ vi = .int .i64 i ∧ vx = .int .i64 y ∧ Hid (y ≤ x ∧ -9223372036854775807 ≤ y ∧ (0 < y → 1 + (s.length : Int) + (totK (ks.take i) : Int) + y = x)) ∧ Hid (BJ w #[.int .i64 k, .string S, .slice ka kn kc, .slice ia ln ic] wr)) (fun _ vi _ => kn - (intOf vi).toNat)
  case atStart => exact ⟨0, _, Nat.zero_le _, rfl, rfl, HY, HB⟩
  case round =>
    clear HY HB x0 x1 x2 x3 hw1 hw2
    obtain ⟨i, y, hi, rfl, rfl, hy, hbj⟩ := hrel
    obtain ⟨x0, x1, x2, x3⟩ := tok_cells hbj.out.cell
    by_cases hlt : i < kn
    · have hltz : (i : Int) < (kn : Int) := by omega
      by_cases hpos : 0 < y
      · have hik : i < ks.length := by rw [HKN.out]; exact hlt
        obtain ⟨kb, ko, rfl, hkc⟩ := kin_at (HK.out.below hbj.out.below) (by omega)
        have a0 := hkc i _ (List.getElem?_eq_getElem hik)
        have htk := totK_take ks i hik
        have hxl := HKX.out ks[i] (List.getElem_mem hik)
        generalize ks[i] = key at *
        have hyb := hy.out
        have hts : (txt key).size = key.length := txt_size key
        have hw1 : IntKind.i64.wrap (y - 1) = y - 1 := IntWalk.i64_in _ (by omega)
        have hw2 : IntKind.i64.wrap (y - 1 - ((txt key).size : Int)) = y - 1 - (key.length : Int) := by rw [hts]; exact IntWalk.i64_in _ (by omega)
        have HY3 : Hid (y - 1 - (key.length : Int) ≤ x ∧ -9223372036854775807 ≤ y - 1 - (key.length : Int) ∧ (0 < y - 1 - (key.length : Int) → 1 + (s.length : Int) + (totK (ks.take (i + 1)) : Int) + (y - 1 - (key.length : Int)) = x)) := Lib.hid (by
          refine ⟨by omega, by omega, fun h => ?_⟩
          have := hyb.2.2 hpos
          omega)
        generalize txt key = T at *
        clear hkc hik htk hxl hyb hts hy
        go_wp2_with fail
        go_roundw
        case rel => exact ⟨i + 1, _, by omega, by go_num, rfl, HY3, hbj⟩
        case measure => simp [intOf]; omega
      · have hpos' : ¬ (0 : Int) < y := hpos
        have HZ : Hid (y ≤ x ∧ -9223372036854775807 ≤ y ∧ (0 < y → 1 + (s.length : Int) + (totK ks : Int) + (totL (l.take 0) : Int) + y = x)) := Lib.hid ⟨hy.out.1, hy.out.2.1, fun h => absurd h hpos⟩
        clear hpos hy
        go_wp2_with fail
        go_loopw [1, 6] (fun vx vi wr => ∃ (i : Nat) (y : Int), i ≤ ln ∧ vi = .int .i64 i ∧ vx = .int .i64 y ∧ Hid (y ≤ x ∧ -9223372036854775807 ≤ y ∧ (0 < y → 1 + (s.length : Int) + (totK ks : Int) + (totL (l.take i) : Int) + y = x)) ∧ Hid (BJ w #[.int .i64 k, .string S, .slice ka kn kc, .slice ia ln ic] wr)) (fun _ vi _ => ln - (intOf vi).toNat)
        case atStart => exact ⟨0, _, Nat.zero_le _, rfl, rfl, HZ, hbj⟩
        case round =>
          clear HZ x0 x1 x2 x3
          clear hbj
          obtain ⟨i, y, hi, rfl, rfl, hy, hbj⟩ := hrel
          obtain ⟨x0, x1, x2, x3⟩ := tok_cells hbj.out.cell
          by_cases hlt : i < ln
          · have hltz : (i : Int) < (ln : Int) := by omega
            by_cases hpos : 0 < y
            · have hil : i < l.length := by rw [HLN.out]; exact hlt
              obtain ⟨ib, io, rfl, -, hrow⟩ := (HL.out.below hbj.out.below) (by omega)
              obtain ⟨t, htt⟩ : ∃ t, t = l[i] := ⟨_, rfl⟩
              have hti : l[i]? = some t := by rw [htt]; exact List.getElem?_eq_getElem hil
              have htm : t ∈ l := by rw [htt]; exact List.getElem_mem hil
              have htk := totL_take l i hil
              rw [← htt] at htk
              obtain ⟨v0, v1, v2, v3, d0, d1, d2, d3, hjt⟩ := hrow.at hti
              have HO := Lib.hid ((HIH.out t htm).1 _ wr y hpos (by have := hy.out.1; omega) hjt (HIH.out t htm).2)
              have HTK := Lib.hid htk
              have HPOS := Lib.hid hpos
              clear hrow hjt hti htt htm htk hil
              go_wp2_with fail
              refine HO.out.mono ?_
              rintro e w3 ⟨r, rfl, hr1, hr2, hr3, hb⟩
              have HB3 := Lib.hid (hbj.out.step hb)
              have HY3 : Hid (r ≤ x ∧ -9223372036854775807 ≤ r ∧ (0 < r → 1 + (s.length : Int) + (totK ks : Int) + (totL (l.take (i + 1)) : Int) + r = x)) := Lib.hid (by
                have h1 := hy.out
                have h2 := HTK.out
                have h3 := HPOS.out
                exact ⟨by omega, hr2, fun h => by have := hr3 h; have := h1.2.2 h3; omega⟩)
              clear hb hr1 hr2 hr3 hy HO
              go_wp2_with fail
              go_roundw
              case rel => exact ⟨i + 1, r, by omega, by go_num, rfl, HY3, HB3⟩
              case measure => simp [intOf]; omega
            · have hpos' : ¬ (0 : Int) < y := hpos
              have HEND : Hid (y ≤ x ∧ -9223372036854775807 ≤ y ∧ (0 < y → (totJ (.mk k s ks l) : Int) + y = x)) := Lib.hid ⟨hy.out.1, hy.out.2.1, fun h => absurd h hpos⟩
              clear hpos
              go_wp2_with fail
              go_ret
              exact ⟨y, rfl, HEND.out.1, HEND.out.2.1, HEND.out.2.2, hbj.out.below⟩
          · have hltz : ¬ (i : Int) < (ln : Int) := by omega
            have HEND : Hid (y ≤ x ∧ -9223372036854775807 ≤ y ∧ (0 < y → (totJ (.mk k s ks l) : Int) + y = x)) := Lib.hid ⟨hy.out.1, hy.out.2.1, fun h => by
              have := hy.out.2.2 h
              rw [List.take_of_length_le (by have := HLN.out; omega)] at this
              rw [totJ]; omega⟩
            go_wp2_with fail
            go_ret
            exact ⟨y, rfl, HEND.out.1, HEND.out.2.1, HEND.out.2.2, hbj.out.below⟩
    · have hltz : ¬ (i : Int) < (kn : Int) := by omega
      have HZ : Hid (y ≤ x ∧ -9223372036854775807 ≤ y ∧ (0 < y → 1 + (s.length : Int) + (totK ks : Int) + (totL (l.take 0) : Int) + y = x)) := Lib.hid ⟨hy.out.1, hy.out.2.1, fun h => by
        have := hy.out.2.2 h
        rw [List.take_of_length_le (by have := HKN.out; omega)] at this
        rw [List.take_zero, totL]; omega⟩
      clear hy
      go_wp2_with fail
      go_loopw [1, 6] (fun vx vi wr => ∃ (i : Nat) (y : Int), i ≤ ln ∧ vi = .int .i64 i ∧ vx = .int .i64 y ∧ Hid (y ≤ x ∧ -9223372036854775807 ≤ y ∧ (0 < y → 1 + (s.length : Int) + (totK ks : Int) + (totL (l.take i) : Int) + y = x)) ∧ Hid (BJ w #[.int .i64 k, .string S, .slice ka kn kc, .slice ia ln ic] wr)) (fun _ vi _ => ln - (intOf vi).toNat)
      case atStart => exact ⟨0, _, Nat.zero_le _, rfl, rfl, HZ, hbj⟩
      case round =>
        clear HZ x0 x1 x2 x3
        clear hbj
        obtain ⟨i, y, hi, rfl, rfl, hy, hbj⟩ := hrel
        obtain ⟨x0, x1, x2, x3⟩ := tok_cells hbj.out.cell
        by_cases hlt : i < ln
        · have hltz : (i : Int) < (ln : Int) := by omega
          by_cases hpos : 0 < y
          · have hil : i < l.length := by rw [HLN.out]; exact hlt
            obtain ⟨ib, io, rfl, -, hrow⟩ := (HL.out.below hbj.out.below) (by omega)
            obtain ⟨t, htt⟩ : ∃ t, t = l[i] := ⟨_, rfl⟩
            have hti : l[i]? = some t := by rw [htt]; exact List.getElem?_eq_getElem hil
            have htm : t ∈ l := by rw [htt]; exact List.getElem_mem hil
            have htk := totL_take l i hil
            rw [← htt] at htk
            obtain ⟨v0, v1, v2, v3, d0, d1, d2, d3, hjt⟩ := hrow.at hti
            have HO := Lib.hid ((HIH.out t htm).1 _ wr y hpos (by have := hy.out.1; omega) hjt (HIH.out t htm).2)
            have HTK := Lib.hid htk
            have HPOS := Lib.hid hpos
            clear hrow hjt hti htt htm htk hil
            go_wp2_with fail
            refine HO.out.mono ?_
            rintro e w3 ⟨r, rfl, hr1, hr2, hr3, hb⟩
            have HB3 := Lib.hid (hbj.out.step hb)
            have HY3 : Hid (r ≤ x ∧ -9223372036854775807 ≤ r ∧ (0 < r → 1 + (s.length : Int) + (totK ks : Int) + (totL (l.take (i + 1)) : Int) + r = x)) := Lib.hid (by
              have h1 := hy.out
              have h2 := HTK.out
              have h3 := HPOS.out
              exact ⟨by omega, hr2, fun h => by have := hr3 h; have := h1.2.2 h3; omega⟩)
            clear hb hr1 hr2 hr3 hy HO
            go_wp2_with fail
            go_roundw
            case rel => exact ⟨i + 1, r, by omega, by go_num, rfl, HY3, HB3⟩
            case measure => simp [intOf]; omega
          · have hpos' : ¬ (0 : Int) < y := hpos
            have HEND : Hid (y ≤ x ∧ -9223372036854775807 ≤ y ∧ (0 < y → (totJ (.mk k s ks l) : Int) + y = x)) := Lib.hid ⟨hy.out.1, hy.out.2.1, fun h => absurd h hpos⟩
            clear hpos
            go_wp2_with fail
            go_ret
            exact ⟨y, rfl, HEND.out.1, HEND.out.2.1, HEND.out.2.2, hbj.out.below⟩
        · have hltz : ¬ (i : Int) < (ln : Int) := by omega
          have HEND : Hid (y ≤ x ∧ -9223372036854775807 ≤ y ∧ (0 < y → (totJ (.mk k s ks l) : Int) + y = x)) := Lib.hid ⟨hy.out.1, hy.out.2.1, fun h => by
            have := hy.out.2.2 h
            rw [List.take_of_length_le (by have := HLN.out; omega)] at this
            rw [totJ]; omega⟩
          go_wp2_with fail
          go_ret
          exact ⟨y, rfl, HEND.out.1, HEND.out.2.1, HEND.out.2.2, hbj.out.below⟩
theorem size_all (P : Nat → Prop) : ∀ (n : Nat) (j : J), totJ j ≤ n → ZOk P j
  | 0, j, h => by cases j; rw [totJ] at h; omega
  | n + 1, j, h => size_step P j (fun t ht => size_all P n t (by omega))
set_option maxRecDepth 100000 in
/-- few: if it tells yes, the value is small. -/
theorem few_any (P : Nat → Prop) (j : J) (v : Value) (w : World) (hj : JIn w P j v) (hl : LimJ j) : Calls Tryz.prog 9 #[v] w fun e w' => ∃ b, e = .returned (.bool b) ∧ (b = true → szJ j ≤ 4500) ∧ Below w.heap.size w w' := by
  obtain ⟨v0, v1, v2, v3, rfl⟩ : ∃ v0 v1 v2 v3, v = .agg #[v0, v1, v2, v3] := by
    obtain ⟨k, s, A, n, c, B, m, d, h⟩ := jin_form hj
    exact ⟨_, _, _, _, h⟩
  have hb1 := alloc_below w (.cells #[v0, v1, v2, v3] 25)
  have HB1 := Lib.hid hb1
  have HT1 := Lib.hid (alloc_top w #[v0, v1, v2, v3] 25)
  have HS := Lib.hid (size_all P (totJ j) j (Nat.le_refl _) _ _ 1500 (by decide) (by decide) (hj.below hb1) hl)
  have HT := Lib.hid (szJ_tot j)
  obtain ⟨x0, x1, x2, x3⟩ := tok_cells HT1.out
  clear hj hl hb1
  go_enter Tryz.func9, Tryz.ntmps9
  go_wp2_with fail
  refine HS.out.mono ?_
  rintro e w1 ⟨r, rfl, h1, h2, h3, hb⟩
  have HB2 := Lib.hid (HB1.out.trans (hb.mono HB1.out.size))
  have HR := Lib.hid h3
  clear hb h1 h2 h3 x0 x1 x2 x3
  go_wp2_with fail
  go_ret
  have HE : Hid (decide (0 < r) = true → szJ j ≤ 4500) := Lib.hid (fun h => by
    have hp : 0 < r := by simpa using h
    have := HR.out hp
    have := HT.out
    omega)
  exact ⟨decide (0 < r), rfl, HE.out, HB2.out⟩
end Go.Proofs.YtmkjoonbjmieoaaGreatDoor
