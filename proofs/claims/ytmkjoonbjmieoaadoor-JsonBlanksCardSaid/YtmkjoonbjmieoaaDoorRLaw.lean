/-
  emendref04.Size, emendlaw04.few AT EVERY VALUE in memory (LimJ: no length beyond Go's own): if few tells yes, the value is small (szJ). No condition else.
-/
import Derived.Test.YtmkjoonbjmieoaaDoorQField
import Derived.Test.YtmkjoonbjmieoaaDoorQTell
import Derived.Test.YtmkjoonbjmieoaaDoorQSize
import Derived.Test.YtmkjoonbjmieoaaDoorQSays
import Derived.Deep.QuietTactic
import Derived.BigQuiet
import Derived.IntWalk
import Derived.Lib.SmallJoins
import Derived.Deep.SlicePairs
import Derived.Deep.Strs
import Derived.OpenShut
import Derived.Carry
import Derived.ChangeOld
import Derived.ChangeSlices
import Derived.ChangeMaps5
namespace Go.Proofs.YtmkjoonbjmieoaaDoor
open Go.RowKit

def totK : List (List UInt8) → Nat
  | [] => 0
  | x :: ks => 1 + x.length + totK ks
mutual
def totJ : J → Nat
  | .mk _ s ks l => 1 + s.length + totK ks + totL l
def totL : List J → Nat
  | [] => 0
  | j :: l => totJ j + totL l
end
theorem szK_tot : ∀ ks : List (List UInt8), szK ks ≤ 3 * totK ks
  | [] => by simp [szK, totK]
  | x :: ks => by have := szK_tot ks; rw [szK, totK]; omega
mutual
theorem szJ_tot : ∀ j : J, szJ j ≤ 3 * totJ j
  | .mk _ s ks l => by
    have h1 := szK_tot ks
    have h2 := szL_tot l
    rw [szJ, totJ]; omega
theorem szL_tot : ∀ l : List J, szL l ≤ 3 * totL l
  | [] => by simp [szL, totL]
  | j :: l => by
    have h1 := szJ_tot j
    have h2 := szL_tot l
    rw [szL, totL]; omega
end
mutual
/-- No length beyond Go's own bound. -/
def LimJ : J → Prop
  | .mk _ s ks l => s.length ≤ 9223372036854775807 ∧ ks.length ≤ 9223372036854775807 ∧ (∀ x ∈ ks, x.length ≤ 9223372036854775807) ∧ l.length ≤ 9223372036854775807 ∧ LimL l
def LimL : List J → Prop
  | [] => True
  | j :: l => LimJ j ∧ LimL l
end
theorem limL_mem : ∀ {l : List J} {j : J}, LimL l → j ∈ l → LimJ j
  | y :: l, j, h, hj => by
    rw [LimL] at h
    rcases List.mem_cons.1 hj with rfl | hj
    · exact h.1
    · exact limL_mem h.2 hj
theorem totK_take : ∀ (ks : List (List UInt8)) (i : Nat) (h : i < ks.length), totK (ks.take (i + 1)) = totK (ks.take i) + (1 + ks[i].length)
  | x :: ks, 0, _ => by simp [totK]
  | x :: ks, i + 1, h => by
    have := totK_take ks i (by simpa using h)
    rw [List.take_succ_cons, List.take_succ_cons, totK, totK, this, List.getElem_cons_succ]; omega
theorem totL_take : ∀ (l : List J) (i : Nat) (h : i < l.length), totL (l.take (i + 1)) = totL (l.take i) + totJ l[i]
  | x :: l, 0, _ => by simp [totL]
  | x :: l, i + 1, h => by
    have := totL_take l i (by simpa using h)
    rw [List.take_succ_cons, List.take_succ_cons, totL, totL, this, List.getElem_cons_succ]; omega
/-- What Size gives. -/
def SzEnd (j : J) (x : Int) (w : World) (e : Ending) (w' : World) : Prop := ∃ r : Int, e = .returned (.int .i64 r) ∧ r ≤ x ∧ -9223372036854775807 ≤ r ∧ (0 < r → (totJ j : Int) + r = x) ∧ Below w.heap.size w w'
def ZOk (P : Nat → Prop) (j : J) : Prop := ∀ (v : Value) (w : World) (x : Int), 0 < x → x ≤ 1500 → JIn w P j v → LimJ j → Calls Tryd.prog 20 #[v, .int .i64 x] w (SzEnd j x w)
/-- The value's block. -/
structure BJ (w : World) (c : Array Value) (W : World) : Prop where
  below : Below w.heap.size w W
  cell : W.heap[w.heap.size]? = some (.cells c 26 (0, 0))
theorem BJ.step {w W W' : World} {c : Array Value} (h : BJ w c W) (hb : Below W.heap.size W W') : BJ w c W' := ⟨h.below.trans (hb.mono h.below.size), heap_keep hb h.cell⟩
theorem BJ.new (w : World) (c : Array Value) : BJ w c (w.alloc (.cells c 26)) := ⟨alloc_below w _, alloc_top w c _⟩
set_option maxRecDepth 100000 in
set_option maxHeartbeats 4000000 in
theorem size_step (P : Nat → Prop) (j : J) (hih : ∀ t : J, totJ t < totJ j → ZOk P t) : ZOk P j := by
  intro v w x hx0 hx1 hj hlim
  obtain ⟨k, s, ks, l⟩ := j
  obtain ⟨ka, kc, ia, ic, rfl, hk, hl⟩ := hj.open
  rw [LimJ] at hlim
  obtain ⟨hs, hkn0, hkx, hln0, hll⟩ := hlim
  have HK := Lib.hid hk
  have HL := Lib.hid hl
  have HIH : Hid (∀ t ∈ l, ZOk P t ∧ LimJ t) := Lib.hid (fun t ht => ⟨hih t (by
    rw [totJ]
    have : totJ t ≤ totL l := by
      clear hj hk hl HK HL hln0 hll hih
      induction l with
      | nil => cases ht
      | cons y l ih =>
        rw [totL]
        rcases List.mem_cons.1 ht with rfl | ht
        · omega
        · have := ih ht; omega
    omega), limL_mem hll ht⟩)
  have HKX := Lib.hid hkx
  have HB := Lib.hid (BJ.new w #[.int .i64 k, .string (txt s), .slice ka ks.length kc, .slice ia l.length ic])
  have hts : (txt s).size = s.length := txt_size s
  have hw1 : IntKind.i64.wrap (x - 1) = x - 1 := IntWalk.i64_in _ (by omega)
  have hw2 : IntKind.i64.wrap (x - 1 - ((txt s).size : Int)) = x - 1 - (s.length : Int) := by rw [hts]; exact IntWalk.i64_in _ (by omega)
  have HX0 : Hid (∃ y : Int, y = x - 1 - (s.length : Int)) := Lib.hid ⟨_, rfl⟩
  have HY : Hid (x - 1 - (s.length : Int) ≤ x ∧ -9223372036854775807 ≤ x - 1 - (s.length : Int) ∧ (0 < x - 1 - (s.length : Int) → 1 + (s.length : Int) + (totK (ks.take 0) : Int) + (x - 1 - (s.length : Int)) = x)) := Lib.hid ⟨by omega, by omega, fun _ => by rw [List.take_zero, totK]; omega⟩
  obtain ⟨x0, x1, x2, x3⟩ := tok_cells HB.out.cell
  generalize hkn : ks.length = kn at *
  generalize hln : l.length = ln at *
  have HKN := Lib.hid hkn
  have HLN := Lib.hid hln
  generalize txt s = S at *
  clear hj hk hl hih hkx hll hs hts hkn hln hx0
  go_enter Tryd.func20, Tryd.ntmps20
  go_wp2_with fail
  go_loopw [1, 5] (fun vx vi wr => ∃ (i : Nat) (y : Int), i ≤ kn ∧ vi = .int .i64 i ∧ vx = .int .i64 y ∧ Hid (y ≤ x ∧ -9223372036854775807 ≤ y ∧ (0 < y → 1 + (s.length : Int) + (totK (ks.take i) : Int) + y = x)) ∧ Hid (BJ w #[.int .i64 k, .string S, .slice ka kn kc, .slice ia ln ic] wr)) (fun _ vi _ => kn - (intOf vi).toNat)
  case atStart => exact ⟨0, _, Nat.zero_le _, rfl, rfl, HY, HB⟩
  case round =>
    clear HY HB x0 x1 x2 x3 hw1 hw2
    obtain ⟨i, y, hi, rfl, rfl, hy, hbj⟩ := hrel
    obtain ⟨x0, x1, x2, x3⟩ := tok_cells hbj.out.cell
    by_cases hlt : i < kn
    · have hltz : (i : Int) < (kn : Int) := by omega
      by_cases hpos : 0 < y
      · have hik : i < ks.length := by rw [HKN.out]; exact hlt
        obtain ⟨kb, ko, rfl, hkc⟩ := kin_at (HK.out.below hbj.out.below) (by omega)
        have a0 := hkc i _ (List.getElem?_eq_getElem hik)
        have htk := totK_take ks i hik
        have hxl := HKX.out ks[i] (List.getElem_mem hik)
        generalize ks[i] = key at *
        have hyb := hy.out
        have hts : (txt key).size = key.length := txt_size key
        have hw1 : IntKind.i64.wrap (y - 1) = y - 1 := IntWalk.i64_in _ (by omega)
        have hw2 : IntKind.i64.wrap (y - 1 - ((txt key).size : Int)) = y - 1 - (key.length : Int) := by rw [hts]; exact IntWalk.i64_in _ (by omega)
        have HY3 : Hid (y - 1 - (key.length : Int) ≤ x ∧ -9223372036854775807 ≤ y - 1 - (key.length : Int) ∧ (0 < y - 1 - (key.length : Int) → 1 + (s.length : Int) + (totK (ks.take (i + 1)) : Int) + (y - 1 - (key.length : Int)) = x)) := Lib.hid (by
          refine ⟨by omega, by omega, fun h => ?_⟩
          have := hyb.2.2 hpos
          omega)
        generalize txt key = T at *
        clear hkc hik htk hxl hyb hts hy
        go_wp2_with fail
        go_roundw
        case rel => exact ⟨i + 1, _, by omega, by go_num, rfl, HY3, hbj⟩
        case measure => simp [intOf]; omega
      · have hpos' : ¬ (0 : Int) < y := hpos
        have HZ : Hid (y ≤ x ∧ -9223372036854775807 ≤ y ∧ (0 < y → 1 + (s.length : Int) + (totK ks : Int) + (totL (l.take 0) : Int) + y = x)) := Lib.hid ⟨hy.out.1, hy.out.2.1, fun h => absurd h hpos⟩
        clear hpos hy
        go_wp2_with fail
        go_loopw [1, 6] (fun vx vi wr => ∃ (i : Nat) (y : Int), i ≤ ln ∧ vi = .int .i64 i ∧ vx = .int .i64 y ∧ Hid (y ≤ x ∧ -9223372036854775807 ≤ y ∧ (0 < y → 1 + (s.length : Int) + (totK ks : Int) + (totL (l.take i) : Int) + y = x)) ∧ Hid (BJ w #[.int .i64 k, .string S, .slice ka kn kc, .slice ia ln ic] wr)) (fun _ vi _ => ln - (intOf vi).toNat)
        case atStart => exact ⟨0, _, Nat.zero_le _, rfl, rfl, HZ, hbj⟩
        case round =>
          clear HZ x0 x1 x2 x3
          clear hbj
          obtain ⟨i, y, hi, rfl, rfl, hy, hbj⟩ := hrel
          obtain ⟨x0, x1, x2, x3⟩ := tok_cells hbj.out.cell
          by_cases hlt : i < ln
          · have hltz : (i : Int) < (ln : Int) := by omega
            by_cases hpos : 0 < y
            · have hil : i < l.length := by rw [HLN.out]; exact hlt
              obtain ⟨ib, io, rfl, -, hrow⟩ := (HL.out.below hbj.out.below) (by omega)
              obtain ⟨t, htt⟩ : ∃ t, t = l[i] := ⟨_, rfl⟩
              have hti : l[i]? = some t := by rw [htt]; exact List.getElem?_eq_getElem hil
              have htm : t ∈ l := by rw [htt]; exact List.getElem_mem hil
              have htk := totL_take l i hil
              rw [← htt] at htk
              obtain ⟨v0, v1, v2, v3, d0, d1, d2, d3, hjt⟩ := hrow.at hti
              have HO := Lib.hid ((HIH.out t htm).1 _ wr y hpos (by have := hy.out.1; omega) hjt (HIH.out t htm).2)
              have HTK := Lib.hid htk
              have HPOS := Lib.hid hpos
              clear hrow hjt hti htt htm htk hil
              go_wp2_with fail
              refine HO.out.mono ?_
              rintro e w3 ⟨r, rfl, hr1, hr2, hr3, hb⟩
              have HB3 := Lib.hid (hbj.out.step hb)
              have HY3 : Hid (r ≤ x ∧ -9223372036854775807 ≤ r ∧ (0 < r → 1 + (s.length : Int) + (totK ks : Int) + (totL (l.take (i + 1)) : Int) + r = x)) := Lib.hid (by
                have h1 := hy.out
                have h2 := HTK.out
                have h3 := HPOS.out
                exact ⟨by omega, hr2, fun h => by have := hr3 h; have := h1.2.2 h3; omega⟩)
              clear hb hr1 hr2 hr3 hy HO
              go_wp2_with fail
              go_roundw
              case rel => exact ⟨i + 1, r, by omega, by go_num, rfl, HY3, HB3⟩
              case measure => simp [intOf]; omega
            · have hpos' : ¬ (0 : Int) < y := hpos
              have HEND : Hid (y ≤ x ∧ -9223372036854775807 ≤ y ∧ (0 < y → (totJ (.mk k s ks l) : Int) + y = x)) := Lib.hid ⟨hy.out.1, hy.out.2.1, fun h => absurd h hpos⟩
              clear hpos
              go_wp2_with fail
              go_ret
              exact ⟨y, rfl, HEND.out.1, HEND.out.2.1, HEND.out.2.2, hbj.out.below⟩
          · have hltz : ¬ (i : Int) < (ln : Int) := by omega
            have HEND : Hid (y ≤ x ∧ -9223372036854775807 ≤ y ∧ (0 < y → (totJ (.mk k s ks l) : Int) + y = x)) := Lib.hid ⟨hy.out.1, hy.out.2.1, fun h => by
              have := hy.out.2.2 h
              rw [List.take_of_length_le (by have := HLN.out; omega)] at this
              rw [totJ]; omega⟩
            go_wp2_with fail
            go_ret
            exact ⟨y, rfl, HEND.out.1, HEND.out.2.1, HEND.out.2.2, hbj.out.below⟩
    · have hltz : ¬ (i : Int) < (kn : Int) := by omega
      have HZ : Hid (y ≤ x ∧ -9223372036854775807 ≤ y ∧ (0 < y → 1 + (s.length : Int) + (totK ks : Int) + (totL (l.take 0) : Int) + y = x)) := Lib.hid ⟨hy.out.1, hy.out.2.1, fun h => by
        have := hy.out.2.2 h
        rw [List.take_of_length_le (by have := HKN.out; omega)] at this
        rw [List.take_zero, totL]; omega⟩
      clear hy
      go_wp2_with fail
      go_loopw [1, 6] (fun vx vi wr => ∃ (i : Nat) (y : Int), i ≤ ln ∧ vi = .int .i64 i ∧ vx = .int .i64 y ∧ Hid (y ≤ x ∧ -9223372036854775807 ≤ y ∧ (0 < y → 1 + (s.length : Int) + (totK ks : Int) + (totL (l.take i) : Int) + y = x)) ∧ Hid (BJ w #[.int .i64 k, .string S, .slice ka kn kc, .slice ia ln ic] wr)) (fun _ vi _ => ln - (intOf vi).toNat)
      case atStart => exact ⟨0, _, Nat.zero_le _, rfl, rfl, HZ, hbj⟩
      case round =>
        clear HZ x0 x1 x2 x3
        clear hbj
        obtain ⟨i, y, hi, rfl, rfl, hy, hbj⟩ := hrel
        obtain ⟨x0, x1, x2, x3⟩ := tok_cells hbj.out.cell
        by_cases hlt : i < ln
        · have hltz : (i : Int) < (ln : Int) := by omega
          by_cases hpos : 0 < y
          · have hil : i < l.length := by rw [HLN.out]; exact hlt
            obtain ⟨ib, io, rfl, -, hrow⟩ := (HL.out.below hbj.out.below) (by omega)
            obtain ⟨t, htt⟩ : ∃ t, t = l[i] := ⟨_, rfl⟩
            have hti : l[i]? = some t := by rw [htt]; exact List.getElem?_eq_getElem hil
            have htm : t ∈ l := by rw [htt]; exact List.getElem_mem hil
            have htk := totL_take l i hil
            rw [← htt] at htk
            obtain ⟨v0, v1, v2, v3, d0, d1, d2, d3, hjt⟩ := hrow.at hti
            have HO := Lib.hid ((HIH.out t htm).1 _ wr y hpos (by have := hy.out.1; omega) hjt (HIH.out t htm).2)
            have HTK := Lib.hid htk
            have HPOS := Lib.hid hpos
            clear hrow hjt hti htt htm htk hil
            go_wp2_with fail
            refine HO.out.mono ?_
            rintro e w3 ⟨r, rfl, hr1, hr2, hr3, hb⟩
            have HB3 := Lib.hid (hbj.out.step hb)
            have HY3 : Hid (r ≤ x ∧ -9223372036854775807 ≤ r ∧ (0 < r → 1 + (s.length : Int) + (totK ks : Int) + (totL (l.take (i + 1)) : Int) + r = x)) := Lib.hid (by
              have h1 := hy.out
              have h2 := HTK.out
              have h3 := HPOS.out
              exact ⟨by omega, hr2, fun h => by have := hr3 h; have := h1.2.2 h3; omega⟩)
            clear hb hr1 hr2 hr3 hy HO
            go_wp2_with fail
            go_roundw
            case rel => exact ⟨i + 1, r, by omega, by go_num, rfl, HY3, HB3⟩
            case measure => simp [intOf]; omega
          · have hpos' : ¬ (0 : Int) < y := hpos
            have HEND : Hid (y ≤ x ∧ -9223372036854775807 ≤ y ∧ (0 < y → (totJ (.mk k s ks l) : Int) + y = x)) := Lib.hid ⟨hy.out.1, hy.out.2.1, fun h => absurd h hpos⟩
            clear hpos
            go_wp2_with fail
            go_ret
            exact ⟨y, rfl, HEND.out.1, HEND.out.2.1, HEND.out.2.2, hbj.out.below⟩
        · have hltz : ¬ (i : Int) < (ln : Int) := by omega
          have HEND : Hid (y ≤ x ∧ -9223372036854775807 ≤ y ∧ (0 < y → (totJ (.mk k s ks l) : Int) + y = x)) := Lib.hid ⟨hy.out.1, hy.out.2.1, fun h => by
            have := hy.out.2.2 h
            rw [List.take_of_length_le (by have := HLN.out; omega)] at this
            rw [totJ]; omega⟩
          go_wp2_with fail
          go_ret
          exact ⟨y, rfl, HEND.out.1, HEND.out.2.1, HEND.out.2.2, hbj.out.below⟩
theorem size_all (P : Nat → Prop) : ∀ (n : Nat) (j : J), totJ j ≤ n → ZOk P j
  | 0, j, h => by cases j; rw [totJ] at h; omega
  | n + 1, j, h => size_step P j (fun t ht => size_all P n t (by omega))
set_option maxRecDepth 100000 in
/-- few: if it tells yes, the value is small. -/
theorem few_any (P : Nat → Prop) (j : J) (v : Value) (w : World) (hj : JIn w P j v) (hl : LimJ j) : Calls Tryd.prog 10 #[v] w fun e w' => ∃ b, e = .returned (.bool b) ∧ (b = true → szJ j ≤ 4500) ∧ Below w.heap.size w w' := by
  obtain ⟨v0, v1, v2, v3, rfl⟩ : ∃ v0 v1 v2 v3, v = .agg #[v0, v1, v2, v3] := by
    obtain ⟨k, s, A, n, c, B, m, d, h⟩ := jin_form hj
    exact ⟨_, _, _, _, h⟩
  have hb1 := alloc_below w (.cells #[v0, v1, v2, v3] 26)
  have HB1 := Lib.hid hb1
  have HT1 := Lib.hid (alloc_top w #[v0, v1, v2, v3] 26)
  have HS := Lib.hid (size_all P (totJ j) j (Nat.le_refl _) _ _ 1500 (by decide) (by decide) (hj.below hb1) hl)
  have HT := Lib.hid (szJ_tot j)
  obtain ⟨x0, x1, x2, x3⟩ := tok_cells HT1.out
  clear hj hl hb1
  go_enter Tryd.func10, Tryd.ntmps10
  go_wp2_with fail
  refine HS.out.mono ?_
  rintro e w1 ⟨r, rfl, h1, h2, h3, hb⟩
  have HB2 := Lib.hid (HB1.out.trans (hb.mono HB1.out.size))
  have HR := Lib.hid h3
  clear hb h1 h2 h3 x0 x1 x2 x3
  go_wp2_with fail
  go_ret
  have HE : Hid (decide (0 < r) = true → szJ j ≤ 4500) := Lib.hid (fun h => by
    have hp : 0 < r := by simpa using h
    have := HR.out hp
    have := HT.out
    omega)
  exact ⟨decide (0 < r), rfl, HE.out, HB2.out⟩
end Go.Proofs.YtmkjoonbjmieoaaDoor
namespace Go.Proofs.YtmkjoonbjmieoaaDoor
open Go.RowKit

/-- Some items' texts, a comma between two, with blanks about it. -/
def gL (g : List UInt8) : Bool → List J → List UInt8
  | _, [] => []
  | first, j :: l => (if first then [] else g ++ 44 :: g) ++ textJ j ++ gL g false l
theorem gL_nil : ∀ (first : Bool) (l : List J), gL [] first l = textL first l
  | _, [] => by rw [gL, textL]
  | first, j :: l => by rw [gL, textL, gL_nil false l]; cases first <;> rfl
theorem gL_snoc (g : List UInt8) (j : J) : ∀ (l : List J) (first : Bool), gL g first (l ++ [j]) = gL g first l ++ ((if first && l.isEmpty then [] else g ++ 44 :: g) ++ textJ j)
  | [], first => by
    rw [List.nil_append, gL, gL, gL]
    cases first <;> simp
  | x :: l, first => by
    rw [List.cons_append, gL, gL, gL_snoc g j l false]
    simp [List.append_assoc]
theorem tx_gap {g : List UInt8} (hg : g.all isB = true) {t : List UInt8} {ws : List Wd} (ht : Tx t ws) : Tx (g ++ t) ws :=
  ⟨by rw [valid_blanks g t hg]; exact ht.1, fun r hv hr => by rw [List.append_assoc, words_blanks g _ hg]; exact ht.2 r hv hr⟩
theorem soft_gL {g : List UInt8} (hg : g.all isB = true) : ∀ (l : List J) (r : List UInt8), soft r → soft (gL g false l ++ r)
  | [], r, h => by rw [gL]; exact h
  | j :: l, r, h => by
    rw [gL]
    simp only [Bool.false_eq_true, if_false, List.append_assoc, List.cons_append]
    exact soft_blanks g _ hg (soft_mark (by decide) _)
theorem tx_gL {g : List UInt8} (hg : g.all isB = true) : ∀ (first : Bool) (l : List J), faultL l = 0 → Tx (gL g first l) (tkL first l)
  | _, [], _ => by rw [gL, tkL]; exact tx_nil
  | first, j :: l, h => by
    obtain ⟨h1, h2⟩ := faultL_cons h
    rw [gL, tkL]
    have hr := tx_gL hg false l h2
    have hj : Tx ((if first then [] else g ++ 44 :: g) ++ textJ j) (cm first ++ tkJ j) := by
      cases first with
      | true => exact tx_J j h1
      | false =>
        have := tx_gap hg (tx_mark (c := 44) (by decide) (tx_gap hg (tx_J j h1)))
        simpa [cm, List.append_assoc] using this
    exact tx_app hj hr (fun r hr => soft_gL hg l r hr)
/-- The list's text with gaps. -/
def gapT (g : List UInt8) (l : List J) : List UInt8 := g ++ [91] ++ g ++ gL g true l ++ g ++ [93] ++ g
theorem tx_gapT {g : List UInt8} (hg : g.all isB = true) (l : List J) (h : faultL l = 0) : Tx (gapT g l) (tkJ (.mk 5 [] [] l)) := by
  have hend : Tx (g ++ 93 :: g) [(1, [93])] := by
    have h0 : Tx g [] := by have := tx_gap hg tx_nil; rwa [List.append_nil] at this
    exact tx_gap hg (tx_mark (by decide) h0)
  have hb := tx_app (tx_gL hg true l h) hend (fun r hr => by
    rw [List.append_assoc]
    exact soft_blanks g _ hg (soft_mark (by decide) _))
  have := tx_gap hg (tx_mark (c := 91) (by decide) (tx_gap hg hb))
  rw [tkJ]
  simpa [gapT, List.append_assoc] using this
/-- What a text with a value's words says. -/
theorem parse_words {l : List UInt8} {j : J} (hf : faultJ j = 0) (hv : valid l = true) (hw : words l = some (tkJ j)) : parseR l = if deepJ 64 j then .error 3 else .ok j := by
  unfold words at hw
  cases hT : toks 0 l with
  | error e => rw [hT] at hw; cases hw
  | ok ts =>
    rw [hT] at hw
    have hsw : SW ts (tkJ j) := by injection hw
    have hp := pv_J j (2 * ts.length + 1) ts [] hf hsw (Nat.le_refl _)
    rw [List.append_nil] at hp
    unfold parseR
    rw [tokensR_ov hv hT]
    cases hd : deepJ 64 j with
    | false =>
      have hb := by_J j 64 0 ts [] hf (by omega) hd hsw
      rw [List.append_nil] at hb
      simp only [hb, hp]
      rfl
    | true =>
      have hG := toks_GT l.length 0 l ts (Nat.le_refl _) hv hT
      obtain ⟨_, _, _, hdp⟩ := pv_may _ ts false j [] hG hp
      have hb : beyond 64 0 ts = true := by
        cases hb : beyond 64 0 ts with
        | true => rfl
        | false => rw [(hdp 64 0 (by omega) hb).1] at hd; cases hd
      simp only [hb, if_true]
theorem parse_gapT {g : List UInt8} (hg : g.all isB = true) (l : List J) (h : faultL l = 0) : parseR (gapT g l) = if deepJ 64 (.mk 5 [] [] l) then .error 3 else .ok (.mk 5 [] [] l) := by
  have ht := tx_gapT hg l h
  have := ht.2 [] valid_nil soft_nil
  rw [List.append_nil, words_nil] at this
  exact parse_words (faultJ_arr h) ht.1 (by rw [this]; simp)
theorem gL_len (g : List UInt8) : ∀ (first : Bool) (l : List J), (∀ j ∈ l, szJ j ≤ 4500) → (gL g first l).length ≤ l.length * (2 * g.length + 27001)
  | _, [], _ => by rw [gL]; simp
  | first, j :: l, h => by
    have h1 := gL_len g false l (fun t ht => h t (List.mem_cons_of_mem _ ht))
    have h2 := textJ_len j
    have h3 := h j List.mem_cons_self
    have h4 : (if first then ([] : List UInt8) else g ++ 44 :: g).length ≤ 2 * g.length + 1 := by cases first <;> simp; omega
    rw [gL, List.length_append, List.length_append, List.length_cons, Nat.succ_mul]
    omega
theorem gapT_len {g : List UInt8} (hg : g.length ≤ 20) {l : List J} (hl : l.length ≤ 20) (h : ∀ j ∈ l, szJ j ≤ 4500) : (gapT g l).length ≤ 1000000 := by
  have h1 := gL_len g true l h
  have h2 : l.length * (2 * g.length + 27001) ≤ 20 * 27041 := Nat.mul_le_mul hl (by omega)
  unfold gapT
  simp only [List.length_append, List.length_cons, List.length_nil]
  omega
theorem faultL_of : ∀ {l : List J}, (∀ j ∈ l, faultJ j = 0) → faultL l = 0
  | [], _ => by rw [faultL]
  | j :: l, h => by
    rw [faultL, if_pos (h j List.mem_cons_self)]
    exact faultL_of fun t ht => h t (List.mem_cons_of_mem _ ht)
theorem szL_small : ∀ {l : List J}, (∀ j ∈ l, szJ j ≤ 4500) → szL l ≤ l.length * 4500
  | [], _ => by rw [szL]; simp
  | j :: l, h => by
    have h1 := szL_small (l := l) fun t ht => h t (List.mem_cons_of_mem _ ht)
    have h2 := h j List.mem_cons_self
    rw [szL, List.length_cons, Nat.succ_mul]
    omega
/-- The place of a blank's letter, and the blank. -/
def bkG (n : Nat) : UInt8 := ([32, 9, 10, 13] : List UInt8).getD (n % 4) 32
theorem bkG_B (n : Nat) : isB (bkG n) = true := by
  unfold bkG
  have : n % 4 < 4 := Nat.mod_lt _ (by omega)
  match n % 4, this with
  | 0, _ => rfl
  | 1, _ => rfl
  | 2, _ => rfl
  | 3, _ => rfl
end Go.Proofs.YtmkjoonbjmieoaaDoor
namespace Go.Proofs.YtmkjoonbjmieoaaDoor
open Go.RowKit

/-- A slice that reads as bytes. -/
def BRd (W : World) (A : Option Addr) (M : List UInt8) : Prop :=
  0 < M.length → ∃ b o, A = some ⟨b, o, none⟩ ∧ ∀ j c, M[j]? = some c → W.cell? ⟨b, o + j, none⟩ = some (.int .u8 (c.toNat : Int))
theorem BRd.below {W W' : World} {A : Option Addr} {M : List UInt8} (h : BRd W A M) (hb : Below W.heap.size W W') : BRd W' A M := by
  intro hp
  obtain ⟨b, o, hA, hc⟩ := h hp
  exact ⟨b, o, hA, fun j c hj => cell_blk (fun hx => hb.block b hx) (hc j c hj)⟩
theorem drewN_belowG {w w' : World} {B : Nat} (h : Below B w w') (n : Nat) : Below B w (w'.drewN n) := h.trans ⟨rfl, rfl, rfl, Nat.le_refl _, fun _ _ => rfl⟩
theorem bkG_ext (r : Nat) (h : r < 4) : (⟨#[32, 9, 10, 13]⟩ : ByteArray).extract r (r + 1) = ⟨#[bkG r]⟩ := by
  have : r = 0 ∨ r = 1 ∨ r = 2 ∨ r = 3 := by omega
  rcases this with rfl | rfl | rfl | rfl <;> rfl
theorem cat_txt (a b : List UInt8) : txt a ++ txt b = txt (a ++ b) := cat_bytes a b
theorem cat_one (a : List UInt8) (c : UInt8) : txt a ++ (⟨#[c]⟩ : ByteArray) = txt (a ++ [c]) := cat_bytes a [c]
theorem zero_in (W : World) (P : Nat → Prop) : JIn W P (.mk 0 [] [] []) zeroJ :=
  JIn.shut (k := 0) (s := []) (ks := []) (l := []) (kc := 0) (ic := 0) (ka := none) (ia := none) (fun h => absurd h (Nat.lt_irrefl 0)) (fun h => absurd h (Nat.lt_irrefl 0))
/-- What is known of the items that were gone through. -/
def Good (l : List J) : Prop := ∀ j ∈ l, szJ j ≤ 4500 ∧ checkJ j = 0
theorem Good.snoc {l : List J} {j : J} (h : Good l) (h1 : szJ j ≤ 4500) (h2 : checkJ j = 0) : Good (l ++ [j]) := by
  intro t ht
  rcases List.mem_append.1 ht with ht | ht
  · exact h t ht
  · rw [List.mem_singleton] at ht; subst ht; exact ⟨h1, h2⟩
theorem Good.fault {l : List J} (h : Good l) : faultL l = 0 := faultL_of fun j hj => (check_of (h j hj).2).2
theorem Good.sz {l : List J} (h : Good l) : ∀ j ∈ l, szJ j ≤ 4500 := fun j hj => (h j hj).1
theorem gL_lim {g : List UInt8} (hg : g.length ≤ 20) {l : List J} (hl : l.length ≤ 20) (h : Good l) : (gL g true l).length ≤ 600000 := by
  have h1 := gL_len g true l h.sz
  have h2 : l.length * (2 * g.length + 27001) ≤ 20 * 27041 := Nat.mul_le_mul hl (by omega)
  omega
theorem take_snoc {l : List J} {i : Nat} {t : J} (h : l[i]? = some t) : l.take (i + 1) = l.take i ++ [t] := by
  rw [List.take_add_one, h]; rfl
theorem sj_at {W : World} {P : Nat → Prop} {l : List J} {A : Option Addr} (h : SJ W P l A) {i : Nat} {t : J} (hi : l[i]? = some t) :
    ∃ b o, A = some ⟨b, o, none⟩ ∧ ∀ W', Below W.heap.size W W' → ∃ v0 v1 v2 v3, W'.cell? ⟨b, o + i * 4, none⟩ = some v0 ∧ W'.cell? ⟨b, o + i * 4 + 1, none⟩ = some v1 ∧ W'.cell? ⟨b, o + i * 4 + 2, none⟩ = some v2 ∧ W'.cell? ⟨b, o + i * 4 + 3, none⟩ = some v3 ∧ JIn W' P t (.agg #[v0, v1, v2, v3]) := by
  have hlt : i < l.length := by
    rcases Nat.lt_or_ge i l.length with h | h
    · exact h
    · rw [List.getElem?_eq_none h] at hi; cases hi
  obtain ⟨b, o, hA, -, -⟩ := h (by omega)
  refine ⟨b, o, hA, fun W' hb => ?_⟩
  obtain ⟨b', o', hA', -, hrow⟩ := (h.below hb) (by omega)
  rw [hA] at hA'
  simp only [Option.some.injEq, Addr.mk.injEq, and_true] at hA'
  obtain ⟨rfl, rfl⟩ := hA'
  exact hrow.at hi
set_option maxRecDepth 100000 in
set_option maxHeartbeats 4000000 in
theorem jsonBlanks_walk (P : Nat → Prop) (A : Option Addr) (L : List J) (c : Nat) (A1 : Option Addr) (M : List UInt8) (c1 : Nat) (w : World) (hlim : ∀ t ∈ L, LimJ t) (hL : SJ w P L A) (hM : BRd w A1 M) (hF : Facts w) :
    Calls Tryd.prog 4 #[.slice A L.length c, .slice A1 M.length c1] w fun e w' => e = .returned (.bool true) ∧ Below w.heap.size w w' := by
  have HF := Lib.hid hF
  have HW := Lib.hid (fun (W : World) (hb : Below w.heap.size w W) => works_any W (hF.below hb))
  have HLIM := Lib.hid hlim
  have HL := Lib.hid hL
  have HM := Lib.hid hM
  have HB := Lib.hid (Below.refl w.heap.size w)
  generalize hn : L.length = n at *
  generalize hm : M.length = m at *
  have HN := Lib.hid hn
  have HMN := Lib.hid hm
  clear hF hlim hL hM hn hm
  by_cases h1 : 20 < n
  · have d1 : (20 : Int) < (n : Int) := by omega
    go_enter Tryd.func4, Tryd.ntmps4
    go_wp2_with fail
    refine (HW.out _ HB.out).mono ?_
    rintro e w1 ⟨rfl, hb⟩
    have HB1 := Lib.hid hb
    clear hb
    go_wp2_with fail
    go_ret
    exact ⟨rfl, HB1.out⟩
  · by_cases h2 : 20 < m
    · have d1 : ¬ (20 : Int) < (n : Int) := by omega
      have d2 : (20 : Int) < (m : Int) := by omega
      go_enter Tryd.func4, Tryd.ntmps4
      go_wp2_with fail
      refine (HW.out _ HB.out).mono ?_
      rintro e w1 ⟨rfl, hb⟩
      have HB1 := Lib.hid hb
      clear hb
      go_wp2_with fail
      go_ret
      exact ⟨rfl, HB1.out⟩
    · have d1 : ¬ (20 : Int) < (n : Int) := by omega
      have d2 : ¬ (20 : Int) < (m : Int) := by omega
      go_enter Tryd.func4, Tryd.ntmps4
      go_wp2_with fail
      clear d1 d2
      go_loopw [5, 6] (fun vg vi wr => ∃ (i : Nat) (g : List UInt8), i ≤ m ∧ vi = .int .i64 i ∧ vg = .string (txt g) ∧ Hid (g.length = i ∧ g.all isB = true) ∧ Hid (Below w.heap.size w wr)) (fun _ vi _ => m - (intOf vi).toNat)
      case atStart => exact ⟨0, [], Nat.zero_le _, rfl, rfl, Lib.hid ⟨rfl, rfl⟩, HB⟩
      case round =>
        clear HB
        obtain ⟨i, g, hi, rfl, rfl, hg, HB⟩ := hrel
        by_cases hlt : i < m
        · have hltz : (i : Int) < (m : Int) := by omega
          have him : i < M.length := by rw [HMN.out]; exact hlt
          obtain ⟨b, o, rfl, hcell⟩ := (HM.out.below HB.out) (by rw [HMN.out]; omega)
          have hc1 := hcell i _ (List.getElem?_eq_getElem him)
          have hy256 : M[i].toNat < 256 := UInt8.toNat_lt _
          generalize M[i].toNat = Y at *
          have e4 : ((Y : Nat) : Int).tmod 4 = ((Y % 4 : Nat) : Int) := by rw [Int.tmod_eq_emod_of_nonneg (by omega)]; omega
          have hr4 : Y % 4 < 4 := Nat.mod_lt _ (by decide)
          have hext := bkG_ext (Y % 4) hr4
          generalize Y % 4 = r at *
          have hcat := cat_one g (bkG r)
          have hsum : ¬ 9223372036854775807 < (txt g).size + (⟨#[bkG r]⟩ : ByteArray).size := by
            have z1 := txt_size g
            have z2 : (⟨#[bkG r]⟩ : ByteArray).size = 1 := rfl
            have := hg.out.1
            rw [z1, z2]; omega
          have hb4 : ¬ (⟨#[32, 9, 10, 13]⟩ : ByteArray).size < r + 1 := by show ¬ 4 < r + 1; omega
          have HG : Hid ((g ++ [bkG r]).length = i + 1 ∧ (g ++ [bkG r]).all isB = true) := Lib.hid ⟨by rw [List.length_append, hg.out.1]; rfl, by rw [List.all_append, hg.out.2]; simp [bkG_B]⟩
          clear hcell hg him
          go_wp2_with fail
          go_quiet (fail)
          have HBQ := Lib.hid (drewN_belowG HB.out nq)
          go_wp2_with fail
          go_roundw
          case rel => exact ⟨i + 1, g ++ [bkG r], by omega, by go_num, rfl, HG, HBQ⟩
          case measure => simp [intOf]; omega
        · have hltz : ¬ (i : Int) < (m : Int) := by omega
          have HG : Hid (g.length ≤ 20 ∧ g.all isB = true) := Lib.hid ⟨by rw [hg.out.1]; omega, hg.out.2⟩
          obtain ⟨W0, hW0⟩ : ∃ x, x = txt (g ++ [91]) := ⟨_, rfl⟩
          obtain ⟨W00, hW00⟩ : ∃ x, x = txt (g ++ [91] ++ g) := ⟨_, rfl⟩
          have hcat1 := cat_one g 91
          have hcat2 := cat_txt (g ++ [91]) g
          rw [← hW0] at hcat1 hcat2
          rw [← hW00] at hcat2
          have z1 := txt_size g
          have z2 := txt_size (g ++ [91])
          have z3 : (⟨#[91]⟩ : ByteArray).size = 1 := rfl
          have z4 : (g ++ [91]).length = g.length + 1 := by simp
          have hg1 := HG.out.1
          have hs1 : ¬ 9223372036854775807 < (txt g).size + (⟨#[91]⟩ : ByteArray).size := by rw [z1, z3]; omega
          have hs2 : ¬ 9223372036854775807 < W0.size + (txt g).size := by rw [hW0, z1, z2, z4]; omega
          have HVB : Hid (W00 = txt (g ++ [91] ++ g ++ gL g true (L.take 0))) := Lib.hid (by rw [hW00, List.take_zero, gL, List.append_nil])
          have HVA : Hid ((⟨#[91]⟩ : ByteArray) = txt (91 :: gL [] true (L.take 0))) := Lib.hid (by rw [List.take_zero, gL]; rfl)
          clear hg z1 z2 z3 z4 hg1 hW0 hW00
          obtain ⟨G, hG⟩ : ∃ G, G = txt g := ⟨_, rfl⟩
          rw [← hG] at hcat1 hcat2 hs1 hs2 ⊢
          have HGE := Lib.hid hG
          clear hG
          go_wp2_with fail
          clear hcat1 hcat2 hs1 hs2
          go_loopw [7, 8, 9] (fun va vb vi wr => ∃ (i : Nat) (Va Vb : ByteArray), i ≤ n ∧ vi = .int .i64 i ∧ va = .string Va ∧ vb = .string Vb ∧ Hid (Va = txt (91 :: gL [] true (L.take i))) ∧ Hid (Vb = txt (g ++ [91] ++ g ++ gL g true (L.take i))) ∧ Hid (Good (L.take i)) ∧ Hid (Below w.heap.size w wr)) (fun _ _ vi _ => n - (intOf vi).toNat)
          case atStart => exact ⟨0, _, _, Nat.zero_le _, rfl, rfl, rfl, HVA, HVB, Lib.hid (fun j hj => by rw [List.take_zero] at hj; cases hj), HB⟩
          case round =>
            clear HVA HVB HB hltz hlt hi
            obtain ⟨i, Va, Vb, hi, rfl, rfl, rfl, HVA, HVB, HGD, HB⟩ := hrel
            by_cases hlt : i < n
            · have hltz : (i : Int) < (n : Int) := by omega
              have hil : i < L.length := by rw [HN.out]; exact hlt
              obtain ⟨t, htt⟩ : ∃ t, t = L[i] := ⟨_, rfl⟩
              have hti : L[i]? = some t := by rw [htt]; exact List.getElem?_eq_getElem hil
              have htm : t ∈ L := by rw [htt]; exact List.getElem_mem hil
              obtain ⟨b, o, rfl, hat⟩ := sj_at HL.out hti
              have HAT := Lib.hid hat
              have HTI := Lib.hid hti
              have HTL := Lib.hid (HLIM.out t htm)
              obtain ⟨v0, v1, v2, v3, x0, x1, x2, x3, hjt⟩ := hat _ HB.out
              have HFW := Lib.hid (few_any P t _ _ hjt HTL.out)
              clear hat hti htm htt hil hjt
              go_wp2_with fail
              refine HFW.out.mono ?_
              rintro e w1 ⟨bf, rfl, hsm, hb⟩
              have HB1 := Lib.hid (HB.out.trans (hb.mono HB.out.size))
              have HSM := Lib.hid hsm
              clear hb hsm HFW x0 x1 x2 x3
              cases bf with
              | false =>
                go_wp2_with fail
                refine (HW.out _ HB1.out).mono ?_
                rintro e w2 ⟨rfl, hb⟩
                have HB2 := Lib.hid (HB1.out.trans (hb.mono HB1.out.size))
                clear hb
                go_wp2_with fail
                go_ret
                exact ⟨rfl, HB2.out⟩
              | true =>
                have HSZ := Lib.hid (HSM.out rfl)
                obtain ⟨v0, v1, v2, v3, x0, x1, x2, x3, hjt⟩ := HAT.out _ HB1.out
                have HPT := put_any P t _ _ (Nat.le_trans HSZ.out (by decide)) hjt (HF.out.below HB1.out)
                by_cases h0 : checkJ t = 0
                · rw [putJ_ok h0] at HPT
                  have HPT2 := Lib.hid HPT
                  have HG2 : Hid (Good (L.take (i + 1))) := Lib.hid (by rw [take_snoc HTI.out]; exact HGD.out.snoc HSZ.out h0)
                  have hsl := textJ_len t
                  have HSL : Hid ((textJ t).length ≤ 27000) := Lib.hid (by have := HSZ.out; omega)
                  clear hjt HPT h0 hsl
                  go_wp2_with fail
                  refine HPT2.out.mono ?_
                  rintro e w2 ⟨rfl, hb⟩
                  have HB2 := Lib.hid (HB1.out.trans (hb.mono HB1.out.size))
                  clear hb x0 x1 x2 x3 HPT2
                  have hgl := HG.out.1
                  have hit : (L.take i).length ≤ 20 := by rw [List.length_take]; omega
                  have hla := gL_lim (g := []) (by simp) hit HGD.out
                  have hlb := gL_lim hgl hit HGD.out
                  have hlt2 := HSL.out
                  by_cases hp : i = 0
                  · subst hp
                    have hpz : ¬ (0 : Int) < ((0 : Nat) : Int) := by omega
                    have hc1 : Va ++ txt (textJ t) = txt (91 :: gL [] true (L.take (0 + 1))) := by
                      rw [HVA.out, cat_txt, take_snoc HTI.out, gL_snoc, List.take_zero]; rfl
                    have hc2 : Vb ++ txt (textJ t) = txt (g ++ [91] ++ g ++ gL g true (L.take (0 + 1))) := by
                      rw [HVB.out, cat_txt, take_snoc HTI.out, gL_snoc, List.take_zero]; simp [List.append_assoc]
                    have hs1 : ¬ 9223372036854775807 < Va.size + (txt (textJ t)).size := by rw [HVA.out, txt_size, txt_size, List.length_cons]; omega
                    have hs2 : ¬ 9223372036854775807 < Vb.size + (txt (textJ t)).size := by rw [HVB.out, txt_size, txt_size]; simp only [List.length_append, List.length_cons, List.length_nil]; omega
                    generalize hW1 : txt (91 :: gL [] true (L.take (0 + 1))) = W1 at *
                    generalize hW2 : txt (g ++ [91] ++ g ++ gL g true (L.take (0 + 1))) = W2 at *
                    generalize txt (textJ t) = S at *
                    have H1 := Lib.hid hW1.symm
                    have H2 := Lib.hid hW2.symm
                    clear hgl hit hla hlb hlt2 hW1 hW2
                    go_wp2_with fail
                    go_roundw
                    case rel => exact ⟨0 + 1, W1, W2, by omega, by go_num, rfl, rfl, H1, H2, HG2, HB2⟩
                    case measure => simp [intOf]; omega
                  · have hpz : (0 : Int) < (i : Int) := by omega
                    have hne : (L.take i).isEmpty = false := by
                      rw [List.isEmpty_eq_false_iff]
                      intro h
                      have := congrArg List.length h
                      rw [List.length_take, HN.out] at this
                      simp only [List.length_nil] at this
                      omega
                    have hc0 : Va ++ (⟨#[44]⟩ : ByteArray) = txt (91 :: gL [] true (L.take i) ++ [44]) := by rw [HVA.out, cat_one]
                    have hc1 : txt (91 :: gL [] true (L.take i) ++ [44]) ++ txt (textJ t) = txt (91 :: gL [] true (L.take (i + 1))) := by
                      rw [cat_txt, take_snoc HTI.out, gL_snoc, hne]; simp [List.append_assoc]
                    have hc2 : Vb ++ G = txt (g ++ [91] ++ g ++ gL g true (L.take i) ++ g) := by rw [HVB.out, HGE.out, cat_txt]
                    have hc3 : txt (g ++ [91] ++ g ++ gL g true (L.take i) ++ g) ++ (⟨#[44]⟩ : ByteArray) = txt (g ++ [91] ++ g ++ gL g true (L.take i) ++ g ++ [44]) := by rw [cat_one]
                    have hc4 : txt (g ++ [91] ++ g ++ gL g true (L.take i) ++ g ++ [44]) ++ G = txt (g ++ [91] ++ g ++ gL g true (L.take i) ++ g ++ [44] ++ g) := by rw [HGE.out, cat_txt]
                    have hc5 : txt (g ++ [91] ++ g ++ gL g true (L.take i) ++ g ++ [44] ++ g) ++ txt (textJ t) = txt (g ++ [91] ++ g ++ gL g true (L.take (i + 1))) := by
                      rw [cat_txt, take_snoc HTI.out, gL_snoc, hne]; simp [List.append_assoc]
                    have hs0 : ¬ 9223372036854775807 < Va.size + (⟨#[44]⟩ : ByteArray).size := by rw [HVA.out, txt_size, show (⟨#[44]⟩ : ByteArray).size = 1 from rfl, List.length_cons]; omega
                    have hs1 : ¬ 9223372036854775807 < (txt (91 :: gL [] true (L.take i) ++ [44])).size + (txt (textJ t)).size := by rw [txt_size, txt_size]; simp only [List.length_append, List.length_cons, List.length_nil]; omega
                    have hs2 : ¬ 9223372036854775807 < Vb.size + G.size := by rw [HVB.out, HGE.out, txt_size, txt_size]; simp only [List.length_append, List.length_cons, List.length_nil]; omega
                    have hs3 : ¬ 9223372036854775807 < (txt (g ++ [91] ++ g ++ gL g true (L.take i) ++ g)).size + (⟨#[44]⟩ : ByteArray).size := by rw [txt_size, show (⟨#[44]⟩ : ByteArray).size = 1 from rfl]; simp only [List.length_append, List.length_cons, List.length_nil]; omega
                    have hs4 : ¬ 9223372036854775807 < (txt (g ++ [91] ++ g ++ gL g true (L.take i) ++ g ++ [44])).size + G.size := by rw [HGE.out, txt_size, txt_size]; simp only [List.length_append, List.length_cons, List.length_nil]; omega
                    have hs5 : ¬ 9223372036854775807 < (txt (g ++ [91] ++ g ++ gL g true (L.take i) ++ g ++ [44] ++ g)).size + (txt (textJ t)).size := by rw [txt_size, txt_size]; simp only [List.length_append, List.length_cons, List.length_nil]; omega
                    generalize hW1 : txt (91 :: gL [] true (L.take (i + 1))) = W1 at *
                    generalize hW2 : txt (g ++ [91] ++ g ++ gL g true (L.take (i + 1))) = W2 at *
                    generalize txt (91 :: gL [] true (L.take i) ++ [44]) = U1 at *
                    generalize txt (g ++ [91] ++ g ++ gL g true (L.take i) ++ g ++ [44] ++ g) = U4 at *
                    generalize txt (g ++ [91] ++ g ++ gL g true (L.take i) ++ g ++ [44]) = U3 at *
                    generalize txt (g ++ [91] ++ g ++ gL g true (L.take i) ++ g) = U2 at *
                    generalize txt (textJ t) = S at *
                    have H1 := Lib.hid hW1.symm
                    have H2 := Lib.hid hW2.symm
                    clear hgl hit hla hlb hlt2 hW1 hW2 hne hp
                    go_wp2_with fail
                    go_roundw
                    case rel => exact ⟨i + 1, W1, W2, by omega, by go_num, rfl, rfl, H1, H2, HG2, HB2⟩
                    case measure => simp [intOf]; omega
                · have hne : (((checkJ t : Nat) : Int) != 0) = true := by simp only [bne_iff_ne, ne_eq]; omega
                  have hpj : putJ t = ([], checkJ t) := by unfold putJ; rw [if_neg h0]
                  rw [hpj] at HPT
                  have HPT2 := Lib.hid HPT
                  generalize checkJ t = cj at *
                  clear hjt HPT h0 hpj
                  go_wp2_with fail
                  refine HPT2.out.mono ?_
                  rintro e w2 ⟨rfl, hb⟩
                  have HB2 := Lib.hid (HB1.out.trans (hb.mono HB1.out.size))
                  clear hb x0 x1 x2 x3 HPT2
                  go_wp2_with fail
                  refine (HW.out _ HB2.out).mono ?_
                  rintro e w3 ⟨rfl, hb⟩
                  have HB3 := Lib.hid (HB2.out.trans (hb.mono HB2.out.size))
                  clear hb
                  go_wp2_with fail
                  go_ret
                  exact ⟨rfl, HB3.out⟩
            · have hltz : ¬ (i : Int) < (n : Int) := by omega
              have htk : L.take i = L := List.take_of_length_le (by rw [HN.out]; omega)
              rw [htk] at HVA HVB HGD
              have hgl := HG.out.1
              have hit : L.length ≤ 20 := by rw [HN.out]; omega
              have hla := gL_lim (g := []) (by simp) hit HGD.out
              have hlb := gL_lim hgl hit HGD.out
              have hc1 : Va ++ (⟨#[93]⟩ : ByteArray) = txt (gapT [] L) := by
                rw [HVA.out, cat_one]; unfold gapT; simp
              have hc2 : Vb ++ G = txt (g ++ [91] ++ g ++ gL g true L ++ g) := by rw [HVB.out, HGE.out, cat_txt]
              have hc3 : txt (g ++ [91] ++ g ++ gL g true L ++ g) ++ (⟨#[93]⟩ : ByteArray) = txt (g ++ [91] ++ g ++ gL g true L ++ g ++ [93]) := by rw [cat_one]
              have hc4 : txt (g ++ [91] ++ g ++ gL g true L ++ g ++ [93]) ++ G = txt (gapT g L) := by rw [HGE.out, cat_txt]; rfl
              have hs1 : ¬ 9223372036854775807 < Va.size + (⟨#[93]⟩ : ByteArray).size := by rw [HVA.out, txt_size, show (⟨#[93]⟩ : ByteArray).size = 1 from rfl, List.length_cons]; omega
              have hs2 : ¬ 9223372036854775807 < Vb.size + G.size := by rw [HVB.out, HGE.out, txt_size, txt_size]; simp only [List.length_append, List.length_cons, List.length_nil]; omega
              have hs3 : ¬ 9223372036854775807 < (txt (g ++ [91] ++ g ++ gL g true L ++ g)).size + (⟨#[93]⟩ : ByteArray).size := by rw [txt_size, show (⟨#[93]⟩ : ByteArray).size = 1 from rfl]; simp only [List.length_append, List.length_cons, List.length_nil]; omega
              have hs4 : ¬ 9223372036854775807 < (txt (g ++ [91] ++ g ++ gL g true L ++ g ++ [93])).size + G.size := by rw [HGE.out, txt_size, txt_size]; simp only [List.length_append, List.length_cons, List.length_nil]; omega
              have hp1 := parse_gapT (g := []) rfl L HGD.out.fault
              have hp2 := parse_gapT HG.out.2 L HGD.out.fault
              have hz1 : (txt (gapT [] L)).size ≤ 1000000 := by rw [txt_size]; exact gapT_len (by simp) hit HGD.out.sz
              have hz2 : (txt (gapT g L)).size ≤ 1000000 := by rw [txt_size]; exact gapT_len hgl hit HGD.out.sz
              have hszA : szJ (.mk 5 [] [] L) ≤ 1000000 := by
                have := szL_small HGD.out.sz
                have h3 : L.length * 4500 ≤ 20 * 4500 := Nat.mul_le_mul_right _ hit
                rw [szJ_eq, szK]; simp only [List.length_nil]; omega
              cases hd : deepJ 64 (.mk 5 [] [] L) with
              | true =>
                rw [hd, if_pos rfl] at hp1 hp2
                have HP1 := Lib.hid (fun (W : World) (hb : Below w.heap.size w W) => jparse_not (txt (gapT [] L)) hz1 hp1 W (HF.out.below hb))
                have HP2 := Lib.hid (fun (W : World) (hb : Below w.heap.size w W) => jparse_not (txt (gapT g L)) hz2 hp2 W (HF.out.below hb))
                have HE := Lib.hid (equalJ_any 2 (.mk 0 [] [] []) (Nat.le_refl _) (by decide))
                generalize txt (gapT [] L) = T1 at *
                generalize txt (gapT g L) = T2 at *
                generalize txt (g ++ [91] ++ g ++ gL g true L ++ g ++ [93]) = U3 at *
                generalize txt (g ++ [91] ++ g ++ gL g true L ++ g) = U2 at *
                clear hla hlb hp1 hp2 hz1 hz2 hd hszA htk hgl hit
                go_wp2_with fail
                refine (HP1.out _ HB.out).mono ?_
                rintro e w1 ⟨rfl, hb⟩
                unfold zeroJ
                have hb2 := alloc_below w1 (.cells #[.int .i64 0, .string ⟨#[]⟩, .slice none 0 0, .slice none 0 0] 26)
                have HB2 := Lib.hid ((HB.out.trans (hb.mono HB.out.size)).trans (hb2.mono (HB.out.trans (hb.mono HB.out.size)).size))
                have HT2 := Lib.hid (alloc_top w1 #[.int .i64 0, .string ⟨#[]⟩, .slice none 0 0, .slice none 0 0] 26)
                obtain ⟨x0, x1, x2, x3⟩ := tok_cells HT2.out
                clear hb hb2
                go_wp2_with fail
                refine (HP2.out _ HB2.out).mono ?_
                rintro e w3 ⟨rfl, hb⟩
                unfold zeroJ
                have hb5 := alloc_below w3 (.cells #[.int .i64 0, .string ⟨#[]⟩, .slice none 0 0, .slice none 0 0] 26)
                have HB5 := Lib.hid ((HB2.out.trans (hb.mono HB2.out.size)).trans (hb5.mono (HB2.out.trans (hb.mono HB2.out.size)).size))
                have HT5 := Lib.hid (alloc_top w3 #[.int .i64 0, .string ⟨#[]⟩, .slice none 0 0, .slice none 0 0] 26)
                have HU5 := Lib.hid (heap_keep hb5 (heap_keep hb HT2.out))
                clear hb hb5 x0 x1 x2 x3
                obtain ⟨x0, x1, x2, x3⟩ := tok_cells HU5.out
                obtain ⟨y0, y1, y2, y3⟩ := tok_cells HT5.out
                have HZ5 := Lib.hid (HE.out (fun _ => True) (fun _ => True) _ _ _ (zero_in (w3.alloc (.cells #[.int .i64 0, .string ⟨#[]⟩, .slice none 0 0, .slice none 0 0] 26)) _) (zero_in _ _))
                unfold zeroJ at HZ5
                go_wp2_with fail
                refine HZ5.out.mono ?_
                rintro e w6 ⟨rfl, hb⟩
                have HB6 := Lib.hid (HB5.out.trans (hb.mono HB5.out.size))
                have HU6 := Lib.hid (heap_keep hb HU5.out)
                clear hb x0 x1 x2 x3 y0 y1 y2 y3 HZ5
                obtain ⟨x0, x1, x2, x3⟩ := tok_cells HU6.out
                go_wp2_with fail
                refine (HW.out _ HB6.out).mono ?_
                rintro e w9 ⟨rfl, hb⟩
                have HB9 := Lib.hid (HB6.out.trans (hb.mono HB6.out.size))
                clear hb
                go_wp2_with fail
                go_ret
                exact ⟨rfl, HB9.out⟩
              | false =>
                rw [hd, if_neg (by decide)] at hp1 hp2
                have HP1 := Lib.hid (fun (W : World) (hb : Below w.heap.size w W) => jparse_yes (txt (gapT [] L)) hz1 hp1 W (HF.out.below hb))
                have HP2 := Lib.hid (fun (W : World) (hb : Below w.heap.size w W) => jparse_yes (txt (gapT g L)) hz2 hp2 W (HF.out.below hb))
                have HE := Lib.hid (equalJ_any 1000000 (.mk 5 [] [] L) hszA (Nat.le_refl _))
                generalize txt (gapT [] L) = T1 at *
                generalize txt (gapT g L) = T2 at *
                generalize txt (g ++ [91] ++ g ++ gL g true L ++ g ++ [93]) = U3 at *
                generalize txt (g ++ [91] ++ g ++ gL g true L ++ g) = U2 at *
                clear hla hlb hp1 hp2 hz1 hz2 hd hszA htk hgl hit
                go_wp2_with fail
                refine (HP1.out _ HB.out).mono ?_
                rintro e w1 ⟨v, rfl, hj, hb⟩
                have hj1 := hj
                obtain ⟨ka, kc, ia, ic, rfl, -, -⟩ := hj1.open
                rw [HN.out] at hj ⊢
                have hb2 := alloc_below w1 (.cells #[.int .i64 5, .string (txt []), .slice ka ([] : List (List UInt8)).length kc, .slice ia n ic] 26)
                have HB2 := Lib.hid ((HB.out.trans (hb.mono HB.out.size)).trans (hb2.mono (HB.out.trans (hb.mono HB.out.size)).size))
                have HT2 := Lib.hid (alloc_top w1 #[.int .i64 5, .string (txt []), .slice ka ([] : List (List UInt8)).length kc, .slice ia n ic] 26)
                have HJ2 := Lib.hid (hj.below hb2)
                obtain ⟨x0, x1, x2, x3⟩ := tok_cells HT2.out
                clear hj hb hb2 hj1
                go_wp2_with fail
                refine (HP2.out _ HB2.out).mono ?_
                rintro e w3 ⟨v, rfl, hj, hb⟩
                obtain ⟨k2, s2, A2, n2, c2, B2, m2, e2, rfl⟩ := jin_form hj
                have hb5 := alloc_below w3 (.cells #[.int .i64 k2, .string s2, .slice A2 n2 c2, .slice B2 m2 e2] 26)
                have HB5 := Lib.hid ((HB2.out.trans (hb.mono HB2.out.size)).trans (hb5.mono (HB2.out.trans (hb.mono HB2.out.size)).size))
                have HT5 := Lib.hid (alloc_top w3 #[.int .i64 k2, .string s2, .slice A2 n2 c2, .slice B2 m2 e2] 26)
                have HU5 := Lib.hid (heap_keep hb5 (heap_keep hb HT2.out))
                have HJ5 := Lib.hid ((HJ2.out.below hb).below hb5)
                have HQ5 := Lib.hid (hj.below hb5)
                clear hj hb hb5 x0 x1 x2 x3
                obtain ⟨x0, x1, x2, x3⟩ := tok_cells HU5.out
                obtain ⟨y0, y1, y2, y3⟩ := tok_cells HT5.out
                go_wp2_with fail
                refine (HE.out _ _ _ _ _ HJ5.out HQ5.out).mono ?_
                rintro e w6 ⟨rfl, hb⟩
                have HB6 := Lib.hid (HB5.out.trans (hb.mono HB5.out.size))
                have HU6 := Lib.hid (heap_keep hb HU5.out)
                clear hb x0 x1 x2 x3 y0 y1 y2 y3
                obtain ⟨x0, x1, x2, x3⟩ := tok_cells HU6.out
                go_wp2_with fail
                refine (HW.out _ HB6.out).mono ?_
                rintro e w9 ⟨rfl, hb⟩
                have HB9 := Lib.hid (HB6.out.trans (hb.mono HB6.out.size))
                clear hb
                go_wp2_with fail
                go_ret
                exact ⟨rfl, HB9.out⟩
end Go.Proofs.YtmkjoonbjmieoaaDoor
namespace Go.Proofs.YtmkjoonbjmieoaaDoor
open Go.ChangeShapes Go.WideShapes Go.RowKit

instance : Inhabited J := ⟨.mk 0 [] [] []⟩
abbrev TJ : Nat → Prop := fun _ => True
theorem limL_of : ∀ l : List J, (∀ t ∈ l, LimJ t) → LimL l
  | [], _ => by rw [LimL]; trivial
  | j :: l, h => by
    rw [LimL]
    exact ⟨h j List.mem_cons_self, limL_of l fun t ht => h t (List.mem_cons_of_mem _ ht)⟩
section
variable {H : Type} {enc : TypeId × Value → H} {w : World} {base : Nat} {sp : Nat → Bool} {held : Bool}
theorem txt_of (s : ByteArray) : txt s.data.toList = s := by unfold txt; simp
set_option maxRecDepth 100000 in
theorem open_jvalL : ∀ (f : Nat) (fuel : Nat) (cs : List Value) (x : DataW H × List MemPlace), fuel ≤ f → DataW.trod enc Tryd.prog w base sp held fuel 26 cs = some x →
    ∃ (j : J) (v0 v1 v2 v3 : Value), cs = [v0, v1, v2, v3] ∧ JIn w TJ j (.agg #[v0, v1, v2, v3]) ∧ LimJ j := by
  have c3 : Tryd.prog.cellsOf 3 = 1 := by kernel_rfl
  have c9 : Tryd.prog.cellsOf 9 = 1 := by kernel_rfl
  have c22 : Tryd.prog.cellsOf 24 = 1 := by kernel_rfl
  have c23 : Tryd.prog.cellsOf 23 = 1 := by kernel_rfl
  have c24 : Tryd.prog.cellsOf 26 = 4 := by kernel_rfl
  intro f
  induction f with
  | zero =>
    intro fuel cs x hf h
    obtain rfl : fuel = 0 := by omega
    simp [DataW.trod] at h
  | succ f ih =>
    intro fuel cs x hf h
    obtain ⟨xs, n, rfl, -, hl, hxl, hfd⟩ := DataW.trod_struct Tryd.underlying26 h
    rw [c24] at hl
    match cs, hl, xs, hxl with
    | [v0, v1, v2, v3], _, [y0, y1, y2, y3], _ =>
      have g0 := hfd 0 _ rfl
      have g1 := hfd 1 _ rfl
      have g2 := hfd 2 _ rfl
      have g3 := hfd 3 _ rfl
      simp [c3, c9, c22, c23] at g0 g1 g2 g3
      obtain ⟨z0, e0, -, -⟩ := DataW.trod_int Tryd.underlying3 g0
      obtain ⟨s, e1, -, hs⟩ := DataW.trod_string Tryd.underlying9 g1
      simp only [List.cons.injEq, and_true] at e0 e1
      subst e0 e1
      have hs' : s.data.toList.length ≤ 9223372036854775807 := by
        have : s.data.toList.length = s.size := rfl
        unfold maxLen at hs; omega
      obtain ⟨ka, kn, kc, ks, e2, hkn, hkl, hkx, hkin⟩ : ∃ (ka : Option Addr) (kn kc : Nat) (ks : List (List UInt8)), v2 = .slice ka kn kc ∧ kn = ks.length ∧ ks.length ≤ 9223372036854775807 ∧ (∀ x ∈ ks, x.length ≤ 9223372036854775807) ∧ KIn w TJ ka ks := by
        rcases DataW.trod_slice Tryd.underlying23 g2 with ⟨e5, -⟩ | ⟨a, len, cap, elems, rest, m, rfl, e5, -, -, hlc, hcm, hel, hx, -, -⟩
        · simp only [List.cons.injEq, and_true] at e5
          exact ⟨none, 0, 0, [], e5, rfl, by simp, fun x hx => (by cases hx), fun h => absurd h (Nat.lt_irrefl 0)⟩
        · simp only [List.cons.injEq, and_true] at e5
          have each : ∀ i, i < len → ∃ t : List UInt8, w.cell? (a.add i) = some (.string (txt t)) ∧ t.length ≤ 9223372036854775807 := by
            intro i hi
            have h1 := hx i hi
            rw [c9, List.getElem?_eq_getElem (by omega)] at h1
            obtain ⟨ds, h2, h3⟩ := Option.bind_eq_some_iff.1 h1
            obtain ⟨-, hlen, hcell⟩ := World.cells?_some h2
            obtain ⟨t, e, -, ht⟩ := DataW.trod_string Tryd.underlying9 h3
            subst e
            have k0 := hcell 0 (by omega)
            rw [Deep.add_add] at k0
            refine ⟨t.data.toList, ?_, ?_⟩
            · rw [txt_of]; simpa using k0
            · have : t.data.toList.length = t.size := rfl
              unfold maxLen at ht; omega
          obtain ⟨Sx, hS⟩ := Deep.choose_lt each
          have hll : ((List.range len).map Sx).length = len := by simp
          refine ⟨some a, len, cap, (List.range len).map Sx, e5, hll.symm, by rw [hll]; unfold maxLen at hcm; omega, fun x hx => ?_, fun hp => ?_⟩
          · obtain ⟨i, hi, rfl⟩ := List.mem_map.1 hx
            exact (hS i (List.mem_range.1 hi)).2
          · obtain ⟨b, o, p⟩ := a
            obtain ⟨h0, _⟩ := hS 0 (by omega)
            have hs0 : p = none := by simpa [Addr.add] using World.cell?_spot h0
            subst hs0
            refine ⟨b, o, rfl, trivial, fun i x hi => ?_⟩
            rw [List.getElem?_map] at hi
            by_cases hjl : i < len
            · rw [List.getElem?_range hjl] at hi
              obtain rfl : Sx i = x := by simpa using hi
              have := (hS i hjl).1
              rwa [Addr.add_lit] at this
            · rw [List.getElem?_eq_none (by simp; omega)] at hi
              cases hi
      obtain ⟨ia, il, ic, l, e3, hil, hll0, hlim, hsj⟩ : ∃ (ia : Option Addr) (il ic : Nat) (l : List J), v3 = .slice ia il ic ∧ il = l.length ∧ l.length ≤ 9223372036854775807 ∧ LimL l ∧ (0 < l.length → ∃ b o, ia = some ⟨b, o, none⟩ ∧ TJ b ∧ LIn w TJ b o l) := by
        rcases DataW.trod_slice Tryd.underlying24 g3 with ⟨e5, -⟩ | ⟨a, len, cap, elems, rest, m, rfl, e5, -, -, hlc, hcm, hel, hx, -, -⟩
        · simp only [List.cons.injEq, and_true] at e5
          exact ⟨none, 0, 0, [], e5, rfl, by simp, limL_of [] (fun t ht => (by cases ht)), fun h => absurd h (Nat.lt_irrefl 0)⟩
        · simp only [List.cons.injEq, and_true] at e5
          have each : ∀ i, i < len → ∃ T : J, ∃ v0 v1 v2 v3, w.cell? (a.add (i * 4)) = some v0 ∧ w.cell? (a.add (i * 4 + 1)) = some v1 ∧ w.cell? (a.add (i * 4 + 2)) = some v2 ∧ w.cell? (a.add (i * 4 + 3)) = some v3 ∧ JIn w TJ T (.agg #[v0, v1, v2, v3]) ∧ LimJ T := by
            intro i hi
            have h1 := hx i hi
            rw [c24, List.getElem?_eq_getElem (by omega)] at h1
            obtain ⟨ds, h2, h3⟩ := Option.bind_eq_some_iff.1 h1
            obtain ⟨-, hlen, hcell⟩ := World.cells?_some h2
            obtain ⟨T, u0, u1, u2, u3, rfl, hn, hL⟩ := ih _ _ _ (by omega) h3
            have k0 := hcell 0 (by omega)
            have k1 := hcell 1 (by omega)
            have k2 := hcell 2 (by omega)
            have k3 := hcell 3 (by omega)
            rw [Deep.add_add] at k0 k1 k2 k3
            exact ⟨T, u0, u1, u2, u3, by simpa using k0, by simpa using k1, by simpa using k2, by simpa using k3, hn, hL⟩
          obtain ⟨Sx, hS⟩ := Deep.choose_lt each
          have hll : ((List.range len).map Sx).length = len := by simp
          refine ⟨some a, len, cap, (List.range len).map Sx, e5, hll.symm, by rw [hll]; unfold maxLen at hcm; omega, limL_of _ (fun t ht => ?_), fun hp => ?_⟩
          · obtain ⟨i, hi, rfl⟩ := List.mem_map.1 ht
            obtain ⟨_, _, _, _, _, _, _, _, _, hL⟩ := hS i (List.mem_range.1 hi)
            exact hL
          · obtain ⟨b, o, p⟩ := a
            obtain ⟨_, _, _, _, h0, _⟩ := hS 0 (by omega)
            have hs0 : p = none := by simpa [Addr.add] using World.cell?_spot h0
            subst hs0
            refine ⟨b, o, rfl, trivial, lin_of_row _ o fun i T hi => ?_⟩
            rw [List.getElem?_map] at hi
            by_cases hjl : i < len
            · rw [List.getElem?_range hjl] at hi
              obtain rfl : Sx i = T := by simpa using hi
              obtain ⟨u0, u1, u2, u3, h0, h1, h2, h3, hn, -⟩ := hS i hjl
              rw [Addr.add_lit] at h0 h1 h2 h3
              exact ⟨u0, u1, u2, u3, h0, h1, h2, h3, hn⟩
            · rw [List.getElem?_eq_none (by simp; omega)] at hi
              cases hi
      subst e2 e3 hkn hil
      refine ⟨.mk z0 s.data.toList ks l, _, _, _, _, rfl, ?_, ?_⟩
      · have := JIn.shut (k := z0) (s := s.data.toList) (kc := kc) (ic := ic) hkin hsj
        rwa [txt_of] at this
      · rw [LimJ]
        exact ⟨hs', hkl, hkx, hll0, hlim⟩
set_option maxRecDepth 100000 in
/-- An argument of type api.JValue: a value. -/
theorem open_jval {r : Reach} {b0 : Nat} {v : Value} {d : DataW H} {p : List MemPlace} (hv : Value.okWide Tryd.prog w r b0 26 v) (h : DataW.Trod enc Tryd.prog w base sp held 26 v d p) : ∃ j : J, LimJ j ∧ JIn w TJ j v := by
  obtain ⟨cs, rfl, -⟩ := okWide_struct Tryd.underlying26 hv
  obtain ⟨fuel, hf⟩ := h
  obtain ⟨j, v0, v1, v2, v3, e, hn, hL⟩ := open_jvalL fuel fuel _ _ (Nat.le_refl _) hf
  have hcs : cs = #[v0, v1, v2, v3] := by
    have : cs.toList = [v0, v1, v2, v3] := by simpa [Value.cells] using e
    rw [← Array.toArray_toList (xs := cs), this]
  exact ⟨j, hL, by rw [hcs]; exact hn⟩
end
end Go.Proofs.YtmkjoonbjmieoaaDoor
namespace Go.Proofs.YtmkjoonbjmieoaaDoor
open Go.ChangeShapes Go.WideShapes Go.RowKit

section
variable {H : Type} {enc : TypeId × Value → H} {w : World} {base : Nat} {sp : Nat → Bool} {held : Bool}
set_option maxRecDepth 100000 in
theorem open_jvals {a0 : Option Addr} {len cap : Nat} {d : DataW H} {ps : List MemPlace} (h : DataW.Trod enc Tryd.prog w base sp held 24 (.slice a0 len cap) d ps) : ∃ l : List J, len = l.length ∧ (∀ t ∈ l, LimJ t) ∧ SJ w TJ l a0 := by
  have c24 : Tryd.prog.cellsOf 26 = 4 := by kernel_rfl
  obtain ⟨fuel, hf⟩ := h
  have hf' : DataW.trod enc Tryd.prog w base sp held fuel 24 [.slice a0 len cap] = some (d, ps) := hf
  rcases DataW.trod_slice Tryd.underlying24 hf' with ⟨e5, -⟩ | ⟨a, len', cap', elems, rest, m, rfl, e5, -, -, hlc, hcm, hel, hx, -, -⟩
  · simp only [List.cons.injEq, and_true, Value.slice.injEq] at e5
    obtain ⟨rfl, rfl, rfl⟩ := e5
    exact ⟨[], rfl, fun t ht => (by cases ht), fun h => absurd h (Nat.lt_irrefl 0)⟩
  · simp only [List.cons.injEq, and_true, Value.slice.injEq] at e5
    obtain ⟨rfl, rfl, rfl⟩ := e5
    have each : ∀ i, i < len → ∃ T : J, ∃ v0 v1 v2 v3, w.cell? (a.add (i * 4)) = some v0 ∧ w.cell? (a.add (i * 4 + 1)) = some v1 ∧ w.cell? (a.add (i * 4 + 2)) = some v2 ∧ w.cell? (a.add (i * 4 + 3)) = some v3 ∧ JIn w TJ T (.agg #[v0, v1, v2, v3]) ∧ LimJ T := by
      intro i hi
      have h1 := hx i hi
      rw [c24, List.getElem?_eq_getElem (by omega)] at h1
      obtain ⟨ds, h2, h3⟩ := Option.bind_eq_some_iff.1 h1
      obtain ⟨-, hlen, hcell⟩ := World.cells?_some h2
      obtain ⟨T, u0, u1, u2, u3, rfl, hn, hL⟩ := open_jvalL _ _ _ _ (Nat.le_refl _) h3
      have k0 := hcell 0 (by omega)
      have k1 := hcell 1 (by omega)
      have k2 := hcell 2 (by omega)
      have k3 := hcell 3 (by omega)
      rw [Deep.add_add] at k0 k1 k2 k3
      exact ⟨T, u0, u1, u2, u3, by simpa using k0, by simpa using k1, by simpa using k2, by simpa using k3, hn, hL⟩
    obtain ⟨Sx, hS⟩ := Deep.choose_lt each
    have hll : ((List.range len).map Sx).length = len := by simp
    refine ⟨(List.range len).map Sx, hll.symm, fun t ht => ?_, fun hp => ?_⟩
    · obtain ⟨i, hi, rfl⟩ := List.mem_map.1 ht
      obtain ⟨_, _, _, _, _, _, _, _, _, hL⟩ := hS i (List.mem_range.1 hi)
      exact hL
    · obtain ⟨b, o, p⟩ := a
      obtain ⟨_, _, _, _, h0, _⟩ := hS 0 (by omega)
      have hs0 : p = none := by simpa [Addr.add] using World.cell?_spot h0
      subst hs0
      refine ⟨b, o, rfl, trivial, lin_of_row _ o fun i T hi => ?_⟩
      rw [List.getElem?_map] at hi
      by_cases hjl : i < len
      · rw [List.getElem?_range hjl] at hi
        obtain rfl : Sx i = T := by simpa using hi
        obtain ⟨u0, u1, u2, u3, h0, h1, h2, h3, hn, -⟩ := hS i hjl
        rw [Addr.add_lit] at h0 h1 h2 h3
        exact ⟨u0, u1, u2, u3, h0, h1, h2, h3, hn⟩
      · rw [List.getElem?_eq_none (by simp; omega)] at hi
        cases hi
end
theorem open_bytes {H : Type} {enc : TypeId × Value → H} {P : Program} {w : World} {base : Nat} {sp : Nat → Bool} {held : Bool} {t e : TypeId} {a0 : Option Addr} {len cap : Nat} {d : DataW H} {ps : List MemPlace}
    (ht : P.underlying t = some (.slice e)) (he : P.underlying e = some (.int .u8)) (hc : P.cellsOf e = 1) (h : DataW.Trod enc P w base sp held t (.slice a0 len cap) d ps) : ∃ M : List UInt8, len = M.length ∧ BRd w a0 M := by
  obtain ⟨fuel, hf⟩ := h
  have hf' : DataW.trod enc P w base sp held fuel t [.slice a0 len cap] = some (d, ps) := hf
  rcases open_ints ht he hc hf' with ⟨hcs, _⟩ | ⟨a, len', cap', zs, hcs, _, hl, _, hz, _, hcell, hwz⟩
  · simp only [List.cons.injEq, Value.slice.injEq, and_true] at hcs
    exact ⟨[], hcs.2.1, fun hp => absurd hp (by simp)⟩
  · simp only [List.cons.injEq, Value.slice.injEq, and_true] at hcs
    obtain ⟨rfl, rfl, rfl⟩ := hcs
    have hlz : len ≤ zs.length := by rw [hz]; split <;> omega
    refine ⟨(zs.take len).map (fun z => UInt8.ofNat z.toNat), by simp; omega, fun hp => ?_⟩
    have hlen0 : 0 < len := by
      rw [List.length_map, List.length_take] at hp; omega
    obtain ⟨b, o, sp⟩ := a
    have h0 := hcell 0 (by omega)
    have hs0 : sp = none := by simpa [Addr.add] using World.cell?_spot h0
    subst hs0
    refine ⟨b, o, rfl, fun j c hj => ?_⟩
    rw [List.getElem?_map] at hj
    cases hzj : (zs.take len)[j]? with
    | none => rw [hzj] at hj; cases hj
    | some z =>
      rw [hzj] at hj
      obtain rfl : UInt8.ofNat z.toNat = c := by simpa using hj
      rw [List.getElem?_take] at hzj
      split at hzj
      · have hjl : j < zs.length := (List.getElem?_eq_some_iff.1 hzj).1
        have hcj := hcell j hjl
        have hw := hwz z (List.mem_of_getElem? hzj)
        have hzb : 0 ≤ z ∧ z ≤ 255 := by
          unfold Lit.wf at hw
          rw [Bool.and_eq_true, decide_eq_true_eq, decide_eq_true_eq] at hw
          exact hw
        have hgd : zs.getD j 0 = z := by rw [List.getD_eq_getElem?_getD, hzj]; rfl
        rw [hgd] at hcj
        have hadd : (⟨b, o, none⟩ : Addr).add j = ⟨b, o + j, none⟩ := add_plain _ _ _
        rw [hadd] at hcj
        rw [hcj, ofNat_toNat z.toNat (by omega)]
        congr 2
        omega
      · cases hzj
theorem jsonBlanks_law (A0 : Option Addr) (L : List J) (c0 : Nat) (A1 : Option Addr) (M : List UInt8) (c1 : Nat) (w : World) (h0 : (∀ t ∈ L, LimJ t) ∧ SJ w TJ L A0) (h1 : BRd w A1 M) (hF : Facts w) : Calls Tryd.prog 4 #[.slice A0 L.length c0, .slice A1 M.length c1] w fun e w' => e = .returned (.bool true) ∧ Below w.heap.size w w' := jsonBlanks_walk TJ A0 L c0 A1 M c1 w h0.1 h0.2 h1 hF
end Go.Proofs.YtmkjoonbjmieoaaDoor
