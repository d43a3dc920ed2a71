/-
  strconv.ParseUint AT FOUR BYTES, base 16, 16 bits, and jtext's unitAt AT EVERY TEXT of at most 1000000 bytes, from every place of it: what they return; no memory that was there turns. Condition: strconv.ErrSyntax holds an interface value (Facts); the text's length.
-/
import Derived.Test.YtmkjoonbjmieoaaDoorQUnit
namespace Go.Proofs.YtmkjoonbjmieoaaDoor
open Go.RowKit

theorem parse_yes (t : ByteArray) (h4 : t.size = 4) (n : Nat) (hn : hexN 0 t.data.toList = some n) (w : World) :
    Calls Tryd.prog 75 #[.string t, .int .i64 16, .int .i64 16] w fun e w' => e = .returned (.tuple #[.int .u64 (n : Int), .nilIface]) ∧ Below w.heap.size w w' := by
  have HC := Lib.hid (inner_any t h4 w)
  rw [hn] at HC
  unfold innerV at HC
  clear hn h4
  go_enter Tryd.func75, Tryd.ntmps75
  go_wp2_with fail
  refine HC.out.mono ?_
  rintro e w' ⟨rfl, hb⟩
  have HB := Lib.hid hb
  clear hb
  go_wp2_with fail
  go_ret2
  exact ⟨rfl, HB.out⟩
theorem parse_no (t : ByteArray) (h4 : t.size = 4) (hn : hexN 0 t.data.toList = none) (w : World) (hF : Facts w) :
    Calls Tryd.prog 75 #[.string t, .int .i64 16, .int .i64 16] w fun e w' => ∃ N, e = .returned (.tuple #[.int .u64 0, .iface 118 (.pointer (some ⟨N, 0, none⟩))]) ∧ Below w.heap.size w w' := by
  have HC := Lib.hid (inner_any t h4 w)
  rw [hn] at HC
  unfold innerV at HC
  have HF := Lib.hid hF
  have HS : Hid (t.size ≤ 281474976710656) := Lib.hid (by omega)
  clear hn h4 hF
  go_enter Tryd.func75, Tryd.ntmps75
  go_wp2_with fail
  refine HC.out.mono ?_
  rintro e w1 ⟨rfl, hb⟩
  obtain ⟨ev, he1, he2⟩ := (HF.out.below hb).syn
  have HE := Lib.hid (Tryd.strconv_toError_syntax ⟨#[80, 97, 114, 115, 101, 85, 105, 110, 116]⟩ t 16 16 ev w1 HS.out he1 he2)
  have HB := Lib.hid hb
  clear hb he1 he2
  go_wp2_with fail
  refine HE.out.mono ?_
  rintro e w2 ⟨N, rfl, _, _, hb2⟩
  have HB2 := Lib.hid (HB.out.trans (hb2.mono HB.out.size))
  clear hb2
  go_wp2_with fail
  go_ret2
  exact ⟨N, rfl, HB2.out⟩
/-- The number of a backslash, a u and four hex digits that a text begins with. -/
def unitB (l : List UInt8) : Option Nat := if fst (is1 92) l then unitU (l.drop 1) else none
def unitV : Option Nat → Value
  | some n => .tuple #[.int .i32 (n : Int), .bool true]
  | none => .tuple #[.int .i32 0, .bool false]
theorem unitV_some (n : Nat) : unitV (some n) = .tuple #[.int .i32 (n : Int), .bool true] := rfl
theorem drewN_below {B : Nat} {a w : World} (h : Below B a w) (n : Nat) : Below B a (w.drewN n) := h.trans ⟨rfl, rfl, rfl, Nat.le_refl _, fun _ _ => rfl⟩
theorem is1_iff (d c : UInt8) : is1 d c = (c == d) := by unfold is1; rw [Bool.eq_iff_iff]; simp
set_option maxHeartbeats 1000000 in
theorem unitAt_any (s : ByteArray) (k : Nat) (hk : k ≤ s.size) (hs : s.size ≤ 1000000) (w : World) (hF : Facts w) :
    Calls Tryd.prog 72 #[.string s, .int .i64 k] w fun e w' => e = .returned (unitV (unitB (rest s k))) ∧ Below w.heap.size w w' := by
  by_cases h6 : s.size < k + 6
  · have e : unitB (rest s k) = none := by
      unfold unitB
      split
      · cases hu : unitU ((rest s k).drop 1) with
        | none => rfl
        | some m => have := unitU_lt hu; rw [rest_drop, rest_len] at this; omega
      · rfl
    rw [e]
    unfold unitV
    have d1 : decide ((s.size : Int) - (k : Int) < 6) = true := by simp; omega
    clear e hF
    go_enter Tryd.func72, Tryd.ntmps72
    go_wp2_with fail
    go_ret2
    exact ⟨rfl, Below.refl _ _⟩
  · have d1 : decide ((s.size : Int) - (k : Int) < 6) = false := by simp; omega
    have h0 : k < s.size := by omega
    have h1 : k + 1 < s.size := by omega
    by_cases hc : s[k].toNat = 92
    · have hc2 : (((s[k].toNat : Nat) : Int) != 92) = false := by simp [hc]
      by_cases hu : s[k + 1].toNat = 117
      · have hu2 : (((s[k + 1].toNat : Nat) : Int) != 117) = false := by simp [hu]
        have e : unitB (rest s k) = hexN 0 (s.extract (k + 2) (k + 6)).data.toList := by
          unfold unitB
          rw [fst_at _ s k h0, is1_iff, if_pos (by rw [beq_iff_eq]; exact UInt8.toNat_inj.1 hc)]
          unfold unitU
          rw [rest_drop, fst_at _ s (k + 1) h1, is1_iff, if_pos (by rw [beq_iff_eq]; exact UInt8.toNat_inj.1 hu)]
          unfold hex4
          rw [rest_drop, rest_len, if_neg (by omega)]
          have := extract_take s (k + 2) 4
          rw [show k + 2 + 4 = k + 6 from rfl] at this
          rw [this]
        rw [e]
        have hz : (s.extract (k + 2) (k + 6)).size = 4 := by
          rw [Lib.size_eq, Lib.extract_data, List.length_take, List.length_drop]
          have : s.data.toList.length = s.size := rfl
          omega
        clear e hc hu
        cases hx : hexN 0 (s.extract (k + 2) (k + 6)).data.toList with
        | none =>
          have HP := Lib.hid (parse_no _ hz hx w hF)
          unfold unitV
          clear hx hz hF
          go_enter Tryd.func72, Tryd.ntmps72
          go_wp2_with fail
          refine HP.out.mono ?_
          rintro e w1 ⟨N, rfl, hb⟩
          have HB := Lib.hid hb
          clear hb HP
          go_wp2_with fail
          go_quiet (fail)
          go_wp2_with fail
          go_ret2
          exact ⟨rfl, drewN_below HB.out _⟩
        | some n =>
          have HP := Lib.hid (parse_yes _ hz n hx w)
          have hn : (n : Int) < 65536 := by
            have h2 := hexN_lt _ _ _ hx
            have h3 : (s.extract (k + 2) (k + 6)).data.toList.length = 4 := by rw [← Lib.size_eq]; exact hz
            rw [h3] at h2
            omega
          have hn0 : 0 ≤ (n : Int) := by omega
          rw [unitV_some]
          clear hx hz hF
          generalize (n : Int) = z at *
          go_enter Tryd.func72, Tryd.ntmps72
          go_wp2_with fail
          refine HP.out.mono ?_
          rintro e w1 ⟨rfl, hb⟩
          have HB := Lib.hid hb
          clear hb HP
          go_wp2_with fail
          go_quiet (fail)
          go_wp2_with fail
          go_ret2
          exact ⟨rfl, drewN_below HB.out _⟩
      · have hu2 : (((s[k + 1].toNat : Nat) : Int) != 117) = true := by simp; omega
        have e : unitB (rest s k) = none := by
          unfold unitB
          rw [fst_at _ s k h0, is1_iff, if_pos (by rw [beq_iff_eq]; exact UInt8.toNat_inj.1 hc)]
          unfold unitU
          rw [rest_drop, fst_at _ s (k + 1) h1, is1_iff, if_neg (by rw [beq_iff_eq]; intro h; exact hu (by rw [h]; rfl))]
        rw [e]
        unfold unitV
        clear e hc hu hF
        go_enter Tryd.func72, Tryd.ntmps72
        go_wp2_with fail
        go_ret2
        exact ⟨rfl, Below.refl _ _⟩
    · have hc2 : (((s[k].toNat : Nat) : Int) != 92) = true := by simp; omega
      have e : unitB (rest s k) = none := by
        unfold unitB
        rw [fst_at _ s k h0, is1_iff, if_neg (by rw [beq_iff_eq]; intro h; exact hc (by rw [h]; rfl))]
      rw [e]
      unfold unitV
      clear e hc hF
      go_enter Tryd.func72, Tryd.ntmps72
      go_wp2_with fail
      go_ret2
      exact ⟨rfl, Below.refl _ _⟩
end Go.Proofs.YtmkjoonbjmieoaaDoor
