/-
  utf's unitsOf, Units, Byte, UnitsAt AT EVERY TEXT of at most 1000000 bytes: what they return (units, byteAt, unitsAt of its bytes); no memory that was there turns. Condition: the text's length.
-/
import Derived.Test.YtpphkkelikdhkaaDoorKit
namespace Go.Proofs.YtpphkkelikdhkaaDoor
open Go.RowKit

/-- The units of a rune. -/
def uR (r : Int) : Int := if 65535 < r then 2 else 1
theorem uR_12 (r : Int) : 1 ≤ uR r ∧ uR r ≤ 2 := by unfold uR; split <;> omega
theorem unitsOf_any (r : Int) (w : World) : Calls Tryd.prog 96 #[.int .i32 r] w fun e w' => e = .returned (.int .i64 (uR r)) ∧ w = w' := by
  by_cases h : 65535 < r
  · have e : uR r = 2 := by unfold uR; rw [if_pos h]
    rw [e]
    clear e
    go_enter Tryd.func96, Tryd.ntmps96
    go_wp2
    go_ret
    exact ⟨rfl, rfl⟩
  · have e : uR r = 1 := by unfold uR; rw [if_neg h]
    rw [e]
    clear e
    go_enter Tryd.func96, Tryd.ntmps96
    go_wp2
    go_ret
    exact ⟨rfl, rfl⟩
/-- The bytes from a place on. -/
def rest (s : ByteArray) (k : Nat) : List UInt8 := s.data.toList.drop k
theorem rest_zero (s : ByteArray) : rest s 0 = s.data.toList := List.drop_zero
theorem rest_len (s : ByteArray) (k : Nat) : (rest s k).length = s.size - k := by unfold rest; rw [List.length_drop]; rfl
theorem rest_ne (s : ByteArray) (k : Nat) (h : k < s.size) : rest s k ≠ [] := by
  intro e
  have := rest_len s k
  rw [e] at this
  simp at this
  omega
theorem rest_end (s : ByteArray) (k : Nat) (h : ¬ k < s.size) : rest s k = [] := by
  apply List.eq_nil_of_length_eq_zero
  rw [rest_len]
  omega
theorem rest_next (s : ByteArray) (k : Nat) : (rest s k).drop (wd (rest s k)) = rest s (k + wd (rest s k)) := by
  rw [rest, List.drop_drop]
  rfl
theorem rest_wd (s : ByteArray) (k : Nat) (h : k < s.size) : 1 ≤ wd (rest s k) ∧ k + wd (rest s k) ≤ s.size := by
  have h1 := wd_pos (rest s k)
  have h2 := wd_le _ (rest_ne s k h)
  rw [rest_len] at h2
  omega
theorem decode_rest (s : ByteArray) (k : Nat) : Utf8.decode s k = if pt (rest s k) < 0 then (65533, 1) else ((pt (rest s k)).toNat, wd (rest s k)) := decode_pt s k
theorem decode_wd (s : ByteArray) (k : Nat) : (Utf8.decode s k).2 = wd (rest s k) := by
  rw [decode_rest]
  by_cases h : pt (rest s k) < 0
  · rw [if_pos h, (pt_neg _ h).2]
  · rw [if_neg h]
theorem decode_un (s : ByteArray) (k : Nat) : uR ((Utf8.decode s k).1 : Int) = un (rest s k) := by
  have hg := pt_ge (rest s k)
  rw [decode_rest]
  by_cases h : pt (rest s k) < 0
  · rw [if_pos h]
    have := (pt_neg _ h).1
    unfold un uR
    show (if (65535 : Int) < ((65533 : Nat) : Int) then (2 : Int) else 1) = _
    rw [if_neg (by decide), if_neg (by omega)]
    rfl
  · rw [if_neg h]
    unfold un uR
    show (if (65535 : Int) < (((pt (rest s k)).toNat : Nat) : Int) then (2 : Int) else 1) = _
    rw [Int.toNat_of_nonneg (by omega)]
    by_cases h2 : 65535 < pt (rest s k)
    · rw [if_pos h2, if_pos h2]; rfl
    · rw [if_neg h2, if_neg h2]; rfl
theorem next_any (w : World) (s : ByteArray) (pos : Nat) (hp : pos < s.size) : ∃ r : Nat, uR (r : Int) = un (rest s pos) ∧ ∀ ty, (Instr.next (.pointer (some ⟨w.heap.size, 0, none⟩)) true ty).run Tryd.prog (w.iter s pos) = .ok (.tuple #[.bool true, .int .i64 pos, .int .i32 r]) (w.iter s (pos + wd (rest s pos))) :=
  ⟨(Utf8.decode s pos).1, decode_un s pos, fun ty => by rw [run_next_any w s pos ty hp, decode_wd]⟩
theorem below_iter (w : World) (s : ByteArray) (pos : Nat) : Below w.heap.size w (w.iter s pos) := (Below.refl _ _).alloc (Nat.le_refl _) _

set_option maxRecDepth 100000 in
set_option maxHeartbeats 1000000 in
theorem byte_any (s : ByteArray) (u : Int) (hs : s.size ≤ 1000000) (w : World) : Calls Tryd.prog 93 #[.string s, .int .i64 u] w fun e w' => e = .returned (.int .i64 (byteAt s.data.toList u)) ∧ Below w.heap.size w w' := by
  have hle := units_le s.data.toList
  have hsz : s.data.toList.length = s.size := rfl
  rw [hsz] at hle
  clear hsz
  go_enter Tryd.func93, Tryd.ntmps93
  go_wp2
  go_loopw [5] (fun n w' => ∃ (pos : Nat) (a : Int), w' = w.iter s pos ∧ pos ≤ s.size ∧ n = .int .i64 a ∧ 0 ≤ a ∧ a ≤ 2000000 ∧ Hid (a + units (rest s pos) = units s.data.toList) ∧ Hid (pos + byteAt (rest s pos) (u - a) = byteAt s.data.toList u)) (fun _ w' => s.size - w'.iterPos w.heap.size)
  case atStart => exact ⟨0, 0, rfl, Nat.zero_le _, rfl, by omega, by omega, Lib.hid (by rw [rest_zero]; omega), Lib.hid (by rw [rest_zero, Int.sub_zero]; omega)⟩
  case round =>
    obtain ⟨pos, a, rfl, hps, rfl, ha, hb, hsum, hby⟩ := hrel
    by_cases hp : pos < s.size
    · obtain ⟨r, hr, hnx⟩ := next_any w s pos hp
      have hw := rest_wd s pos hp
      have HE : Hid (a + un (rest s pos) + units (rest s (pos + wd (rest s pos))) = units s.data.toList) := Lib.hid (by rw [← hsum.out, units_cons _ (rest_ne s pos hp), rest_next]; omega)
      have H1 : Hid (u - a < un (rest s pos) → pos = byteAt s.data.toList u) := Lib.hid (fun h => by rw [← hby.out, byteAt_lt _ _ (rest_ne s pos hp) h]; rfl)
      have H2 : Hid (¬ u - a < un (rest s pos) → pos + wd (rest s pos) + byteAt (rest s (pos + wd (rest s pos))) (u - (a + un (rest s pos))) = byteAt s.data.toList u) := Lib.hid (fun h => by
        rw [← hby.out, byteAt_ge _ _ (rest_ne s pos hp) h, rest_next, show u - (a + (un (rest s pos) : Int)) = u - a - un (rest s pos) from by omega]; omega)
      have hu := uR_12 (r : Int)
      have HR := Lib.hid hr
      have HL := Lib.hid hle
      clear hr hsum hle hby
      have hb2 : a + uR (r : Int) ≤ 2000000 := by have := HE.out; have := HR.out; have := HL.out; omega
      generalize wd (rest s pos) = k at *
      generalize huR : uR (r : Int) = v at *
      have HU := Lib.hid huR
      clear huR
      by_cases hc : u < a + v
      · go_wp2_with (go_at_call 96; refine (unitsOf_any _ _).mono ?_; rintro e w' ⟨rfl, rfl⟩; rw [HU.out])
        go_ret
        exact ⟨ret_i64 (by rw [← H1.out (by have := HR.out; omega)]), below_iter _ _ _⟩
      · go_wp2_with (go_at_call 96; refine (unitsOf_any _ _).mono ?_; rintro e w' ⟨rfl, rfl⟩; rw [HU.out])
        go_roundw
        case rel => exact ⟨pos + k, a + v, rfl, by omega, rfl, by omega, by omega, Lib.hid (by rw [HR.out]; exact HE.out), Lib.hid (by rw [HR.out]; exact H2.out (by have := HR.out; omega))⟩
        case measure => simp; omega
    · have hnx : ∀ ty, (Instr.next (.pointer (some ⟨w.heap.size, 0, none⟩)) true ty).run Tryd.prog (w.iter s pos) = _ := fun ty => run_next_end w s pos ty hp
      go_wp2
      go_ret
      refine ⟨ret_i64 ?_, below_iter _ _ _⟩
      rw [← hby.out, rest_end s pos hp, byteAt_nil]
      omega
end Go.Proofs.YtpphkkelikdhkaaDoor
