/-
  frame's isPrintable AT EVERY TEXT. No memory that was there turns. Condition: the text's length.
-/
import Derived.Test.YtmaihiklcdidbaaDoorKit
namespace Go.Proofs.YtmaihiklcdidbaaDoor
open Go.RowKit

theorem all_drop {p : UInt8 → Bool} {l : List UInt8} {k : Nat} (h : k < l.length) : (l.drop k).all p = (p l[k] && (l.drop (k + 1)).all p) := by
  rw [List.drop_eq_getElem_cons h, List.all_cons]
set_option maxRecDepth 100000 in
set_option maxHeartbeats 1000000 in
theorem isPrintable_any (s : ByteArray) (hs : s.size ≤ 100000000) (w : World) :
    Calls Tryd.prog 40 #[.string s] w fun e w' => e = .returned (.bool (s.data.toList.all isPr)) ∧ Below w.heap.size w w' := by
  have hcv := Lib.run_convert_string_bytes (P := Tryd.prog) w 9 42 5 s (u := .string) Tryd.underlying9 Tryd.underlying42 Tryd.underlying5
  have HB : Hid (Below w.heap.size w (Lib.bytesWorld w 5 s)) := Lib.hid (Lib.bytesWorld_below w 5 s)
  have HC : Hid (∀ j, j < s.size → (Lib.bytesWorld w 5 s).cell? ⟨w.heap.size, j, none⟩ = some (.int .u8 (s.data.toList.getD j 0).toNat)) := Lib.hid (fun j hj => Lib.bytesWorld_cell w 5 s j hj)
  generalize Lib.bytesWorld w 5 s = W1 at *
  obtain ⟨bs, hL⟩ : ∃ bs, bs = s.data.toList := ⟨_, rfl⟩
  have HLn : Hid (bs.length = s.size) := Lib.hid (by rw [hL, ← Lib.size_eq])
  rw [← hL] at HC ⊢
  clear hL
  go_enter Tryd.func40, Tryd.ntmps40
  go_wp2
  go_loop [8] (fun vi => ∃ (k : Nat), vi = .int .i64 k ∧ k ≤ s.size ∧ Hid (bs.all isPr = (bs.drop k).all isPr)) (fun vi => s.size - (intOf vi).toNat)
  case atStart => exact ⟨0, rfl, Nat.zero_le _, Lib.hid rfl⟩
  case round =>
    obtain ⟨k, rfl, hk, hrel⟩ := hrel
    by_cases hkn : k < s.size
    · have hc := HC.out k hkn
      have hlt : k < bs.length := by rw [HLn.out]; exact hkn
      have hr := hrel.out
      rw [all_drop hlt] at hr
      have hget : bs.getD k 0 = bs[k] := by simp [List.getD, List.getElem?_eq_getElem hlt]
      rw [hget] at hc
      generalize bs[k] = c at hc hr
      have hc256 : c.toNat < 256 := c.toNat_lt
      clear hrel hget hlt
      by_cases h1 : 32 ≤ c.toNat
      · by_cases h2 : c.toNat ≤ 126
        · have hp : isPr c = true := by simp [isPr, h1, h2]
          rw [hp, Bool.true_and] at hr
          have HR := Lib.hid hr
          clear hr hp
          go_wp2
          go_round
          case rel => exact ⟨k + 1, rfl, by omega, HR⟩
          case measure => simp [intOf]; omega
        · have i1 : ¬ ((c.toNat : Int) < 32) := by omega
          have i2 : (126 : Int) < (c.toNat : Int) := by omega
          have hp : isPr c = false := by simp [isPr, h1, h2]
          rw [hp, Bool.false_and] at hr
          have HR := Lib.hid hr
          clear hr hp
          go_wp2
          go_ret
          exact ⟨by rw [HR.out]; rfl, HB.out⟩
      · have i1 : (c.toNat : Int) < 32 := by omega
        have hp : isPr c = false := by simp [isPr, h1]
        rw [hp, Bool.false_and] at hr
        have HR := Lib.hid hr
        clear hr hp
        go_wp2
        go_ret
        exact ⟨by rw [HR.out]; rfl, HB.out⟩
    · obtain rfl : k = s.size := by omega
      have hr := hrel.out
      rw [List.drop_eq_nil_of_le (by rw [HLn.out]; exact Nat.le_refl _)] at hr
      have HR := Lib.hid hr
      clear hr hrel
      go_wp2
      go_ret
      exact ⟨by rw [HR.out]; rfl, HB.out⟩
end Go.Proofs.YtmaihiklcdidbaaDoor
