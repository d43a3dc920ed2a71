/-
  The document's own reader of frames: does a text stand at a place, where a head ends. No memory turns. Conditions: the texts' lengths.
-/
import Derived.Test.YtmaihiklcdidbaaDoorPlain4
import Derived.Test.YtmaihiklcdidbaaDoorPut
namespace Go.Proofs.YtmaihiklcdidbaaDoor
open Go.RowKit

theorem occ_take (l sub : List UInt8) (n i : Nat) (h : i + sub.length ≤ n) : Lib.occAt (l.take n) sub i = Lib.occAt l sub i := by
  unfold Lib.occAt
  rw [List.drop_take, Bool.eq_iff_iff, List.isPrefixOf_iff_prefix, List.isPrefixOf_iff_prefix, List.prefix_take_iff]
  exact ⟨fun h => h.1, fun h' => ⟨h', by omega⟩⟩
set_option maxRecDepth 100000 in
theorem stands_any (s x : ByteArray) (i : Nat) (hs : s.size ≤ 1000000000) (hx : x.size ≤ 1000000000) (hx0 : 0 < x.size) (hi : i ≤ 1000000000) (w : World) : Calls Tryd.prog 32 #[.string s, .int .i64 (i : Int), .string x] w fun e w' => e = .returned (.bool (Lib.occAt s.data.toList x.data.toList i)) ∧ w = w' := by
  have hsl := Lib.size_eq s
  have hxl := Lib.size_eq x
  by_cases h : i + x.size ≤ s.size
  · have h1 : (i : Int) + (x.size : Int) ≤ (s.size : Int) := by omega
    have ho : Lib.occAt s.data.toList x.data.toList i = ((s.extract i (i + x.size)).toList == x.toList) := by
      rw [Lib.occAt_iff_take _ _ _ (by omega), Lib.toList_data, Lib.toList_data, ext_list, Nat.add_sub_cancel_left, hxl]
    rw [ho]
    clear ho hsl hxl
    go_enter Tryd.func32, Tryd.ntmps32
    go_wp2_with fail
    go_ret
    exact ⟨rfl, rfl⟩
  · have h1 : ¬ (i : Int) + (x.size : Int) ≤ (s.size : Int) := by omega
    have ho : Lib.occAt s.data.toList x.data.toList i = false := by
      cases hc : Lib.occAt s.data.toList x.data.toList i with
      | false => rfl
      | true =>
        rcases Lib.occAt_room hc with h' | h'
        · omega
        · rw [h'] at hxl; have : x.size = 0 := hxl; omega
    rw [ho]
    clear ho hsl hxl
    go_enter Tryd.func32, Tryd.ntmps32
    go_wp2_with fail
    go_ret
    exact ⟨rfl, rfl⟩
set_option maxRecDepth 100000 in
theorem ends_any (s : ByteArray) (hs : s.size ≤ 1000000000) (w : World) : Calls Tryd.prog 26 #[.string s] w fun e w' => e = .returned (.int .i64 (Lib.index (s.data.toList.take 1024) hend)) ∧ w = w' := by
  have hS := Lib.hid (fun (i : Nat) (hi : i ≤ 1024) => stands_any s (txt hend) i hs (by decide) (by decide) (by omega) w)
  obtain ⟨l, hl⟩ : ∃ l, l = s.data.toList := ⟨_, rfl⟩
  rw [txt_list, ← hl] at hS
  rw [← hl]
  clear hl
  go_enter Tryd.func26, Tryd.ntmps26
  go_wp2_with fail
  go_loopw [3] (fun n wr => ∃ (i : Nat), n = .int .i64 (i : Int) ∧ i ≤ 1021 ∧ wr = w ∧ ∀ j, j < i → Lib.occAt l hend j = false) (fun n _ => 1021 - (intOf n).toNat)
  case atStart => exact ⟨0, rfl, by omega, rfl, fun j h => absurd h (by omega)⟩
  case round =>
    obtain ⟨i, rfl, hi, rfl, hno⟩ := hrel
    by_cases hi4 : i + 4 ≤ 1024
    · have h1 : (i : Int) + 4 ≤ 1024 := by omega
      have hX := Lib.hid (hS.out i (by omega))
      have hNO := Lib.hid hno
      clear hno
      go_wp2_with fail
      refine hX.out.mono ?_
      rintro e w1 ⟨rfl, rfl⟩
      by_cases ho : Lib.occAt l hend i = true
      · have hr : Lib.index (l.take 1024) hend = i := Lib.index_first (by
          rcases Lib.occAt_room ho with h' | h'
          · rw [List.length_take]
            have : hend.length = 4 := rfl
            omega
          · cases h') (by rw [occ_take _ _ _ _ (by show i + 4 ≤ _; omega)]; exact ho) (fun j hj => by rw [occ_take _ _ _ _ (by show j + 4 ≤ _; omega)]; exact hNO.out j hj)
        have HR := Lib.hid hr
        rw [ho]
        clear hr
        go_wp2_with fail
        go_ret
        exact ⟨by rw [HR.out]; rfl, rfl⟩
      · have ho : Lib.occAt l hend i = false := by simpa using ho
        rw [ho]
        have hO := Lib.hid ho
        clear ho
        go_wp2_with fail
        refine ⟨⟨i + 1, by go_num, by omega, trivial, fun j hj => ?_⟩, ?_⟩
        · rcases (by omega : j < i ∨ j = i) with h | rfl
          · exact hNO.out j h
          · exact hO.out
        · simp [intOf]
          omega
    · have h1 : ¬ (i : Int) + 4 ≤ 1024 := by omega
      have hr : Lib.index (l.take 1024) hend = -1 := by
        rcases Lib.index_spec (l.take 1024) hend with ⟨h, _⟩ | ⟨k, _, _, h3, _⟩
        · exact h
        · have hk : k + 4 ≤ 1024 := by
            rcases Lib.occAt_room h3 with h' | h'
            · rw [List.length_take] at h'
              have : hend.length = 4 := rfl
              omega
            · cases h'
          rw [occ_take _ _ _ _ (by show k + 4 ≤ _; omega), hno k (by omega)] at h3
          cases h3
      have HR := Lib.hid hr
      clear hr hno
      go_wp2_with fail
      go_ret
      exact ⟨by rw [HR.out]; rfl, rfl⟩
end Go.Proofs.YtmaihiklcdidbaaDoor
