/-
  UtfKnown (the chapter's examples): the law returns true and leaves all memory that was there as it was. Condition: unicode/utf8's two tables are as their text lays them (Utf8Tabs).
-/
import Derived.Test.YtpeeeoejjplniaaDoorWorks
import Derived.Deep.RegionHeld3
import Derived.IntWalk
namespace Go.Proofs.YtpeeeoejjplniaaDoor
open Go.RowKit

theorem is_any (s : ByteArray) (x p k : Int) (hp : decP s x = p) (hk : decW s x = k) (w : World) (hT : Lib.Utf8Tabs 0 1 w) : Calls Tryd.prog 25 #[.string s, .int .i64 x, .int .i64 p, .int .i64 k] w fun e w' => e = .returned (.bool true) ∧ Below w.heap.size w w' := by
  have C := Lib.hid (fun w hT => decode_any s x w hT)
  rw [hp, hk] at C
  have HT := Lib.hid hT
  clear hp hk hT
  go_enter Tryd.func25, Tryd.ntmps25
  go_wp2_with fail
  refine (C.out _ HT.out).mono ?_
  rintro e w1 ⟨rfl, k1⟩
  have B1 := Lib.hid k1
  clear k1
  go_wp2_with fail
  go_ret
  exact ⟨by simp, B1.out⟩
theorem no_any (n : Int) (h : isPt n = false) (w : World) : Calls Tryd.prog 26 #[.int .i64 n] w fun e w' => e = .returned (.bool true) ∧ w = w' := by
  have C := Lib.hid (fun w => enc_no n h w)
  clear h
  go_enter Tryd.func26, Tryd.ntmps26
  go_wp2_with fail
  refine (C.out _).mono ?_
  rintro e w' ⟨rfl, rfl⟩
  go_wp2_with fail
  go_ret
  exact ⟨rfl, rfl⟩
theorem bad_units (w : World) : Calls Tryd.prog 18 #[.string ⟨#[255, 254]⟩] w fun e w' => e = .returned (.int .i64 2) ∧ Below w.heap.size w w' := by
  have h := units_any ⟨#[255, 254]⟩ (by decide) w
  rw [unitsF_eq 2 _ (by decide), show unitsF 2 (⟨#[255, 254]⟩ : ByteArray).data.toList = 2 by kernel_rfl] at h
  exact h
theorem bad_valid (w : World) (hT : Lib.Utf8Tabs 0 1 w) : Calls Tryd.prog 14 #[.string ⟨#[255]⟩] w fun e w' => e = .returned (.bool false) ∧ Below w.heap.size w w' := by
  have h := valid_any ⟨#[255]⟩ w hT
  rw [validF_eq 1 _ (by decide), show validF 1 (⟨#[255]⟩ : ByteArray).data.toList = false by kernel_rfl] at h
  exact h
theorem smile_valid (w : World) (hT : Lib.Utf8Tabs 0 1 w) : Calls Tryd.prog 14 #[.string ⟨#[97, 240, 159, 152, 128, 195, 169]⟩] w fun e w' => e = .returned (.bool true) ∧ Below w.heap.size w w' := by
  have h := valid_any ⟨#[97, 240, 159, 152, 128, 195, 169]⟩ w hT
  rw [validF_eq 7 _ (by decide), show validF 7 (⟨#[97, 240, 159, 152, 128, 195, 169]⟩ : ByteArray).data.toList = true by kernel_rfl] at h
  exact h
def arrY : Array Value := #[.int .i64 0, .int .i64 0, .int .i64 1, .int .i64 1, .int .i64 2, .int .i64 1, .int .i64 3, .int .i64 5, .int .i64 4, .int .i64 7, .int .i64 9, .int .i64 7, .int .i64 (-1), .int .i64 0]
def arrU : Array Value := #[.int .i64 0, .int .i64 0, .int .i64 1, .int .i64 1, .int .i64 2, .int .i64 1, .int .i64 4, .int .i64 1, .int .i64 5, .int .i64 3, .int .i64 6, .int .i64 3, .int .i64 7, .int .i64 4, .int .i64 99, .int .i64 4, .int .i64 (-1), .int .i64 0]
theorem arrY_ok (j : Nat) (h : j < 7) : ∃ (u : Int) (k : Nat), arrY[2 * j]? = some (.int .i64 u) ∧ arrY[2 * j + 1]? = some (.int .i64 (k : Int)) ∧ byteF 7 [97, 240, 159, 152, 128, 195, 169] u = k := by
  have : j = 0 ∨ j = 1 ∨ j = 2 ∨ j = 3 ∨ j = 4 ∨ j = 5 ∨ j = 6 := by omega
  rcases this with rfl | rfl | rfl | rfl | rfl | rfl | rfl
  · exact ⟨0, 0, rfl, rfl, by kernel_rfl⟩
  · exact ⟨1, 1, rfl, rfl, by kernel_rfl⟩
  · exact ⟨2, 1, rfl, rfl, by kernel_rfl⟩
  · exact ⟨3, 5, rfl, rfl, by kernel_rfl⟩
  · exact ⟨4, 7, rfl, rfl, by kernel_rfl⟩
  · exact ⟨9, 7, rfl, rfl, by kernel_rfl⟩
  · exact ⟨-1, 0, rfl, rfl, by kernel_rfl⟩
theorem arrU_ok (j : Nat) (h : j < 9) : ∃ (u : Int) (k : Nat), arrU[2 * j]? = some (.int .i64 u) ∧ arrU[2 * j + 1]? = some (.int .i64 (k : Int)) ∧ unitsAtF 7 [97, 240, 159, 152, 128, 195, 169] u = k := by
  have : j = 0 ∨ j = 1 ∨ j = 2 ∨ j = 3 ∨ j = 4 ∨ j = 5 ∨ j = 6 ∨ j = 7 ∨ j = 8 := by omega
  rcases this with rfl | rfl | rfl | rfl | rfl | rfl | rfl | rfl | rfl
  · exact ⟨0, 0, rfl, rfl, by kernel_rfl⟩
  · exact ⟨1, 1, rfl, rfl, by kernel_rfl⟩
  · exact ⟨2, 1, rfl, rfl, by kernel_rfl⟩
  · exact ⟨4, 1, rfl, rfl, by kernel_rfl⟩
  · exact ⟨5, 3, rfl, rfl, by kernel_rfl⟩
  · exact ⟨6, 3, rfl, rfl, by kernel_rfl⟩
  · exact ⟨7, 4, rfl, rfl, by kernel_rfl⟩
  · exact ⟨99, 4, rfl, rfl, by kernel_rfl⟩
  · exact ⟨-1, 0, rfl, rfl, by kernel_rfl⟩
theorem cell_keep {W W' : World} {g o : Nat} {v : Value} (hb : Below W.heap.size W W') (h : W.cell? ⟨g, o, none⟩ = some v) : W'.cell? ⟨g, o, none⟩ = some v := by
  have hlt : g < W.heap.size := by
    unfold World.cell? at h
    by_cases hg : g < W.heap.size
    · exact hg
    · simp [Array.getElem?_eq_none (Nat.le_of_not_lt hg)] at h
  rw [hb.cell (p := ⟨g, o, none⟩) hlt]
  exact h
theorem cell_keep2 {W W' : World} {g o : Nat} {v : Value} (hb : Below W.heap.size W.drew W') (h : W.cell? ⟨g, o, none⟩ = some v) : W'.cell? ⟨g, o, none⟩ = some v := cell_keep (W := W) ⟨hb.os, hb.tape, hb.output, hb.size, hb.block⟩ h
theorem cell_at {W : World} {g o : Nat} {cur : Array Value} {t : TypeId} {fz : Nat × Nat} (h : W.heap[g]? = some (.cells cur t fz)) : W.cell? ⟨g, o, none⟩ = cur[o]? := by simp [World.cell?, h]
theorem new_block (w : World) (o : Obj) : (w.alloc o).heap[w.heap.size]? = some o := by
  show (w.heap.push o)[w.heap.size]? = _
  simp
set_option maxRecDepth 100000 in
set_option maxHeartbeats 1000000 in
theorem known_walk (w : World) (hT : Lib.Utf8Tabs 0 1 w) : Calls Tryd.prog 9 #[] w fun e w' => e = .returned (.bool true) ∧ Below w.heap.size w w' := by
  have F0 := Lib.hid hT
  have B0 := Lib.hid (Below.refl w.heap.size w)
  clear hT
  go_enter Tryd.func9, Tryd.ntmps9
  go_wp2_with fail
  refine (works_any _ F0.out).mono ?_
  rintro e w1 ⟨rfl, k1⟩
  have F1 := Lib.hid (Go.Proofs.Utf8Tabs_below F0.out k1)
  have B1 := Lib.hid (B0.out.trans (k1.mono B0.out.size))
  clear k1 F0 B0
  go_wp2_with fail
  refine (is_any ⟨#[97]⟩ (0) (97) (1) (by kernel_rfl) (by kernel_rfl) _ F1.out).mono ?_
  rintro e w2 ⟨rfl, k2⟩
  have F2 := Lib.hid (Go.Proofs.Utf8Tabs_below F1.out k2)
  have B2 := Lib.hid (B1.out.trans (k2.mono B1.out.size))
  clear k2 F1 B1
  go_wp2_with fail
  refine (is_any ⟨#[195, 169]⟩ (0) (233) (2) (by kernel_rfl) (by kernel_rfl) _ F2.out).mono ?_
  rintro e w3 ⟨rfl, k3⟩
  have F3 := Lib.hid (Go.Proofs.Utf8Tabs_below F2.out k3)
  have B3 := Lib.hid (B2.out.trans (k3.mono B2.out.size))
  clear k3 F2 B2
  go_wp2_with fail
  refine (is_any ⟨#[195]⟩ (0) (-1) (1) (by kernel_rfl) (by kernel_rfl) _ F3.out).mono ?_
  rintro e w4 ⟨rfl, k4⟩
  have F4 := Lib.hid (Go.Proofs.Utf8Tabs_below F3.out k4)
  have B4 := Lib.hid (B3.out.trans (k4.mono B3.out.size))
  clear k4 F3 B3
  go_wp2_with fail
  refine (is_any ⟨#[128]⟩ (0) (-1) (1) (by kernel_rfl) (by kernel_rfl) _ F4.out).mono ?_
  rintro e w5 ⟨rfl, k5⟩
  have F5 := Lib.hid (Go.Proofs.Utf8Tabs_below F4.out k5)
  have B5 := Lib.hid (B4.out.trans (k5.mono B4.out.size))
  clear k5 F4 B4
  go_wp2_with fail
  refine (is_any ⟨#[192, 128]⟩ (0) (-1) (1) (by kernel_rfl) (by kernel_rfl) _ F5.out).mono ?_
  rintro e w6 ⟨rfl, k6⟩
  have F6 := Lib.hid (Go.Proofs.Utf8Tabs_below F5.out k6)
  have B6 := Lib.hid (B5.out.trans (k6.mono B5.out.size))
  clear k6 F5 B5
  go_wp2_with fail
  refine (is_any ⟨#[237, 160, 128]⟩ (0) (-1) (1) (by kernel_rfl) (by kernel_rfl) _ F6.out).mono ?_
  rintro e w7 ⟨rfl, k7⟩
  have F7 := Lib.hid (Go.Proofs.Utf8Tabs_below F6.out k7)
  have B7 := Lib.hid (B6.out.trans (k7.mono B6.out.size))
  clear k7 F6 B6
  go_wp2_with fail
  refine (is_any ⟨#[97]⟩ (1) (-1) (0) (by kernel_rfl) (by kernel_rfl) _ F7.out).mono ?_
  rintro e w8 ⟨rfl, k8⟩
  have F8 := Lib.hid (Go.Proofs.Utf8Tabs_below F7.out k8)
  have B8 := Lib.hid (B7.out.trans (k8.mono B7.out.size))
  clear k8 F7 B7
  go_wp2_with fail
  refine (is_any ⟨#[97]⟩ (-1) (-1) (0) (by kernel_rfl) (by kernel_rfl) _ F8.out).mono ?_
  rintro e w9 ⟨rfl, k9⟩
  have F9 := Lib.hid (Go.Proofs.Utf8Tabs_below F8.out k9)
  have B9 := Lib.hid (B8.out.trans (k9.mono B8.out.size))
  clear k9 F8 B8
  go_wp2_with fail
  refine (no_any 55296 (by kernel_rfl) _).mono ?_
  rintro e w' ⟨rfl, rfl⟩
  go_wp2_with fail
  refine (no_any 1114112 (by kernel_rfl) _).mono ?_
  rintro e w' ⟨rfl, rfl⟩
  go_wp2_with fail
  refine (no_any (-1) (by kernel_rfl) _).mono ?_
  rintro e w' ⟨rfl, rfl⟩
  go_wp2_with fail
  refine (bad_units _).mono ?_
  rintro e w10 ⟨rfl, k10⟩
  have F10 := Lib.hid (Go.Proofs.Utf8Tabs_below F9.out k10)
  have B10 := Lib.hid (B9.out.trans (k10.mono B9.out.size))
  clear k10 F9 B9
  go_wp2_with fail
  refine (bad_valid _ F10.out).mono ?_
  rintro e w11 ⟨rfl, k11⟩
  have F11 := Lib.hid (Go.Proofs.Utf8Tabs_below F10.out k11)
  have B11 := Lib.hid (B10.out.trans (k11.mono B10.out.size))
  clear k11 F10 B10
  go_wp2_with fail
  refine (smile_any _).mono ?_
  rintro e w' ⟨rfl, rfl⟩
  go_wp2_with fail
  refine (smile_valid _ F11.out).mono ?_
  rintro e w12 ⟨rfl, k12⟩
  have F12 := Lib.hid (Go.Proofs.Utf8Tabs_below F11.out k12)
  have B12 := Lib.hid (B11.out.trans (k12.mono B11.out.size))
  clear k12 F11 B11
  go_wp2_with fail
  go_loopw [2] (fun u wr => ∃ i : Nat, i ≤ 14 ∧ u = .int .i64 i ∧ Hid (∃ j, i = 2 * j) ∧ Hid (wr.heap[w12.heap.size]? = some (.cells arrY 3 (0, 0))) ∧ Hid (Below w12.heap.size w12 wr)) (fun u _ => 14 - (intOf u).toNat)
  case atStart => exact ⟨0, Nat.zero_le _, rfl, Lib.hid ⟨0, rfl⟩, Lib.hid (new_block _ _), Lib.hid ((Below.refl _ _).alloc (Nat.le_refl _) _)⟩
  case round =>
    obtain ⟨i, hi, rfl, hj, hh, hb⟩ := hrel
    by_cases hlt : i < 14
    · obtain ⟨u, k, cu, ck, HV, i2, HJ⟩ : ∃ (u : Int) (k : Nat), wr.cell? ⟨w12.heap.size, i, none⟩ = some (.int .i64 u) ∧ wr.cell? ⟨w12.heap.size, i + 1, none⟩ = some (.int .i64 (k : Int)) ∧ Hid (byteF 7 [97, 240, 159, 152, 128, 195, 169] u = k) ∧ (i : Int) + 1 < 14 ∧ Hid (∃ j, i + 2 = 2 * j) := by
        obtain ⟨j, rfl⟩ := hj.out
        obtain ⟨u, k, hu, hk, hval⟩ := arrY_ok j (by omega)
        exact ⟨u, k, by rw [cell_at hh.out]; exact hu, by rw [cell_at hh.out]; exact hk, Lib.hid hval, by omega, Lib.hid ⟨j + 1, by omega⟩⟩
      clear hj
      have i1 : (0 : Int) ≤ (i : Int) + 1 := by omega
      have i3 : ((i : Int) + 1).toNat = i + 1 := by omega
      have i4 : IntKind.i64.wrap ((i : Int) + 1) = (i : Int) + 1 := IntWalk.i64_in _ (by omega)
      go_wp2_with fail
      go_region_held3 (fun w' => w'.cell? ⟨w12.heap.size, i, none⟩ = some (.int .i64 u) ∧ w'.cell? ⟨w12.heap.size, i + 1, none⟩ = some (.int .i64 (k : Int))) (first | exact ⟨cu, ck⟩ | exact ⟨cell_keep2 kq cu, cell_keep2 kq ck⟩) (first | (go_at_call 27; refine (smile_any _).mono ?_; rintro e w' ⟨rfl, rfl⟩) | (go_at_call 20; refine (smile_byte u k HV.out _).mono ?_; rintro e wq ⟨rfl, kq⟩))
      have hk2 : Below wr.heap.size wr wq := ⟨kq.os, kq.tape, kq.output, kq.size, kq.block⟩
      have HH := Lib.hid (heap_keep hk2 hh.out)
      have HB := Lib.hid (hb.out.trans (hk2.mono hb.out.size))
      clear kq hk2 cu ck i4 i3
      go_wp2_with fail
      go_roundw
      case rel => exact ⟨i + 2, by omega, by go_num, HJ, HH, HB⟩
      case measure => simp [intOf]; omega
    · go_wp2_with fail
      have F13 := Lib.hid (Go.Proofs.Utf8Tabs_below F12.out hb.out)
      have B13 := Lib.hid (B12.out.trans (hb.out.mono B12.out.size))
      clear F12 B12 hh hb hj
      obtain ⟨wo, rfl⟩ : ∃ wo : World, wo = wr := ⟨_, rfl⟩
      go_loopw [4] (fun u wr => ∃ i : Nat, i ≤ 18 ∧ u = .int .i64 i ∧ Hid (∃ j, i = 2 * j) ∧ Hid (wr.heap[wo.heap.size]? = some (.cells arrU 3 (0, 0))) ∧ Hid (Below wo.heap.size wo wr)) (fun u _ => 18 - (intOf u).toNat)
      case atStart => exact ⟨0, Nat.zero_le _, rfl, Lib.hid ⟨0, rfl⟩, Lib.hid (new_block _ _), Lib.hid ((Below.refl _ _).alloc (Nat.le_refl _) _)⟩
      case round =>
        obtain ⟨i', hi', rfl, hj, hh, hb⟩ := hrel
        by_cases hlt' : i' < 18
        · obtain ⟨u, k, cu, ck, HV, i2, HJ⟩ : ∃ (u : Int) (k : Nat), wr.cell? ⟨wo.heap.size, i', none⟩ = some (.int .i64 u) ∧ wr.cell? ⟨wo.heap.size, i' + 1, none⟩ = some (.int .i64 (k : Int)) ∧ Hid (unitsAtF 7 [97, 240, 159, 152, 128, 195, 169] u = k) ∧ (i' : Int) + 1 < 18 ∧ Hid (∃ j, i' + 2 = 2 * j) := by
            obtain ⟨j, rfl⟩ := hj.out
            obtain ⟨u, k, hu, hk, hval⟩ := arrU_ok j (by omega)
            exact ⟨u, k, by rw [cell_at hh.out]; exact hu, by rw [cell_at hh.out]; exact hk, Lib.hid hval, by omega, Lib.hid ⟨j + 1, by omega⟩⟩
          clear hj
          have i1 : (0 : Int) ≤ (i' : Int) + 1 := by omega
          have i3 : ((i' : Int) + 1).toNat = i' + 1 := by omega
          have i4 : IntKind.i64.wrap ((i' : Int) + 1) = (i' : Int) + 1 := IntWalk.i64_in _ (by omega)
          go_wp2_with fail
          go_region_held3 (fun w' => w'.cell? ⟨wo.heap.size, i', none⟩ = some (.int .i64 u) ∧ w'.cell? ⟨wo.heap.size, i' + 1, none⟩ = some (.int .i64 (k : Int))) (first | exact ⟨cu, ck⟩ | exact ⟨cell_keep2 kq cu, cell_keep2 kq ck⟩) (first | (go_at_call 27; refine (smile_any _).mono ?_; rintro e w' ⟨rfl, rfl⟩) | (go_at_call 22; refine (smile_unitsAt u k HV.out _).mono ?_; rintro e wq ⟨rfl, kq⟩))
          have hk2 : Below wr.heap.size wr wq := ⟨kq.os, kq.tape, kq.output, kq.size, kq.block⟩
          have HH := Lib.hid (heap_keep hk2 hh.out)
          have HB := Lib.hid (hb.out.trans (hk2.mono hb.out.size))
          clear kq hk2 cu ck i4 i3
          go_wp2_with fail
          go_roundw
          case rel => exact ⟨i' + 2, by omega, by go_num, HJ, HH, HB⟩
          case measure => simp [intOf]; omega
        · have F14 := Lib.hid (Go.Proofs.Utf8Tabs_below F13.out hb.out)
          have B14 := Lib.hid (B13.out.trans (hb.out.mono B13.out.size))
          clear F13 B13 hh hb hj
          go_wp2_with fail
          refine (works_any _ F14.out).mono ?_
          rintro e w15 ⟨rfl, k15⟩
          have B15 := Lib.hid (B14.out.trans (k15.mono B14.out.size))
          clear k15 B14 F14
          go_wp2_with fail
          go_ret
          exact ⟨rfl, B15.out⟩
end Go.Proofs.YtpeeeoejjplniaaDoor
