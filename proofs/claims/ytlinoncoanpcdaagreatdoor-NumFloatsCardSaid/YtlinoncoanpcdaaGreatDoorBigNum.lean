/-
  THE DOCUMENT's NATURAL NUMBERS (emendref01.Of, Times): as in BigOf and BigTimes, and no nought is at the end of what they hand back. Condition: the slices read as digits below 65536.
-/
import Derived.Test.YtlinoncoanpcdaaGreatDoorBigLess
namespace Go.Proofs.YtlinoncoanpcdaaGreatDoor
open Go.RowKit
theorem dl_last (n k : Nat) (hk : 0 < k) : (dl n k)[(dl n k).length - 1]? = some (n / 65536 ^ (k - 1) % 65536) := by
  cases k with
  | zero => omega
  | succ j =>
    rw [dl_length, dl]
    simp only [Nat.add_sub_cancel]
    rw [List.getElem?_append_right (by rw [dl_length]; exact Nat.le_refl _), dl_length, Nat.sub_self]
    rfl
theorem dl_norm (n k : Nat) (h0 : n / 65536 ^ k = 0) (h1 : k = 0 ∨ 0 < n / 65536 ^ (k - 1)) : Norm (dl n k) := by
  refine ⟨dl_below n k, ?_⟩
  rcases h1 with rfl | h1
  · exact .inl rfl
  · rcases Nat.eq_zero_or_pos k with rfl | hk
    · exact .inl rfl
    · refine .inr ⟨_, dl_last n k hk, ?_⟩
      have := div_chain n (k - 1)
      rw [show k - 1 + 1 = k from by omega, h0] at this
      rw [Nat.mod_eq_of_lt (by omega)]
      exact h1
theorem of_num (n : Nat) (hn : n < 18446744073709551616) (w : World) : Calls Tryz.prog 59 #[.int .u64 (n : Int)] w (LessEnd n w 4) := by
  refine (of_any n hn w).mono ?_
  rintro e w' ⟨v, k, rfl, hk, h0, h1, hown, hb⟩
  have hl := dl_length n k
  have hv : val (dl n k) = n := by
    rw [val_dl]
    refine Nat.mod_eq_of_lt ?_
    rcases Nat.lt_or_ge n (65536 ^ k) with h | h
    · exact h
    · have := Nat.div_pos h (Nat.pow_pos (by decide))
      omega
  obtain ⟨A, c, rfl⟩ := slice_form hown
  exact ⟨A, c, dl n k, by rw [hl], rd_of_own hown hl, dl_norm n k h0 h1, hv, by omega, by rw [hl]; exact cap_of_own hown, hb⟩
set_option maxRecDepth 100000 in
set_option maxHeartbeats 2000000 in
theorem times_num (A C : Option Addr) (ca cc : Nat) (xs ys : List Nat) (ha : xs.length ≤ 1000) (hb : ys.length ≤ 1000) (w : World) (hA : RD w w.heap.size A xs) (hC : RD w w.heap.size C ys) (hx1 : ∀ x ∈ xs, x < 65536) (hy1 : ∀ y ∈ ys, y < 65536) :
    Calls Tryz.prog 58 #[.slice A xs.length ca, .slice C ys.length cc] w (LessEnd (val xs * val ys) w (xs.length + ys.length)) := by
  have hmk : ∀ W : World, (Instr.makeSlice 71 (.int .i64 ((xs.length : Int) + ys.length)) (.int .i64 ((xs.length : Int) + ys.length))).run Tryz.prog W = .ok (.slice (some ⟨W.heap.size, 0, none⟩) (xs.length + ys.length) (xs.length + ys.length)) (W.alloc (.cells (blkU (List.replicate (xs.length + ys.length) 0)) 30)) := by
    intro W
    have := run_make_row' (P := Tryz.prog) 71 30 (.int .u64 0) 8 Tryz.underlying71 Tryz.info30 rfl .i64 .i64 (xs.length + ys.length) (by omega) (by omega) W
    rw [Int.natCast_add] at this
    rw [this, made_zero]
  have HA := Lib.hid hA
  have HC := Lib.hid hC
  have HX1 := Lib.hid hx1
  have HY1 := Lib.hid hy1
  clear hA hC hx1 hy1
  go_enter Tryz.func58, Tryz.ntmps58
  go_wp2_with fail
  go_loopw [6] (fun i wr => ∃ (j q : Nat) (l : List Nat), j ≤ xs.length ∧ i = .int .i64 (j : Int) ∧ wr = (w.alloc (.cells (blkU l) 30)).drewN q ∧ Hid (l.length = xs.length + ys.length ∧ (∀ z ∈ l, z < 65536) ∧ AtRow xs ys l j)) (fun i _ => xs.length - (RowKit.intOf i).toNat)
  case atStart => exact ⟨0, 0, _, by omega, rfl, rfl, Lib.hid ⟨by simp, fun z hz => by rw [List.eq_of_mem_replicate hz]; decide, AtRow.start xs ys⟩⟩
  case round =>
    obtain ⟨j, q, l, hj, rfl, rfl, hl⟩ := hrel
    by_cases hlt : j < xs.length
    · obtain ⟨x, hx⟩ : ∃ x, xs[j]? = some x := ⟨_, List.getElem?_eq_getElem hlt⟩
      have HX := Lib.hid hx
      clear hx
      go_wp2_with fail
      go_loopw [7, 8, 9] (fun cv kv _ wr => ∃ (k q : Nat) (c : Int) (l : List Nat), k ≤ ys.length ∧ 0 ≤ c ∧ c ≤ 65535 ∧ cv = .int .u64 c ∧ kv = .int .i64 (k : Int) ∧ wr = (w.alloc (.cells (blkU l) 30)).drewN q ∧ Hid (l.length = xs.length + ys.length ∧ (∀ z ∈ l, z < 65536) ∧ InRow xs ys l j k x c)) (fun _ kv _ _ => ys.length - (RowKit.intOf kv).toNat)
      case atStart => exact ⟨0, q, 0, l, by omega, by omega, by omega, rfl, rfl, rfl, Lib.hid ⟨hl.out.1, hl.out.2.1, hl.out.2.2.enter HX.out⟩⟩
      case round =>
        clear hl
        obtain ⟨k, q, c, l, hk, c0, c1, rfl, rfl, rfl, hl⟩ := hrel
        by_cases hkt : k < ys.length
        · obtain ⟨b, o, rfl, hbl, hc⟩ := HA.out (by omega)
          obtain ⟨b', o', rfl, hbl', hc'⟩ := HC.out (by omega)
          obtain ⟨y, hy⟩ : ∃ y, ys[k]? = some y := ⟨_, List.getElem?_eq_getElem hkt⟩
          obtain ⟨z, hz⟩ : ∃ z, l[j + k]? = some z := ⟨_, List.getElem?_eq_getElem (by have := hl.out.1; omega)⟩
          have hcx := hc _ _ HX.out
          have hcy := hc' _ _ hy
          have hcz : (blkU l)[j + k]? = some (.int .u64 (z : Int)) := by rw [blkU_at, hz]; rfl
          obtain ⟨X, eX⟩ : ∃ X : Int, X = (x : Int) := ⟨_, rfl⟩
          obtain ⟨Y, eY⟩ : ∃ Y : Int, Y = (y : Int) := ⟨_, rfl⟩
          obtain ⟨Z, eZ⟩ : ∃ Z : Int, Z = (z : Int) := ⟨_, rfl⟩
          rw [← eX] at hcx
          rw [← eY] at hcy
          rw [← eZ] at hcz
          have X0 : 0 ≤ X := by omega
          have Y0 : 0 ≤ Y := by omega
          have Z0 : 0 ≤ Z := by omega
          have X1 : X ≤ 65535 := by have := HX1.out x (List.mem_of_getElem? HX.out); omega
          have Y1 : Y ≤ 65535 := by have := HY1.out y (List.mem_of_getElem? hy); omega
          have Z1 : Z ≤ 65535 := by have := hl.out.2.1 z (List.mem_of_getElem? hz); omega
          have P := prod_le X0 X1 Y0 Y1
          have w1 := u64_in (n := X * Y) (by omega) (by omega)
          have w2 := u64_in (n := Z + X * Y) (by omega) (by omega)
          have w3 := u64_in (n := Z + X * Y + c) (by omega) (by omega)
          have i1 : IntKind.i64.wrap ((j : Int) + (k : Int)) = (j : Int) + (k : Int) := IntWalk.i64_in _ (by omega)
          have i2 : ((j : Int) + (k : Int)).toNat = j + k := by omega
          have i3 : 0 ≤ (j : Int) + (k : Int) := by omega
          have i4 : (j : Int) + (k : Int) < ((xs.length + ys.length : Nat) : Int) := by omega
          have i5 : (j : Int) + (k : Int) < (xs.length : Int) + (ys.length : Int) := by omega
          obtain ⟨N, eN⟩ : ∃ N : Int, N = Z + X * Y + c := ⟨_, rfl⟩
          have N0 : 0 ≤ N := by omega
          have N1 : N ≤ 4294967295 := by omega
          have hstep : InRow xs ys (l.set (j + k) (N % 65536).toNat) j (k + 1) x (N / 65536) := hl.out.2.2.step hy hz c0 (by rw [eN, eX, eY, eZ])
          have HS := Lib.hid hstep
          have EN := Lib.hid eN
          clear hy hz eX eY eZ hc hc' hstep eN
          go_wp2_with fail
          go_quiet (fail)
          rw [← EN.out, drew_drew]
          clear w1 w2 w3 i1 i2 i3 i4 i5 P X0 X1 Y0 Y1 Z0 Z1 EN hcx hcy
          have hq := udiv65536 N N0 (by omega)
          go_wp2_with fail
          refine ⟨⟨k + 1, q + nq, N / 65536, l.set (j + k) (N % 65536).toNat, by omega, by omega, by omega, rfl, by go_num, world_put w l (j + k) _ _ (by omega) _, Lib.hid ⟨by rw [List.length_set]; exact hl.out.1, set_below hl.out.2.1 (by omega), HS.out⟩⟩, ?_⟩
          simp [RowKit.intOf]
          omega
        · obtain rfl : k = ys.length := by omega
          obtain ⟨C1, eC⟩ : ∃ n : Nat, c = (n : Int) := Int.eq_ofNat_of_zero_le c0
          have hlen := hl.out.1
          have i2 : ((j : Int) + (ys.length : Int)).toNat = j + ys.length := by omega
          have hcz : (blkU l)[j + ys.length]? = some (.int .u64 0) := by
            rw [blkU_at, hl.out.2.2.2.2 _ (Nat.le_refl _) (by omega)]
            rfl
          have HC1 := Lib.hid eC
          have HLEN := Lib.hid hlen
          clear eC hlen
          go_wp2_with fail
          have e1 := HC1.out
          refine ⟨⟨j + 1, q, l.set (j + ys.length) c.toNat, by omega, by go_num, world_put w l (j + ys.length) _ _ (by omega) _, Lib.hid ⟨by rw [List.length_set]; exact hl.out.1, set_below hl.out.2.1 (by omega), hl.out.2.2.leave hl.out.1⟩⟩, ?_⟩
          simp [RowKit.intOf]
          omega
    · obtain rfl : j = xs.length := by omega
      have HT := Lib.hid (trim_any (some ⟨w.heap.size, 0, none⟩) (xs.length + ys.length) _ l (by have := hl.out.1; omega) (by have := hl.out.1; omega) _ (rd_out w l q))
      rw [hl.out.1] at HT
      go_wp2_with fail
      refine HT.out.mono ?_
      rintro e w1 ⟨k, hk, ht, rfl, hw1⟩
      have HK := Lib.hid ht
      have HW := Lib.hid hw1
      clear ht hw1 HT
      go_wp2_with fail
      go_ret
      have hk' : (l.take k).length = k := by rw [List.length_take]; omega
      refine ⟨some ⟨w.heap.size, 0, none⟩, xs.length + ys.length, l.take k, ret_slice hk'.symm, ?_, ?_, ?_, ?_, ?_, ?_⟩
      · rw [← HW.out]
        exact (rd_out w l q).take k
      · rw [← HK.out]; exact trim_norm l hl.out.2.1
      · have h3 := hl.out.2.2.1
        rw [List.take_length] at h3
        rw [← HK.out, val_trim, h3]
      · rw [hk']; have := hl.out.1; omega
      · rw [hk']; have := hl.out.1; omega
      · rw [← HW.out]
        exact below_drewN ((Below.refl _ _).alloc (Nat.le_refl _) _) q
end Go.Proofs.YtlinoncoanpcdaaGreatDoor
