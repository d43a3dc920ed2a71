/-
  jtext's tokenAt WHERE A STRING OR NOTHING STANDS: what it returns; no memory that was there turns. Conditions: the text's length; the variables that are read hold what their text lays (Facts); the finders' row lies in memory (Known).
-/
import Derived.Test.YtmkjoonbjmieoaaDoorQTok
namespace Go.Proofs.YtmkjoonbjmieoaaDoor
open Go.RowKit

set_option maxRecDepth 100000 in
set_option maxHeartbeats 4000000 in
theorem tokenAt_str (s : ByteArray) (k : Nat) (hs : s.size ≤ 1000000) (hk : k < s.size) (z0 : markLen (rest s k) = 0) (z1 : wordLen (rest s k) = 0) (z2 : numLen (rest s k) = 0) (x : List UInt8) (n : Nat) (hn : tokStr (rest s k) = some (x, n)) (hn0 : n ≠ 0) (hx : x.length ≤ 4000000) (a : Nat) (w : World) (hF : Facts w) (hK : Known w a) : Calls Tryd.prog 26 #[.slice (some ⟨a, 0, none⟩) 4 4, .string s, .int .i64 k] w fun e w' => e = .returned (.tuple #[.agg #[.int .i64 4, .string ⟨x.toArray⟩, .int .i64 k, .int .i64 ((k + n : Nat) : Int)], .bool true]) ∧ Below w.heap.size w w' := by
  obtain ⟨c0, c1, c2, c3, c4, c5, c6, c7⟩ := hK
  have H0 := Lib.hid (fun w => findMark_any s k hs w)
  rw [z0, found_no] at H0
  have H1 := Lib.hid (fun w => findWord_any s k (by omega) hs w)
  rw [z1, found_no] at H1
  have H2 := Lib.hid (fun w => findNumber_any s k (by omega) hs w)
  rw [z2, found_no] at H2
  have H3 := Lib.hid (fun (w : World) (hF : Facts w) => findString_any s k hk hs w hF)
  rw [hn, strV_some] at H3
  have HN := Lib.hid (fun w => clone_any ⟨x.toArray⟩ (by rw [bytes_size]; omega) w)
  have HF := Lib.hid hF
  have hlt : (k : Int) < ((k + n : Nat) : Int) := by omega
  have hto := (⟨((k + n : Nat) : Int), rfl⟩ : ∃ z : Int, z = ((k + n : Nat) : Int))
  obtain ⟨z, hz⟩ := hto
  rw [← hz] at hlt H3 ⊢
  clear hn hF hz z0 z1 z2
  go_enter Tryd.func26, Tryd.ntmps26
  go_wp2_with fail
  have b0 : Below w.heap.size w (w.alloc (.cells #[.int .i64 0, .string ⟨#[]⟩, .int .i64 0, .int .i64 0] 61)) := (Below.refl _ _).alloc (Nat.le_refl _) _
  have r0 := res_new w
  have n0 : w.heap.size < (w.alloc (.cells #[.int .i64 0, .string ⟨#[]⟩, .int .i64 0, .int .i64 0] 61)).heap.size := by rw [World.size_alloc]; omega
  have k0 : Below w.heap.size w (w.alloc (.cells #[.int .i64 0, .string ⟨#[]⟩, .int .i64 0, .int .i64 0] 61)) := b0
  replace c0 := cell_keep2 (w := w) (w' := (w.alloc (.cells #[.int .i64 0, .string ⟨#[]⟩, .int .i64 0, .int .i64 0] 61))) k0 c0
  replace c1 := cell_keep2 (w := w) (w' := (w.alloc (.cells #[.int .i64 0, .string ⟨#[]⟩, .int .i64 0, .int .i64 0] 61))) k0 c1
  replace c2 := cell_keep2 (w := w) (w' := (w.alloc (.cells #[.int .i64 0, .string ⟨#[]⟩, .int .i64 0, .int .i64 0] 61))) k0 c2
  replace c3 := cell_keep2 (w := w) (w' := (w.alloc (.cells #[.int .i64 0, .string ⟨#[]⟩, .int .i64 0, .int .i64 0] 61))) k0 c3
  replace c4 := cell_keep2 (w := w) (w' := (w.alloc (.cells #[.int .i64 0, .string ⟨#[]⟩, .int .i64 0, .int .i64 0] 61))) k0 c4
  replace c5 := cell_keep2 (w := w) (w' := (w.alloc (.cells #[.int .i64 0, .string ⟨#[]⟩, .int .i64 0, .int .i64 0] 61))) k0 c5
  replace c6 := cell_keep2 (w := w) (w' := (w.alloc (.cells #[.int .i64 0, .string ⟨#[]⟩, .int .i64 0, .int .i64 0] 61))) k0 c6
  replace c7 := cell_keep2 (w := w) (w' := (w.alloc (.cells #[.int .i64 0, .string ⟨#[]⟩, .int .i64 0, .int .i64 0] 61))) k0 c7
  generalize w.alloc (.cells #[.int .i64 0, .string ⟨#[]⟩, .int .i64 0, .int .i64 0] 61) = w0 at *
  clear k0
  have RN0 := Lib.hid r0
  have BN0 := Lib.hid b0
  have NN0 := Lib.hid n0
  clear r0 b0 n0
  refine wp_loop_rounds 5 ?_
  rw [rounds_succ]
  go_wp2_with fail
  have k1 : Below w0.heap.size w0 (w0.alloc (.cells #[.int .i64 1, .func (.func 44) #[] #[]] 83)) := (Below.refl _ _).alloc (Nat.le_refl _) _
  have hcf : (w0.alloc (.cells #[.int .i64 1, .func (.func 44) #[] #[]] 83)).cell? ⟨w0.heap.size, 0, none⟩ = some (.int .i64 1) := by
    rw [World.cell?_alloc_at _ _ _ _ rfl]; rfl
  have r1 := res_keep RN0.out k1
  have b1 := BN0.out.trans (k1.mono BN0.out.size)
  have n1 : w.heap.size < (w0.alloc (.cells #[.int .i64 1, .func (.func 44) #[] #[]] 83)).heap.size := Nat.lt_of_lt_of_le NN0.out k1.size
  replace c0 := cell_keep2 (w := w0) (w' := (w0.alloc (.cells #[.int .i64 1, .func (.func 44) #[] #[]] 83))) k1 c0
  replace c1 := cell_keep2 (w := w0) (w' := (w0.alloc (.cells #[.int .i64 1, .func (.func 44) #[] #[]] 83))) k1 c1
  replace c2 := cell_keep2 (w := w0) (w' := (w0.alloc (.cells #[.int .i64 1, .func (.func 44) #[] #[]] 83))) k1 c2
  replace c3 := cell_keep2 (w := w0) (w' := (w0.alloc (.cells #[.int .i64 1, .func (.func 44) #[] #[]] 83))) k1 c3
  replace c4 := cell_keep2 (w := w0) (w' := (w0.alloc (.cells #[.int .i64 1, .func (.func 44) #[] #[]] 83))) k1 c4
  replace c5 := cell_keep2 (w := w0) (w' := (w0.alloc (.cells #[.int .i64 1, .func (.func 44) #[] #[]] 83))) k1 c5
  replace c6 := cell_keep2 (w := w0) (w' := (w0.alloc (.cells #[.int .i64 1, .func (.func 44) #[] #[]] 83))) k1 c6
  replace c7 := cell_keep2 (w := w0) (w' := (w0.alloc (.cells #[.int .i64 1, .func (.func 44) #[] #[]] 83))) k1 c7
  generalize (w0.alloc (.cells #[.int .i64 1, .func (.func 44) #[] #[]] 83)) = w1 at *
  have RN1 := Lib.hid r1
  have BN1 := Lib.hid b1
  have NN1 := Lib.hid n1
  clear r1 b1 n1 k1 RN0 BN0
  clear hcf NN0
  refine (H0.out _).mono ?_
  rintro e w' ⟨rfl, rfl⟩
  go_wp2_with fail
  rw [rounds_succ]
  go_wp2_with fail
  have k2 : Below w1.heap.size w1 (w1.alloc (.cells #[.int .i64 2, .func (.func 45) #[] #[]] 83)) := (Below.refl _ _).alloc (Nat.le_refl _) _
  have hcf : (w1.alloc (.cells #[.int .i64 2, .func (.func 45) #[] #[]] 83)).cell? ⟨w1.heap.size, 0, none⟩ = some (.int .i64 2) := by
    rw [World.cell?_alloc_at _ _ _ _ rfl]; rfl
  have r2 := res_keep RN1.out k2
  have b2 := BN1.out.trans (k2.mono BN1.out.size)
  have n2 : w.heap.size < (w1.alloc (.cells #[.int .i64 2, .func (.func 45) #[] #[]] 83)).heap.size := Nat.lt_of_lt_of_le NN1.out k2.size
  replace c0 := cell_keep2 (w := w1) (w' := (w1.alloc (.cells #[.int .i64 2, .func (.func 45) #[] #[]] 83))) k2 c0
  replace c1 := cell_keep2 (w := w1) (w' := (w1.alloc (.cells #[.int .i64 2, .func (.func 45) #[] #[]] 83))) k2 c1
  replace c2 := cell_keep2 (w := w1) (w' := (w1.alloc (.cells #[.int .i64 2, .func (.func 45) #[] #[]] 83))) k2 c2
  replace c3 := cell_keep2 (w := w1) (w' := (w1.alloc (.cells #[.int .i64 2, .func (.func 45) #[] #[]] 83))) k2 c3
  replace c4 := cell_keep2 (w := w1) (w' := (w1.alloc (.cells #[.int .i64 2, .func (.func 45) #[] #[]] 83))) k2 c4
  replace c5 := cell_keep2 (w := w1) (w' := (w1.alloc (.cells #[.int .i64 2, .func (.func 45) #[] #[]] 83))) k2 c5
  replace c6 := cell_keep2 (w := w1) (w' := (w1.alloc (.cells #[.int .i64 2, .func (.func 45) #[] #[]] 83))) k2 c6
  replace c7 := cell_keep2 (w := w1) (w' := (w1.alloc (.cells #[.int .i64 2, .func (.func 45) #[] #[]] 83))) k2 c7
  generalize (w1.alloc (.cells #[.int .i64 2, .func (.func 45) #[] #[]] 83)) = w2 at *
  have RN2 := Lib.hid r2
  have BN2 := Lib.hid b2
  have NN2 := Lib.hid n2
  clear r2 b2 n2 k2 RN1 BN1
  clear hcf NN1
  refine (H1.out _).mono ?_
  rintro e w' ⟨rfl, rfl⟩
  go_wp2_with fail
  rw [rounds_succ]
  go_wp2_with fail
  have k3 : Below w2.heap.size w2 (w2.alloc (.cells #[.int .i64 3, .func (.func 46) #[] #[]] 83)) := (Below.refl _ _).alloc (Nat.le_refl _) _
  have hcf : (w2.alloc (.cells #[.int .i64 3, .func (.func 46) #[] #[]] 83)).cell? ⟨w2.heap.size, 0, none⟩ = some (.int .i64 3) := by
    rw [World.cell?_alloc_at _ _ _ _ rfl]; rfl
  have r3 := res_keep RN2.out k3
  have b3 := BN2.out.trans (k3.mono BN2.out.size)
  have n3 : w.heap.size < (w2.alloc (.cells #[.int .i64 3, .func (.func 46) #[] #[]] 83)).heap.size := Nat.lt_of_lt_of_le NN2.out k3.size
  replace c0 := cell_keep2 (w := w2) (w' := (w2.alloc (.cells #[.int .i64 3, .func (.func 46) #[] #[]] 83))) k3 c0
  replace c1 := cell_keep2 (w := w2) (w' := (w2.alloc (.cells #[.int .i64 3, .func (.func 46) #[] #[]] 83))) k3 c1
  replace c2 := cell_keep2 (w := w2) (w' := (w2.alloc (.cells #[.int .i64 3, .func (.func 46) #[] #[]] 83))) k3 c2
  replace c3 := cell_keep2 (w := w2) (w' := (w2.alloc (.cells #[.int .i64 3, .func (.func 46) #[] #[]] 83))) k3 c3
  replace c4 := cell_keep2 (w := w2) (w' := (w2.alloc (.cells #[.int .i64 3, .func (.func 46) #[] #[]] 83))) k3 c4
  replace c5 := cell_keep2 (w := w2) (w' := (w2.alloc (.cells #[.int .i64 3, .func (.func 46) #[] #[]] 83))) k3 c5
  replace c6 := cell_keep2 (w := w2) (w' := (w2.alloc (.cells #[.int .i64 3, .func (.func 46) #[] #[]] 83))) k3 c6
  replace c7 := cell_keep2 (w := w2) (w' := (w2.alloc (.cells #[.int .i64 3, .func (.func 46) #[] #[]] 83))) k3 c7
  generalize (w2.alloc (.cells #[.int .i64 3, .func (.func 46) #[] #[]] 83)) = w3 at *
  have RN3 := Lib.hid r3
  have BN3 := Lib.hid b3
  have NN3 := Lib.hid n3
  clear r3 b3 n3 k3 RN2 BN2
  clear hcf NN2
  refine (H2.out _).mono ?_
  rintro e w' ⟨rfl, rfl⟩
  go_wp2_with fail
  rw [rounds_succ]
  go_wp2_with fail
  have k4 : Below w3.heap.size w3 (w3.alloc (.cells #[.int .i64 4, .func (.func 47) #[] #[]] 83)) := (Below.refl _ _).alloc (Nat.le_refl _) _
  have hcf : (w3.alloc (.cells #[.int .i64 4, .func (.func 47) #[] #[]] 83)).cell? ⟨w3.heap.size, 0, none⟩ = some (.int .i64 4) := by
    rw [World.cell?_alloc_at _ _ _ _ rfl]; rfl
  have r4 := res_keep RN3.out k4
  have b4 := BN3.out.trans (k4.mono BN3.out.size)
  have n4 : w.heap.size < (w3.alloc (.cells #[.int .i64 4, .func (.func 47) #[] #[]] 83)).heap.size := Nat.lt_of_lt_of_le NN3.out k4.size
  replace c0 := cell_keep2 (w := w3) (w' := (w3.alloc (.cells #[.int .i64 4, .func (.func 47) #[] #[]] 83))) k4 c0
  replace c1 := cell_keep2 (w := w3) (w' := (w3.alloc (.cells #[.int .i64 4, .func (.func 47) #[] #[]] 83))) k4 c1
  replace c2 := cell_keep2 (w := w3) (w' := (w3.alloc (.cells #[.int .i64 4, .func (.func 47) #[] #[]] 83))) k4 c2
  replace c3 := cell_keep2 (w := w3) (w' := (w3.alloc (.cells #[.int .i64 4, .func (.func 47) #[] #[]] 83))) k4 c3
  replace c4 := cell_keep2 (w := w3) (w' := (w3.alloc (.cells #[.int .i64 4, .func (.func 47) #[] #[]] 83))) k4 c4
  replace c5 := cell_keep2 (w := w3) (w' := (w3.alloc (.cells #[.int .i64 4, .func (.func 47) #[] #[]] 83))) k4 c5
  replace c6 := cell_keep2 (w := w3) (w' := (w3.alloc (.cells #[.int .i64 4, .func (.func 47) #[] #[]] 83))) k4 c6
  replace c7 := cell_keep2 (w := w3) (w' := (w3.alloc (.cells #[.int .i64 4, .func (.func 47) #[] #[]] 83))) k4 c7
  generalize (w3.alloc (.cells #[.int .i64 4, .func (.func 47) #[] #[]] 83)) = w4 at *
  have RN4 := Lib.hid r4
  have BN4 := Lib.hid b4
  have NN4 := Lib.hid n4
  clear r4 b4 n4 k4 RN3 BN3
  refine (H3.out _ (HF.out.below BN4.out)).mono ?_
  rintro e w5 ⟨rfl, kb⟩
  have HRF := Lib.hid (res_keep RN4.out kb)
  have HBF := Lib.hid (BN4.out.trans (kb.mono BN4.out.size))
  have HCF := Lib.hid (cell_keep2 kb hcf)
  have HFN : w.heap.size ≠ w3.heap.size := by have := NN3.out; omega
  clear kb hcf RN4 BN4 NN4 NN3 c0 c1 c2 c3 c4 c5 c6 c7 H0 H1 H2 H3
  go_wp2_with fail
  go_region_held3 (fun w' => w'.cell? ⟨w3.heap.size, 0, none⟩ = some (.int .i64 4)) (first | exact HCF.out | exact (held_drew HCF.out HRF.out HBF.out kq).1 | exact cell_set4 _ _ _ HFN _ _ _ _ _ (held_drew HCF.out HRF.out HBF.out kq).1) (first | (go_at_call 40; refine (HN.out _).mono ?_; rintro e wq ⟨rfl, kq⟩; obtain ⟨hq0, hq1, hq2, hq3, hq4, hq5, hq6, hq7, hq8, hqb⟩ := held_drew HCF.out HRF.out HBF.out kq))
  have hres := res_drew HRF.out kq
  clear HN HCF HRF HBF kq HF HFN
  go_wp2_with fail
  exact tok_ret hres hqb _ rfl _ rfl _ _ _ _ _ _ _ _ rfl rfl rfl rfl
set_option maxRecDepth 100000 in
set_option maxHeartbeats 4000000 in
theorem tokenAt_none (s : ByteArray) (k : Nat) (hs : s.size ≤ 1000000) (hk : k < s.size) (z0 : markLen (rest s k) = 0) (z1 : wordLen (rest s k) = 0) (z2 : numLen (rest s k) = 0) (hn : tokStr (rest s k) = none) (a : Nat) (w : World) (hF : Facts w) (hK : Known w a) : Calls Tryd.prog 26 #[.slice (some ⟨a, 0, none⟩) 4 4, .string s, .int .i64 k] w fun e w' => e = .returned (.tuple #[.agg #[.int .i64 0, .string ⟨#[]⟩, .int .i64 0, .int .i64 0], .bool false]) ∧ Below w.heap.size w w' := by
  obtain ⟨c0, c1, c2, c3, c4, c5, c6, c7⟩ := hK
  have H0 := Lib.hid (fun w => findMark_any s k hs w)
  rw [z0, found_no] at H0
  have H1 := Lib.hid (fun w => findWord_any s k (by omega) hs w)
  rw [z1, found_no] at H1
  have H2 := Lib.hid (fun w => findNumber_any s k (by omega) hs w)
  rw [z2, found_no] at H2
  have H3 := Lib.hid (fun (w : World) (hF : Facts w) => findString_any s k hk hs w hF)
  rw [hn] at H3
  unfold strV at H3
  have HF := Lib.hid hF
  clear hn hF z0 z1 z2
  go_enter Tryd.func26, Tryd.ntmps26
  go_wp2_with fail
  have b0 : Below w.heap.size w (w.alloc (.cells #[.int .i64 0, .string ⟨#[]⟩, .int .i64 0, .int .i64 0] 61)) := (Below.refl _ _).alloc (Nat.le_refl _) _
  have r0 := res_new w
  have n0 : w.heap.size < (w.alloc (.cells #[.int .i64 0, .string ⟨#[]⟩, .int .i64 0, .int .i64 0] 61)).heap.size := by rw [World.size_alloc]; omega
  have k0 : Below w.heap.size w (w.alloc (.cells #[.int .i64 0, .string ⟨#[]⟩, .int .i64 0, .int .i64 0] 61)) := b0
  replace c0 := cell_keep2 (w := w) (w' := (w.alloc (.cells #[.int .i64 0, .string ⟨#[]⟩, .int .i64 0, .int .i64 0] 61))) k0 c0
  replace c1 := cell_keep2 (w := w) (w' := (w.alloc (.cells #[.int .i64 0, .string ⟨#[]⟩, .int .i64 0, .int .i64 0] 61))) k0 c1
  replace c2 := cell_keep2 (w := w) (w' := (w.alloc (.cells #[.int .i64 0, .string ⟨#[]⟩, .int .i64 0, .int .i64 0] 61))) k0 c2
  replace c3 := cell_keep2 (w := w) (w' := (w.alloc (.cells #[.int .i64 0, .string ⟨#[]⟩, .int .i64 0, .int .i64 0] 61))) k0 c3
  replace c4 := cell_keep2 (w := w) (w' := (w.alloc (.cells #[.int .i64 0, .string ⟨#[]⟩, .int .i64 0, .int .i64 0] 61))) k0 c4
  replace c5 := cell_keep2 (w := w) (w' := (w.alloc (.cells #[.int .i64 0, .string ⟨#[]⟩, .int .i64 0, .int .i64 0] 61))) k0 c5
  replace c6 := cell_keep2 (w := w) (w' := (w.alloc (.cells #[.int .i64 0, .string ⟨#[]⟩, .int .i64 0, .int .i64 0] 61))) k0 c6
  replace c7 := cell_keep2 (w := w) (w' := (w.alloc (.cells #[.int .i64 0, .string ⟨#[]⟩, .int .i64 0, .int .i64 0] 61))) k0 c7
  generalize w.alloc (.cells #[.int .i64 0, .string ⟨#[]⟩, .int .i64 0, .int .i64 0] 61) = w0 at *
  clear k0
  have RN0 := Lib.hid r0
  have BN0 := Lib.hid b0
  have NN0 := Lib.hid n0
  clear r0 b0 n0
  refine wp_loop_rounds 5 ?_
  rw [rounds_succ]
  go_wp2_with fail
  have k1 : Below w0.heap.size w0 (w0.alloc (.cells #[.int .i64 1, .func (.func 44) #[] #[]] 83)) := (Below.refl _ _).alloc (Nat.le_refl _) _
  have hcf : (w0.alloc (.cells #[.int .i64 1, .func (.func 44) #[] #[]] 83)).cell? ⟨w0.heap.size, 0, none⟩ = some (.int .i64 1) := by
    rw [World.cell?_alloc_at _ _ _ _ rfl]; rfl
  have r1 := res_keep RN0.out k1
  have b1 := BN0.out.trans (k1.mono BN0.out.size)
  have n1 : w.heap.size < (w0.alloc (.cells #[.int .i64 1, .func (.func 44) #[] #[]] 83)).heap.size := Nat.lt_of_lt_of_le NN0.out k1.size
  replace c0 := cell_keep2 (w := w0) (w' := (w0.alloc (.cells #[.int .i64 1, .func (.func 44) #[] #[]] 83))) k1 c0
  replace c1 := cell_keep2 (w := w0) (w' := (w0.alloc (.cells #[.int .i64 1, .func (.func 44) #[] #[]] 83))) k1 c1
  replace c2 := cell_keep2 (w := w0) (w' := (w0.alloc (.cells #[.int .i64 1, .func (.func 44) #[] #[]] 83))) k1 c2
  replace c3 := cell_keep2 (w := w0) (w' := (w0.alloc (.cells #[.int .i64 1, .func (.func 44) #[] #[]] 83))) k1 c3
  replace c4 := cell_keep2 (w := w0) (w' := (w0.alloc (.cells #[.int .i64 1, .func (.func 44) #[] #[]] 83))) k1 c4
  replace c5 := cell_keep2 (w := w0) (w' := (w0.alloc (.cells #[.int .i64 1, .func (.func 44) #[] #[]] 83))) k1 c5
  replace c6 := cell_keep2 (w := w0) (w' := (w0.alloc (.cells #[.int .i64 1, .func (.func 44) #[] #[]] 83))) k1 c6
  replace c7 := cell_keep2 (w := w0) (w' := (w0.alloc (.cells #[.int .i64 1, .func (.func 44) #[] #[]] 83))) k1 c7
  generalize (w0.alloc (.cells #[.int .i64 1, .func (.func 44) #[] #[]] 83)) = w1 at *
  have RN1 := Lib.hid r1
  have BN1 := Lib.hid b1
  have NN1 := Lib.hid n1
  clear r1 b1 n1 k1 RN0 BN0
  clear hcf NN0
  refine (H0.out _).mono ?_
  rintro e w' ⟨rfl, rfl⟩
  go_wp2_with fail
  rw [rounds_succ]
  go_wp2_with fail
  have k2 : Below w1.heap.size w1 (w1.alloc (.cells #[.int .i64 2, .func (.func 45) #[] #[]] 83)) := (Below.refl _ _).alloc (Nat.le_refl _) _
  have hcf : (w1.alloc (.cells #[.int .i64 2, .func (.func 45) #[] #[]] 83)).cell? ⟨w1.heap.size, 0, none⟩ = some (.int .i64 2) := by
    rw [World.cell?_alloc_at _ _ _ _ rfl]; rfl
  have r2 := res_keep RN1.out k2
  have b2 := BN1.out.trans (k2.mono BN1.out.size)
  have n2 : w.heap.size < (w1.alloc (.cells #[.int .i64 2, .func (.func 45) #[] #[]] 83)).heap.size := Nat.lt_of_lt_of_le NN1.out k2.size
  replace c0 := cell_keep2 (w := w1) (w' := (w1.alloc (.cells #[.int .i64 2, .func (.func 45) #[] #[]] 83))) k2 c0
  replace c1 := cell_keep2 (w := w1) (w' := (w1.alloc (.cells #[.int .i64 2, .func (.func 45) #[] #[]] 83))) k2 c1
  replace c2 := cell_keep2 (w := w1) (w' := (w1.alloc (.cells #[.int .i64 2, .func (.func 45) #[] #[]] 83))) k2 c2
  replace c3 := cell_keep2 (w := w1) (w' := (w1.alloc (.cells #[.int .i64 2, .func (.func 45) #[] #[]] 83))) k2 c3
  replace c4 := cell_keep2 (w := w1) (w' := (w1.alloc (.cells #[.int .i64 2, .func (.func 45) #[] #[]] 83))) k2 c4
  replace c5 := cell_keep2 (w := w1) (w' := (w1.alloc (.cells #[.int .i64 2, .func (.func 45) #[] #[]] 83))) k2 c5
  replace c6 := cell_keep2 (w := w1) (w' := (w1.alloc (.cells #[.int .i64 2, .func (.func 45) #[] #[]] 83))) k2 c6
  replace c7 := cell_keep2 (w := w1) (w' := (w1.alloc (.cells #[.int .i64 2, .func (.func 45) #[] #[]] 83))) k2 c7
  generalize (w1.alloc (.cells #[.int .i64 2, .func (.func 45) #[] #[]] 83)) = w2 at *
  have RN2 := Lib.hid r2
  have BN2 := Lib.hid b2
  have NN2 := Lib.hid n2
  clear r2 b2 n2 k2 RN1 BN1
  clear hcf NN1
  refine (H1.out _).mono ?_
  rintro e w' ⟨rfl, rfl⟩
  go_wp2_with fail
  rw [rounds_succ]
  go_wp2_with fail
  have k3 : Below w2.heap.size w2 (w2.alloc (.cells #[.int .i64 3, .func (.func 46) #[] #[]] 83)) := (Below.refl _ _).alloc (Nat.le_refl _) _
  have hcf : (w2.alloc (.cells #[.int .i64 3, .func (.func 46) #[] #[]] 83)).cell? ⟨w2.heap.size, 0, none⟩ = some (.int .i64 3) := by
    rw [World.cell?_alloc_at _ _ _ _ rfl]; rfl
  have r3 := res_keep RN2.out k3
  have b3 := BN2.out.trans (k3.mono BN2.out.size)
  have n3 : w.heap.size < (w2.alloc (.cells #[.int .i64 3, .func (.func 46) #[] #[]] 83)).heap.size := Nat.lt_of_lt_of_le NN2.out k3.size
  replace c0 := cell_keep2 (w := w2) (w' := (w2.alloc (.cells #[.int .i64 3, .func (.func 46) #[] #[]] 83))) k3 c0
  replace c1 := cell_keep2 (w := w2) (w' := (w2.alloc (.cells #[.int .i64 3, .func (.func 46) #[] #[]] 83))) k3 c1
  replace c2 := cell_keep2 (w := w2) (w' := (w2.alloc (.cells #[.int .i64 3, .func (.func 46) #[] #[]] 83))) k3 c2
  replace c3 := cell_keep2 (w := w2) (w' := (w2.alloc (.cells #[.int .i64 3, .func (.func 46) #[] #[]] 83))) k3 c3
  replace c4 := cell_keep2 (w := w2) (w' := (w2.alloc (.cells #[.int .i64 3, .func (.func 46) #[] #[]] 83))) k3 c4
  replace c5 := cell_keep2 (w := w2) (w' := (w2.alloc (.cells #[.int .i64 3, .func (.func 46) #[] #[]] 83))) k3 c5
  replace c6 := cell_keep2 (w := w2) (w' := (w2.alloc (.cells #[.int .i64 3, .func (.func 46) #[] #[]] 83))) k3 c6
  replace c7 := cell_keep2 (w := w2) (w' := (w2.alloc (.cells #[.int .i64 3, .func (.func 46) #[] #[]] 83))) k3 c7
  generalize (w2.alloc (.cells #[.int .i64 3, .func (.func 46) #[] #[]] 83)) = w3 at *
  have RN3 := Lib.hid r3
  have BN3 := Lib.hid b3
  have NN3 := Lib.hid n3
  clear r3 b3 n3 k3 RN2 BN2
  clear hcf NN2
  refine (H2.out _).mono ?_
  rintro e w' ⟨rfl, rfl⟩
  go_wp2_with fail
  rw [rounds_succ]
  go_wp2_with fail
  have k4 : Below w3.heap.size w3 (w3.alloc (.cells #[.int .i64 4, .func (.func 47) #[] #[]] 83)) := (Below.refl _ _).alloc (Nat.le_refl _) _
  have hcf : (w3.alloc (.cells #[.int .i64 4, .func (.func 47) #[] #[]] 83)).cell? ⟨w3.heap.size, 0, none⟩ = some (.int .i64 4) := by
    rw [World.cell?_alloc_at _ _ _ _ rfl]; rfl
  have r4 := res_keep RN3.out k4
  have b4 := BN3.out.trans (k4.mono BN3.out.size)
  have n4 : w.heap.size < (w3.alloc (.cells #[.int .i64 4, .func (.func 47) #[] #[]] 83)).heap.size := Nat.lt_of_lt_of_le NN3.out k4.size
  replace c0 := cell_keep2 (w := w3) (w' := (w3.alloc (.cells #[.int .i64 4, .func (.func 47) #[] #[]] 83))) k4 c0
  replace c1 := cell_keep2 (w := w3) (w' := (w3.alloc (.cells #[.int .i64 4, .func (.func 47) #[] #[]] 83))) k4 c1
  replace c2 := cell_keep2 (w := w3) (w' := (w3.alloc (.cells #[.int .i64 4, .func (.func 47) #[] #[]] 83))) k4 c2
  replace c3 := cell_keep2 (w := w3) (w' := (w3.alloc (.cells #[.int .i64 4, .func (.func 47) #[] #[]] 83))) k4 c3
  replace c4 := cell_keep2 (w := w3) (w' := (w3.alloc (.cells #[.int .i64 4, .func (.func 47) #[] #[]] 83))) k4 c4
  replace c5 := cell_keep2 (w := w3) (w' := (w3.alloc (.cells #[.int .i64 4, .func (.func 47) #[] #[]] 83))) k4 c5
  replace c6 := cell_keep2 (w := w3) (w' := (w3.alloc (.cells #[.int .i64 4, .func (.func 47) #[] #[]] 83))) k4 c6
  replace c7 := cell_keep2 (w := w3) (w' := (w3.alloc (.cells #[.int .i64 4, .func (.func 47) #[] #[]] 83))) k4 c7
  generalize (w3.alloc (.cells #[.int .i64 4, .func (.func 47) #[] #[]] 83)) = w4 at *
  have RN4 := Lib.hid r4
  have BN4 := Lib.hid b4
  have NN4 := Lib.hid n4
  clear r4 b4 n4 k4 RN3 BN3
  refine (H3.out _ (HF.out.below BN4.out)).mono ?_
  rintro e w5 ⟨rfl, kb⟩
  have HRF := Lib.hid (res_keep RN4.out kb)
  have HBF := Lib.hid (BN4.out.trans (kb.mono BN4.out.size))
  clear kb hcf RN4 BN4 NN4 NN3 c0 c1 c2 c3 c4 c5 c6 c7 H0 H1 H2 H3
  go_wp2_with fail
  rw [rounds_succ]
  have hqr := HRF.out
  have hqb := HBF.out
  obtain ⟨hq1, hq2, hq3, hq4, hq5, hq6, hq7, hq8⟩ := res_cells hqr
  clear HRF HBF HF
  go_wp2_with fail
  exact tok_ret hqr hqb _ rfl _ rfl _ _ _ _ _ _ _ _ rfl rfl rfl rfl
end Go.Proofs.YtmkjoonbjmieoaaDoor
