/-
  THE DOCUMENT's NATURAL NUMBERS (emendref01.Times): the product's digits, in new memory. Condition: both slices read as digits below 65536.
-/
import Derived.Test.YtlinoncoanpcdaaGreatDoorBigVal
import Derived.Deep.OwnRows
import Derived.RegionTactic
namespace Go.Proofs.YtlinoncoanpcdaaGreatDoor
open Go.RowKit

/-- The cells of numbers, as a block's. -/
def blkU (l : List Nat) : Array Value := (cellsU l).toArray
theorem made_zero (n : Nat) : madeCells #[.int .u64 0] n = blkU (List.replicate n 0) := by
  unfold madeCells blkU cellsU
  apply Array.ext
  · simp
  · intro i h1 h2
    simp [Nat.mod_one]
theorem blkU_at (l : List Nat) (i : Nat) : (blkU l)[i]? = (l[i]?).map fun (x : Nat) => Value.int .u64 (x : Int) := by
  unfold blkU cellsU
  simp
theorem blkU_set (l : List Nat) (i x : Nat) : (blkU l).setIfInBounds i (.int .u64 (x : Int)) = blkU (l.set i x) := by
  unfold blkU cellsU
  simp [List.map_set]
theorem u64_in {n : Int} (h0 : 0 ≤ n) (h1 : n ≤ 18446744073709551615) : IntKind.u64.wrap n = n := by
  unfold IntKind.wrap
  simp [IntKind.signed, IntKind.bits]
  omega
theorem prod_le {X Y : Int} (x0 : 0 ≤ X) (x1 : X ≤ 65535) (y0 : 0 ≤ Y) (y1 : Y ≤ 65535) : 0 ≤ X * Y ∧ X * Y ≤ 4294836225 := by
  refine ⟨Int.mul_nonneg x0 y0, ?_⟩
  have := Int.mul_le_mul x1 y1 y0 (by omega)
  omega
/-- What Times hands back. -/
def TimesEnd (xs ys : List Nat) (w : World) (e : Ending) (w' : World) : Prop :=
  ∃ A c l, e = .returned (.slice A l.length c) ∧ RD w' w'.heap.size A l ∧ (∀ z ∈ l, z < 65536) ∧ val l = val xs * val ys ∧ l.length ≤ xs.length + ys.length ∧ l.length ≤ c ∧ Below w.heap.size w w'
/-- The product so far, inside a row. -/
def InRow (xs ys l : List Nat) (j k x : Nat) (c : Int) : Prop :=
  xs[j]? = some x ∧ val l + c.toNat * 65536 ^ (j + k) = val (xs.take j) * val ys + x * val (ys.take k) * 65536 ^ j ∧ ∀ t, j + ys.length ≤ t → t < l.length → l[t]? = some 0
/-- The product so far, between rows. -/
def AtRow (xs ys l : List Nat) (j : Nat) : Prop := val l = val (xs.take j) * val ys ∧ ∀ t, j + ys.length ≤ t → t < l.length → l[t]? = some 0
theorem AtRow.start (xs ys : List Nat) : AtRow xs ys (List.replicate (xs.length + ys.length) 0) 0 :=
  ⟨by rw [val_replicate]; simp [val], fun t _ h => by rw [List.length_replicate] at h; rw [List.getElem?_replicate, if_pos h]⟩
theorem AtRow.enter {xs ys l : List Nat} {j x : Nat} (h : AtRow xs ys l j) (hx : xs[j]? = some x) : InRow xs ys l j 0 x 0 :=
  ⟨hx, by rw [h.1]; simp [val], h.2⟩
theorem InRow.step {xs ys l : List Nat} {j k x y z : Nat} {c N : Int} (h : InRow xs ys l j k x c) (hy : ys[k]? = some y) (hz : l[j + k]? = some z) (c0 : 0 ≤ c) (hN : N = (z : Int) + (x : Int) * (y : Int) + c) :
    InRow xs ys (l.set (j + k) (N % 65536).toNat) j (k + 1) x (N / 65536) := by
  obtain ⟨h1, h2, h3⟩ := h
  have e1 : (N % 65536).toNat = (z + x * y + c.toNat) % 65536 := by
    have : N = ((z + x * y + c.toNat : Nat) : Int) := by rw [hN]; simp only [Int.natCast_add, Int.natCast_mul]; omega
    omega
  have e2 : (N / 65536).toNat = (z + x * y + c.toNat) / 65536 := by
    have : N = ((z + x * y + c.toNat : Nat) : Int) := by rw [hN]; simp only [Int.natCast_add, Int.natCast_mul]; omega
    omega
  refine ⟨h1, ?_, fun t ht hl => ?_⟩
  · rw [e1, e2, val_take_succ ys k y hy]
    exact inner_step l j k z x y c.toNat _ _ hz h2
  · have hk := (List.getElem?_eq_some_iff.1 hy).1
    rw [List.length_set] at hl
    rw [List.getElem?_set_ne (by omega)]
    exact h3 t ht hl
theorem InRow.leave {xs ys l : List Nat} {j x : Nat} {c : Int} (h : InRow xs ys l j ys.length x c) (hl : l.length = xs.length + ys.length) : AtRow xs ys (l.set (j + ys.length) c.toNat) (j + 1) := by
  obtain ⟨h1, h2, h3⟩ := h
  have hj := (List.getElem?_eq_some_iff.1 h1).1
  rw [List.take_length] at h2
  refine ⟨?_, fun t ht hlt => ?_⟩
  · rw [row_end l j ys.length x c.toNat _ _ (h3 _ (by omega) (by omega)) h2, val_take_succ xs j x h1, Nat.add_mul, Nat.mul_right_comm]
  · rw [List.length_set] at hlt
    rw [List.getElem?_set_ne (by omega)]
    exact h3 t (by omega) hlt
theorem set_below {l : List Nat} {i x : Nat} (h : ∀ z ∈ l, z < 65536) (hx : x < 65536) : ∀ z ∈ l.set i x, z < 65536 := by
  intro z hz
  rcases List.mem_or_eq_of_mem_set hz with h1 | h1
  · exact h z h1
  · omega
theorem drew_drew (w : World) (a b : Nat) : (w.drewN a).drewN b = w.drewN (a + b) := by simp [World.drewN, Nat.add_assoc]
theorem world_put (w : World) (l : List Nat) (i x : Nat) (X : Int) (hx : X = (x : Int)) (q : Nat) : ((w.alloc (.cells (blkU l) 30)).drewN q).setCell ⟨w.heap.size, i, none⟩ (.int .u64 X) = (w.alloc (.cells (blkU (l.set i x)) 30)).drewN q := by
  show ((w.alloc (.cells (blkU l) 30)).setCell ⟨w.heap.size, i, none⟩ (.int .u64 X)).drewN q = _
  rw [World.setCell_alloc_at _ _ _ _ _ rfl, hx, blkU_set]
theorem ret_slice {A : Option Addr} {c k k' : Nat} (h : k = k') : Ending.returned (.slice A k c) = .returned (.slice A k' c) := by rw [h]
theorem below_drewN {B : Nat} {a w : World} (h : Below B a w) (q : Nat) : Below B a (w.drewN q) := ⟨h.os, h.tape, h.output, h.size, h.block⟩
theorem rd_out (w : World) (l : List Nat) (q : Nat) : RD ((w.alloc (.cells (blkU l) 30)).drewN q) ((w.alloc (.cells (blkU l) 30)).drewN q).heap.size (some ⟨w.heap.size, 0, none⟩) l := by
  intro _
  refine ⟨w.heap.size, 0, rfl, ?_, fun i x hx => ?_⟩
  · show w.heap.size < (w.alloc (.cells (blkU l) 30)).heap.size
    rw [World.size_alloc]
    omega
  · show (w.alloc (.cells (blkU l) 30)).cell? ⟨w.heap.size, 0 + i, none⟩ = _
    rw [World.cell?_alloc_at _ _ _ _ rfl, Nat.zero_add, blkU_at, hx]
    rfl
theorem RD.take {w : World} {B : Nat} {A : Option Addr} {l : List Nat} (h : RD w B A l) (k : Nat) : RD w B A (l.take k) := by
  intro hl
  rw [List.length_take] at hl
  obtain ⟨b, o, e, hb, hc⟩ := h (by omega)
  refine ⟨b, o, e, hb, fun i x hx => hc i x ?_⟩
  rw [List.getElem?_take] at hx
  split at hx
  · exact hx
  · cases hx
set_option maxRecDepth 100000 in
set_option maxHeartbeats 2000000 in
theorem times_any (A C : Option Addr) (ca cc : Nat) (xs ys : List Nat) (ha : xs.length ≤ 1000) (hb : ys.length ≤ 1000) (w : World) (hA : RD w w.heap.size A xs) (hC : RD w w.heap.size C ys) (hx1 : ∀ x ∈ xs, x < 65536) (hy1 : ∀ y ∈ ys, y < 65536) :
    Calls Tryz.prog 58 #[.slice A xs.length ca, .slice C ys.length cc] w (TimesEnd xs ys w) := by
  have hmk : ∀ W : World, (Instr.makeSlice 71 (.int .i64 ((xs.length : Int) + ys.length)) (.int .i64 ((xs.length : Int) + ys.length))).run Tryz.prog W = .ok (.slice (some ⟨W.heap.size, 0, none⟩) (xs.length + ys.length) (xs.length + ys.length)) (W.alloc (.cells (blkU (List.replicate (xs.length + ys.length) 0)) 30)) := by
    intro W
    have := run_make_row' (P := Tryz.prog) 71 30 (.int .u64 0) 8 Tryz.underlying71 Tryz.info30 rfl .i64 .i64 (xs.length + ys.length) (by omega) (by omega) W
    rw [Int.natCast_add] at this
    rw [this, made_zero]
  have HA := Lib.hid hA
  have HC := Lib.hid hC
  have HX1 := Lib.hid hx1
  have HY1 := Lib.hid hy1
  clear hA hC hx1 hy1
  go_enter Tryz.func58, Tryz.ntmps58
  go_wp2_with fail
  go_loopw [6] (fun i wr => ∃ (j q : Nat) (l : List Nat), j ≤ xs.length ∧ i = .int .i64 (j : Int) ∧ wr = (w.alloc (.cells (blkU l) 30)).drewN q ∧ Hid (l.length = xs.length + ys.length ∧ (∀ z ∈ l, z < 65536) ∧ AtRow xs ys l j)) (fun i _ => xs.length - (RowKit.intOf i).toNat)
  case atStart => exact ⟨0, 0, _, by omega, rfl, rfl, Lib.hid ⟨by simp, fun z hz => by rw [List.eq_of_mem_replicate hz]; decide, AtRow.start xs ys⟩⟩
  case round =>
    obtain ⟨j, q, l, hj, rfl, rfl, hl⟩ := hrel
    by_cases hlt : j < xs.length
    · obtain ⟨x, hx⟩ : ∃ x, xs[j]? = some x := ⟨_, List.getElem?_eq_getElem hlt⟩
      have HX := Lib.hid hx
      clear hx
      go_wp2_with fail
      go_loopw [7, 8, 9] (fun cv kv _ wr => ∃ (k q : Nat) (c : Int) (l : List Nat), k ≤ ys.length ∧ 0 ≤ c ∧ c ≤ 65535 ∧ cv = .int .u64 c ∧ kv = .int .i64 (k : Int) ∧ wr = (w.alloc (.cells (blkU l) 30)).drewN q ∧ Hid (l.length = xs.length + ys.length ∧ (∀ z ∈ l, z < 65536) ∧ InRow xs ys l j k x c)) (fun _ kv _ _ => ys.length - (RowKit.intOf kv).toNat)
      case atStart => exact ⟨0, q, 0, l, by omega, by omega, by omega, rfl, rfl, rfl, Lib.hid ⟨hl.out.1, hl.out.2.1, hl.out.2.2.enter HX.out⟩⟩
      case round =>
        clear hl
        obtain ⟨k, q, c, l, hk, c0, c1, rfl, rfl, rfl, hl⟩ := hrel
        by_cases hkt : k < ys.length
        · obtain ⟨b, o, rfl, hbl, hc⟩ := HA.out (by omega)
          obtain ⟨b', o', rfl, hbl', hc'⟩ := HC.out (by omega)
          obtain ⟨y, hy⟩ : ∃ y, ys[k]? = some y := ⟨_, List.getElem?_eq_getElem hkt⟩
          obtain ⟨z, hz⟩ : ∃ z, l[j + k]? = some z := ⟨_, List.getElem?_eq_getElem (by have := hl.out.1; omega)⟩
          have hcx := hc _ _ HX.out
          have hcy := hc' _ _ hy
          have hcz : (blkU l)[j + k]? = some (.int .u64 (z : Int)) := by rw [blkU_at, hz]; rfl
          obtain ⟨X, eX⟩ : ∃ X : Int, X = (x : Int) := ⟨_, rfl⟩
          obtain ⟨Y, eY⟩ : ∃ Y : Int, Y = (y : Int) := ⟨_, rfl⟩
          obtain ⟨Z, eZ⟩ : ∃ Z : Int, Z = (z : Int) := ⟨_, rfl⟩
          rw [← eX] at hcx
          rw [← eY] at hcy
          rw [← eZ] at hcz
          have X0 : 0 ≤ X := by omega
          have Y0 : 0 ≤ Y := by omega
          have Z0 : 0 ≤ Z := by omega
          have X1 : X ≤ 65535 := by have := HX1.out x (List.mem_of_getElem? HX.out); omega
          have Y1 : Y ≤ 65535 := by have := HY1.out y (List.mem_of_getElem? hy); omega
          have Z1 : Z ≤ 65535 := by have := hl.out.2.1 z (List.mem_of_getElem? hz); omega
          have P := prod_le X0 X1 Y0 Y1
          have w1 := u64_in (n := X * Y) (by omega) (by omega)
          have w2 := u64_in (n := Z + X * Y) (by omega) (by omega)
          have w3 := u64_in (n := Z + X * Y + c) (by omega) (by omega)
          have i1 : IntKind.i64.wrap ((j : Int) + (k : Int)) = (j : Int) + (k : Int) := IntWalk.i64_in _ (by omega)
          have i2 : ((j : Int) + (k : Int)).toNat = j + k := by omega
          have i3 : 0 ≤ (j : Int) + (k : Int) := by omega
          have i4 : (j : Int) + (k : Int) < ((xs.length + ys.length : Nat) : Int) := by omega
          have i5 : (j : Int) + (k : Int) < (xs.length : Int) + (ys.length : Int) := by omega
          obtain ⟨N, eN⟩ : ∃ N : Int, N = Z + X * Y + c := ⟨_, rfl⟩
          have N0 : 0 ≤ N := by omega
          have N1 : N ≤ 4294967295 := by omega
          have hstep : InRow xs ys (l.set (j + k) (N % 65536).toNat) j (k + 1) x (N / 65536) := hl.out.2.2.step hy hz c0 (by rw [eN, eX, eY, eZ])
          have HS := Lib.hid hstep
          have EN := Lib.hid eN
          clear hy hz eX eY eZ hc hc' hstep eN
          go_wp2_with fail
          go_quiet (fail)
          rw [← EN.out, drew_drew]
          clear w1 w2 w3 i1 i2 i3 i4 i5 P X0 X1 Y0 Y1 Z0 Z1 EN hcx hcy
          have hq := udiv65536 N N0 (by omega)
          go_wp2_with fail
          refine ⟨⟨k + 1, q + nq, N / 65536, l.set (j + k) (N % 65536).toNat, by omega, by omega, by omega, rfl, by go_num, world_put w l (j + k) _ _ (by omega) _, Lib.hid ⟨by rw [List.length_set]; exact hl.out.1, set_below hl.out.2.1 (by omega), HS.out⟩⟩, ?_⟩
          simp [RowKit.intOf]
          omega
        · obtain rfl : k = ys.length := by omega
          obtain ⟨C1, eC⟩ : ∃ n : Nat, c = (n : Int) := Int.eq_ofNat_of_zero_le c0
          have hlen := hl.out.1
          have i2 : ((j : Int) + (ys.length : Int)).toNat = j + ys.length := by omega
          have hcz : (blkU l)[j + ys.length]? = some (.int .u64 0) := by
            rw [blkU_at, hl.out.2.2.2.2 _ (Nat.le_refl _) (by omega)]
            rfl
          have HC1 := Lib.hid eC
          have HLEN := Lib.hid hlen
          clear eC hlen
          go_wp2_with fail
          have e1 := HC1.out
          refine ⟨⟨j + 1, q, l.set (j + ys.length) c.toNat, by omega, by go_num, world_put w l (j + ys.length) _ _ (by omega) _, Lib.hid ⟨by rw [List.length_set]; exact hl.out.1, set_below hl.out.2.1 (by omega), hl.out.2.2.leave hl.out.1⟩⟩, ?_⟩
          simp [RowKit.intOf]
          omega
    · obtain rfl : j = xs.length := by omega
      have HT := Lib.hid (trim_any (some ⟨w.heap.size, 0, none⟩) (xs.length + ys.length) _ l (by have := hl.out.1; omega) (by have := hl.out.1; omega) _ (rd_out w l q))
      rw [hl.out.1] at HT
      go_wp2_with fail
      refine HT.out.mono ?_
      rintro e w1 ⟨k, hk, ht, rfl, hw1⟩
      have HK := Lib.hid ht
      have HW := Lib.hid hw1
      clear ht hw1 HT
      go_wp2_with fail
      go_ret
      have hk' : (l.take k).length = k := by rw [List.length_take]; omega
      refine ⟨some ⟨w.heap.size, 0, none⟩, xs.length + ys.length, l.take k, ret_slice hk'.symm, ?_, fun z hz => hl.out.2.1 z (List.mem_of_mem_take hz), ?_, ?_, ?_, ?_⟩
      · rw [← HW.out]
        exact (rd_out w l q).take k
      · have h3 := hl.out.2.2.1
        rw [List.take_length] at h3
        rw [← HK.out, val_trim, h3]
      · rw [hk']; have := hl.out.1; omega
      · rw [hk']; have := hl.out.1; omega
      · rw [← HW.out]
        exact below_drewN ((Below.refl _ _).alloc (Nat.le_refl _) _) q
end Go.Proofs.YtlinoncoanpcdaaGreatDoor
