/-
  THE DOCUMENT's NATURAL NUMBERS (emendref01.Sum, and Less where the second number may be above the first): the sum of two numbers, in new memory; of Less then nothing but that it is some digits in new memory. Condition: both slices read as digits below 65536.
-/
import Derived.Test.YtlinoncoanpcdaaGreatDoorBigLess
namespace Go.Proofs.YtlinoncoanpcdaaGreatDoor
open Go.RowKit

/-- The sum so far. -/
def Summed (xs ys ol : List Nat) (k : Nat) (t : Int) : Prop :=
  ol.length = k ∧ (∀ z ∈ ol, z < 65536) ∧ val (xs.take k) + val (ys.take k) = val ol + t.toNat * 65536 ^ k
theorem Summed.start (xs ys : List Nat) : Summed xs ys [] 0 0 := ⟨rfl, by simp, by simp [val]⟩
theorem Summed.step {xs ys ol : List Nat} {k x y : Nat} {t N : Int} (h : Summed xs ys ol k t) (t0 : 0 ≤ t) (hx : val (xs.take (k + 1)) = val (xs.take k) + x * 65536 ^ k) (hy : val (ys.take (k + 1)) = val (ys.take k) + y * 65536 ^ k)
    (hN : N = t + (x : Int) + (y : Int)) : Summed xs ys (ol ++ [(N % 65536).toNat]) (k + 1) (N / 65536) := by
  obtain ⟨h1, h2, h3⟩ := h
  refine ⟨by rw [List.length_append, h1]; rfl, ?_, ?_⟩
  · intro z hz
    rcases List.mem_append.1 hz with hz | hz
    · exact h2 z hz
    · simp only [List.mem_singleton] at hz; omega
  · rw [val_append, hx, hy, h1]
    have e : val [(N % 65536).toNat] = (N % 65536).toNat := by simp [val]
    rw [e]
    have key : t.toNat + x + y = (N % 65536).toNat + (N / 65536).toNat * 65536 := by omega
    have e2 : (t.toNat + x + y) * 65536 ^ k = ((N % 65536).toNat + (N / 65536).toNat * 65536) * 65536 ^ k := by rw [key]
    rw [Nat.add_mul, Nat.add_mul, Nat.add_mul, Nat.mul_assoc, Nat.mul_comm 65536 (65536 ^ k), ← Nat.pow_succ, Nat.succ_eq_add_one] at e2
    rw [Nat.mul_comm (65536 ^ k) (N % 65536).toNat]
    omega
theorem take_more (xs : List Nat) (k : Nat) (h : xs.length ≤ k) : val (xs.take (k + 1)) = val (xs.take k) + 0 * 65536 ^ k := by
  rw [List.take_of_length_le (by omega), List.take_of_length_le h, Nat.zero_mul, Nat.add_zero]
set_option maxRecDepth 100000 in
set_option maxHeartbeats 2000000 in
theorem sum_any (A C : Option Addr) (ca cc : Nat) (xs ys : List Nat) (M : Nat) (hM : M ≤ 1000) (ha : xs.length ≤ M) (hb : ys.length ≤ M) (w : World) (hA : RD w w.heap.size A xs) (hC : RD w w.heap.size C ys)
    (hx : ∀ z ∈ xs, z < 65536) (hy : ∀ z ∈ ys, z < 65536) : Calls Tryz.prog 57 #[.slice A xs.length ca, .slice C ys.length cc] w (LessEnd (val xs + val ys) w (M + 1)) := by
  obtain ⟨i0, hi, hz0, hz1, hz2⟩ := info_parts Tryz.info30
  have HA := Lib.hid hA
  have HC := Lib.hid hC
  have HX := Lib.hid hx
  have HY := Lib.hid hy
  clear hA hC hx hy
  go_enter Tryz.func57, Tryz.ntmps57
  go_wp2_with fail
  go_loopw [5, 6, 7] (fun v tv iv wr => ∃ (j : Nat) (t : Int) (ol : List Nat), j ≤ M + 1 ∧ 0 ≤ t ∧ t ≤ 1 ∧ tv = .int .u64 t ∧ iv = .int .i64 (j : Int) ∧ wr.ownsRow w.heap.size 30 1 v j (cellsU ol) ∧ Hid (Summed xs ys ol j t) ∧ Hid (j = M + 1 → t = 0) ∧ Below w.heap.size w wr) (fun _ _ iv _ => M + 1 - (RowKit.intOf iv).toNat)
  case atStart => exact ⟨0, 0, [], by omega, by omega, by omega, rfl, rfl, World.ownsRow_nil _ _ _ _, Lib.hid (Summed.start xs ys), Lib.hid (fun h => by omega), Below.refl _ _⟩
  case round =>
    obtain ⟨j, t, ol, hj, t0, t1, rfl, rfl, hown, HL, HZ, hb⟩ := hrel
    have HB := Lib.hid hb
    clear hb
    by_cases hjx : j < xs.length
    · have dx : decide (j < xs.length) = true := by simpa using hjx
      obtain ⟨gx, ox, rfl, hblx, hcx⟩ := HA.out (by omega)
      obtain ⟨x, hx⟩ : ∃ x, xs[j]? = some x := ⟨_, List.getElem?_eq_getElem (by omega)⟩
      have hcellx : wr.cell? ⟨gx, ox + j, none⟩ = some (.int .u64 (x : Int)) := by rw [HB.out.cell (p := ⟨gx, ox + j, none⟩) hblx]; exact hcx _ _ hx
      have x1 := HX.out x (List.mem_of_getElem? hx)
      have HTx := Lib.hid (val_take_succ xs j x hx)
      obtain ⟨X, eX⟩ : ∃ X : Int, X = (x : Int) := ⟨_, rfl⟩
      have EX := Lib.hid eX
      rw [← eX] at hcellx
      have X0 : 0 ≤ X := by omega
      have X1 : X ≤ 65535 := by omega
      clear hx hcx eX
      by_cases hjy : j < ys.length
      · have dy : decide (j < ys.length) = true := by simpa using hjy
        obtain ⟨gy, oy, rfl, hbly, hcy⟩ := HC.out (by omega)
        obtain ⟨y, hy⟩ : ∃ y, ys[j]? = some y := ⟨_, List.getElem?_eq_getElem (by omega)⟩
        have hcelly : wr.cell? ⟨gy, oy + j, none⟩ = some (.int .u64 (y : Int)) := by rw [HB.out.cell (p := ⟨gy, oy + j, none⟩) hbly]; exact hcy _ _ hy
        have y1 := HY.out y (List.mem_of_getElem? hy)
        have HTy := Lib.hid (val_take_succ ys j y hy)
        obtain ⟨Y, eY⟩ : ∃ Y : Int, Y = (y : Int) := ⟨_, rfl⟩
        have EY := Lib.hid eY
        rw [← eY] at hcelly
        have Y0 : 0 ≤ Y := by omega
        have Y1 : Y ≤ 65535 := by omega
        clear hy hcy eY
        obtain ⟨N, eN⟩ : ∃ N : Int, N = t + X + Y := ⟨_, rfl⟩
        have N0 : 0 ≤ N := by omega
        have N1 : N ≤ 131071 := by omega
        have HST := Lib.hid (HL.out.step t0 HTx.out HTy.out (N := N) (by have e1 := EX.out; have e2 := EY.out; omega))
        have wn : t + X + Y = N := eN.symm
        have HC1 : Hid (j + 1 = M + 1 → N / 65536 = 0) := Lib.hid (fun h => by omega)
        clear eN
        have hq : IntKind.u64.wrap (N.tdiv 65536) = N / 65536 := udiv65536 N N0 (by omega)
        go_wp2_with (at_builtin; refine wpList_append_own _ rfl _ _ 71 rfl w.heap.size 30 i0 (.int .u64 0) 1 8 Tryz.underlying71 hi hz0 hz1 hz2 rfl (by decide) _ _ _ rfl (hown.alloc _) ⟨wr.heap.size, 0, none⟩ 1 1 [.int .u64 (N % 65536)] rfl rfl ?c1 ?c2 ?c3 ?c4 ?c5 ?_)
        case c1 => exact one_new _ _ _
        case c2 => simp [Value.oneCell']
        case c3 => unfold maxLen; omega
        case c4 => omega
        case c5 => rw [World.size_alloc]; have := HB.out.size; omega
        intro v' w1 hown' hgrow hne
        have HB1 : Hid (Below w.heap.size w w1) := Lib.hid ((HB.out.alloc HB.out.size _).grown hgrow (by rw [World.size_alloc]; have := HB.out.size; omega) (fun j ej => (World.ownsRow.lt hown j ej).1))
        have hr : cellsU ol ++ [Value.int IntKind.u64 (N % 65536)] = cellsU (ol ++ [(N % 65536).toNat]) := by
          rw [cellsU_snoc]
          congr 3
          omega
        rw [hr] at hown'
        have HO := Lib.hid hown'
        clear hr hown' hgrow hne hown
        go_wp2
        refine ⟨⟨j + 1, N / 65536, ol ++ [(N % 65536).toNat], by omega, by omega, by omega, rfl, by go_num, HO.out, HST, HC1, HB1.out⟩, ?_⟩
        simp [RowKit.intOf]
        omega
      · have dy : decide (j < ys.length) = false := by simpa using hjy
        have HTy := Lib.hid (take_more ys j (by omega))
        obtain ⟨N, eN⟩ : ∃ N : Int, N = t + X := ⟨_, rfl⟩
        have N0 : 0 ≤ N := by omega
        have N1 : N ≤ 131071 := by omega
        have HST := Lib.hid (HL.out.step t0 HTx.out HTy.out (N := N) (by have e1 := EX.out; omega))
        have wn : t + X = N := eN.symm
        have HC1 : Hid (j + 1 = M + 1 → N / 65536 = 0) := Lib.hid (fun h => by omega)
        clear eN
        have hq : IntKind.u64.wrap (N.tdiv 65536) = N / 65536 := udiv65536 N N0 (by omega)
        go_wp2_with (at_builtin; refine wpList_append_own _ rfl _ _ 71 rfl w.heap.size 30 i0 (.int .u64 0) 1 8 Tryz.underlying71 hi hz0 hz1 hz2 rfl (by decide) _ _ _ rfl (hown.alloc _) ⟨wr.heap.size, 0, none⟩ 1 1 [.int .u64 (N % 65536)] rfl rfl ?d1 ?d2 ?d3 ?d4 ?d5 ?_)
        case d1 => exact one_new _ _ _
        case d2 => simp [Value.oneCell']
        case d3 => unfold maxLen; omega
        case d4 => omega
        case d5 => rw [World.size_alloc]; have := HB.out.size; omega
        intro v' w1 hown' hgrow hne
        have HB1 : Hid (Below w.heap.size w w1) := Lib.hid ((HB.out.alloc HB.out.size _).grown hgrow (by rw [World.size_alloc]; have := HB.out.size; omega) (fun j ej => (World.ownsRow.lt hown j ej).1))
        have hr : cellsU ol ++ [Value.int IntKind.u64 (N % 65536)] = cellsU (ol ++ [(N % 65536).toNat]) := by
          rw [cellsU_snoc]
          congr 3
          omega
        rw [hr] at hown'
        have HO := Lib.hid hown'
        clear hr hown' hgrow hne hown
        go_wp2
        refine ⟨⟨j + 1, N / 65536, ol ++ [(N % 65536).toNat], by omega, by omega, by omega, rfl, by go_num, HO.out, HST, HC1, HB1.out⟩, ?_⟩
        simp [RowKit.intOf]
        omega
    · have dx : decide (j < xs.length) = false := by simpa using hjx
      have HTx := Lib.hid (take_more xs j (by omega))
      by_cases hjy : j < ys.length
      · have dy : decide (j < ys.length) = true := by simpa using hjy
        obtain ⟨gy, oy, rfl, hbly, hcy⟩ := HC.out (by omega)
        obtain ⟨y, hy⟩ : ∃ y, ys[j]? = some y := ⟨_, List.getElem?_eq_getElem (by omega)⟩
        have hcelly : wr.cell? ⟨gy, oy + j, none⟩ = some (.int .u64 (y : Int)) := by rw [HB.out.cell (p := ⟨gy, oy + j, none⟩) hbly]; exact hcy _ _ hy
        have y1 := HY.out y (List.mem_of_getElem? hy)
        have HTy := Lib.hid (val_take_succ ys j y hy)
        obtain ⟨Y, eY⟩ : ∃ Y : Int, Y = (y : Int) := ⟨_, rfl⟩
        have EY := Lib.hid eY
        rw [← eY] at hcelly
        have Y0 : 0 ≤ Y := by omega
        have Y1 : Y ≤ 65535 := by omega
        clear hy hcy eY
        obtain ⟨N, eN⟩ : ∃ N : Int, N = t + Y := ⟨_, rfl⟩
        have N0 : 0 ≤ N := by omega
        have N1 : N ≤ 131071 := by omega
        have HST := Lib.hid (HL.out.step t0 HTx.out HTy.out (N := N) (by have e2 := EY.out; omega))
        have wn : t + Y = N := eN.symm
        have HC1 : Hid (j + 1 = M + 1 → N / 65536 = 0) := Lib.hid (fun h => by omega)
        clear eN
        have hq : IntKind.u64.wrap (N.tdiv 65536) = N / 65536 := udiv65536 N N0 (by omega)
        go_wp2_with (at_builtin; refine wpList_append_own _ rfl _ _ 71 rfl w.heap.size 30 i0 (.int .u64 0) 1 8 Tryz.underlying71 hi hz0 hz1 hz2 rfl (by decide) _ _ _ rfl (hown.alloc _) ⟨wr.heap.size, 0, none⟩ 1 1 [.int .u64 (N % 65536)] rfl rfl ?e1 ?e2 ?e3 ?e4 ?e5 ?_)
        case e1 => exact one_new _ _ _
        case e2 => simp [Value.oneCell']
        case e3 => unfold maxLen; omega
        case e4 => omega
        case e5 => rw [World.size_alloc]; have := HB.out.size; omega
        intro v' w1 hown' hgrow hne
        have HB1 : Hid (Below w.heap.size w w1) := Lib.hid ((HB.out.alloc HB.out.size _).grown hgrow (by rw [World.size_alloc]; have := HB.out.size; omega) (fun j ej => (World.ownsRow.lt hown j ej).1))
        have hr : cellsU ol ++ [Value.int IntKind.u64 (N % 65536)] = cellsU (ol ++ [(N % 65536).toNat]) := by
          rw [cellsU_snoc]
          congr 3
          omega
        rw [hr] at hown'
        have HO := Lib.hid hown'
        clear hr hown' hgrow hne hown
        go_wp2
        refine ⟨⟨j + 1, N / 65536, ol ++ [(N % 65536).toNat], by omega, by omega, by omega, rfl, by go_num, HO.out, HST, HC1, HB1.out⟩, ?_⟩
        simp [RowKit.intOf]
        omega
      · have dy : decide (j < ys.length) = false := by simpa using hjy
        have HTy := Lib.hid (take_more ys j (by omega))
        by_cases ht : 0 < t
        · have hj2 : j ≤ M := by
            rcases Nat.lt_or_ge j (M + 1) with h | h
            · omega
            · have := HZ.out (by omega); omega
          obtain ⟨N, eN⟩ : ∃ N : Int, N = t := ⟨_, rfl⟩
          have N0 : 0 ≤ N := by omega
          have N1 : N ≤ 131071 := by omega
          have HST := Lib.hid (HL.out.step t0 HTx.out HTy.out (N := N) (by omega))
          have wn : t = N := eN.symm
          have HC1 : Hid (j + 1 = M + 1 → N / 65536 = 0) := Lib.hid (fun h => by omega)
          clear eN
          have hq : IntKind.u64.wrap (N.tdiv 65536) = N / 65536 := udiv65536 N N0 (by omega)
          go_wp2_with (at_builtin; refine wpList_append_own _ rfl _ _ 71 rfl w.heap.size 30 i0 (.int .u64 0) 1 8 Tryz.underlying71 hi hz0 hz1 hz2 rfl (by decide) _ _ _ rfl (hown.alloc _) ⟨wr.heap.size, 0, none⟩ 1 1 [.int .u64 (N % 65536)] rfl rfl ?f1 ?f2 ?f3 ?f4 ?f5 ?_)
          case f1 => exact one_new _ _ _
          case f2 => simp [Value.oneCell']
          case f3 => unfold maxLen; omega
          case f4 => omega
          case f5 => rw [World.size_alloc]; have := HB.out.size; omega
          intro v' w1 hown' hgrow hne
          have HB1 : Hid (Below w.heap.size w w1) := Lib.hid ((HB.out.alloc HB.out.size _).grown hgrow (by rw [World.size_alloc]; have := HB.out.size; omega) (fun j ej => (World.ownsRow.lt hown j ej).1))
          have hr : cellsU ol ++ [Value.int IntKind.u64 (N % 65536)] = cellsU (ol ++ [(N % 65536).toNat]) := by
            rw [cellsU_snoc]
            congr 3
            omega
          rw [hr] at hown'
          have HO := Lib.hid hown'
          clear hr hown' hgrow hne hown
          go_wp2
          refine ⟨⟨j + 1, N / 65536, ol ++ [(N % 65536).toNat], by omega, by omega, by omega, rfl, by go_num, HO.out, HST, HC1, HB1.out⟩, ?_⟩
          simp [RowKit.intOf]
          omega
        · go_wp2_with fail
          obtain ⟨A1, c1, rfl⟩ := slice_form hown
          have hl1 := HL.out.1
          have hT := trim_any A1 c1 _ ol (by omega) (by rw [hl1]; exact cap_of_own hown) wr (rd_of_own hown hl1)
          rw [hl1] at hT
          have HT := Lib.hid hT
          have HRD := Lib.hid (rd_of_own hown hl1)
          have HL1 := Lib.hid hl1
          have HCAP := Lib.hid (cap_of_own hown)
          clear hT hl1 hown
          refine HT.out.mono ?_
          rintro e w1 ⟨k, hk, htk, rfl, hw1⟩
          have HK := Lib.hid htk
          have HW := Lib.hid hw1
          clear htk hw1 HT
          go_wp2_with fail
          go_ret
          have e1 := HL1.out
          have hk' : (ol.take k).length = k := by rw [List.length_take]; omega
          refine ⟨A1, c1, ol.take k, ret_slice hk'.symm, ?_, ?_, ?_, ?_, ?_, ?_⟩
          · rw [← HW.out]; exact HRD.out.take k
          · rw [← HK.out]; exact trim_norm ol HL.out.2.1
          · rw [← HK.out, val_trim]
            have h3 := HL.out.2.2
            rw [List.take_of_length_le (by omega), List.take_of_length_le (by omega), show t.toNat = 0 by omega] at h3
            omega
          · rw [hk']; omega
          · rw [hk']; have := HCAP.out; omega
          · rw [← HW.out]; exact HB.out
/-- Some digits. -/
def LooseEnd (w : World) (e : Ending) (w' : World) : Prop := ∃ A n c, e = .returned (.slice A n c) ∧ Below w.heap.size w w'
set_option maxRecDepth 100000 in
set_option maxHeartbeats 2000000 in
theorem less_loose (A C : Option Addr) (ca cc : Nat) (xs ys : List Nat) (ha : xs.length ≤ 100000) (w : World) (hA : RD w w.heap.size A xs) (hC : RD w w.heap.size C ys)
    (hx : ∀ z ∈ xs, z < 65536) (hy : ∀ z ∈ ys, z < 65536) : Calls Tryz.prog 78 #[.slice A xs.length ca, .slice C ys.length cc] w (LooseEnd w) := by
  obtain ⟨i0, hi, hz0, hz1, hz2⟩ := info_parts Tryz.info30
  have HA := Lib.hid hA
  have HC := Lib.hid hC
  have HX := Lib.hid hx
  have HY := Lib.hid hy
  clear hA hC hx hy
  go_enter Tryz.func78, Tryz.ntmps78
  go_wp2_with fail
  go_loopw [5, 6, 7] (fun v tv iv wr => ∃ (j : Nat) (t : Int) (ol : List Nat), j ≤ xs.length ∧ 0 ≤ t ∧ t ≤ 1 ∧ tv = .int .u64 t ∧ iv = .int .i64 (j : Int) ∧ wr.ownsRow w.heap.size 30 1 v j (cellsU ol) ∧ Hid (ol.length = j) ∧ Below w.heap.size w wr) (fun _ _ iv _ => xs.length - (RowKit.intOf iv).toNat)
  case atStart => exact ⟨0, 0, [], by omega, by omega, by omega, rfl, rfl, World.ownsRow_nil _ _ _ _, Lib.hid rfl, Below.refl _ _⟩
  case round =>
    obtain ⟨j, t, ol, hj, t0, t1, rfl, rfl, hown, HL, hb⟩ := hrel
    have HB := Lib.hid hb
    clear hb
    by_cases hlt : j < xs.length
    · skip
      obtain ⟨gx, ox, rfl, hblx, hcx⟩ := HA.out (by omega)
      obtain ⟨x, hx⟩ : ∃ x, xs[j]? = some x := ⟨_, List.getElem?_eq_getElem (by omega)⟩
      have hcellx : wr.cell? ⟨gx, ox + j, none⟩ = some (.int .u64 (x : Int)) := by rw [HB.out.cell (p := ⟨gx, ox + j, none⟩) hblx]; exact hcx _ _ hx
      have x1 := HX.out x (List.mem_of_getElem? hx)
      obtain ⟨X, eX⟩ : ∃ X : Int, X = (x : Int) := ⟨_, rfl⟩
      rw [← eX] at hcellx
      have X0 : 0 ≤ X := by omega
      have X1 : X ≤ 65535 := by omega
      clear hx hcx eX
      by_cases hjm : j < ys.length
      · skip
        obtain ⟨gy, oy, rfl, hbly, hcy⟩ := HC.out (by omega)
        obtain ⟨y, hy⟩ : ∃ y, ys[j]? = some y := ⟨_, List.getElem?_eq_getElem (by omega)⟩
        have hcelly : wr.cell? ⟨gy, oy + j, none⟩ = some (.int .u64 (y : Int)) := by rw [HB.out.cell (p := ⟨gy, oy + j, none⟩) hbly]; exact hcy _ _ hy
        have y1 := HY.out y (List.mem_of_getElem? hy)
        obtain ⟨Y, eY⟩ : ∃ Y : Int, Y = (y : Int) := ⟨_, rfl⟩
        rw [← eY] at hcelly
        have Y0 : 0 ≤ Y := by omega
        have Y1 : Y ≤ 65535 := by omega
        clear hy hcy eY
        obtain ⟨N, eN⟩ : ∃ N : Int, N = X + 65536 - t - Y := ⟨_, rfl⟩
        have N0 : 0 ≤ N := by omega
        have N1 : N ≤ 131071 := by omega
        have wn : X + 65536 - t - Y = N := eN.symm
        clear eN
        have hq : IntKind.u64.wrap (1 - N / 65536) = 1 - N / 65536 := u64_in (by omega) (by omega)
        go_wp2_with (at_builtin; refine wpList_append_own _ rfl _ _ 71 rfl w.heap.size 30 i0 (.int .u64 0) 1 8 Tryz.underlying71 hi hz0 hz1 hz2 rfl (by decide) _ _ _ rfl (hown.alloc _) ⟨wr.heap.size, 0, none⟩ 1 1 [.int .u64 (N % 65536)] rfl rfl ?c1 ?c2 ?c3 ?c4 ?c5 ?_)
        case c1 => exact one_new _ _ _
        case c2 => simp [Value.oneCell']
        case c3 => unfold maxLen; omega
        case c4 => omega
        case c5 => rw [World.size_alloc]; have := HB.out.size; omega
        intro v' w1 hown' hgrow hne
        have HB1 : Hid (Below w.heap.size w w1) := Lib.hid ((HB.out.alloc HB.out.size _).grown hgrow (by rw [World.size_alloc]; have := HB.out.size; omega) (fun j ej => (World.ownsRow.lt hown j ej).1))
        have hr : cellsU ol ++ [Value.int IntKind.u64 (N % 65536)] = cellsU (ol ++ [(N % 65536).toNat]) := by
          rw [cellsU_snoc]
          congr 3
          omega
        rw [hr] at hown'
        have HO := Lib.hid hown'
        clear hr hown' hgrow hne hown
        go_wp2
        refine ⟨⟨j + 1, 1 - N / 65536, ol ++ [(N % 65536).toNat], by omega, by omega, by omega, rfl, by go_num, HO.out, Lib.hid (by rw [List.length_append, HL.out]; rfl), HB1.out⟩, ?_⟩
        simp [RowKit.intOf]
        omega
      · skip
        obtain ⟨N, eN⟩ : ∃ N : Int, N = X + 65536 - t := ⟨_, rfl⟩
        have N0 : 0 ≤ N := by omega
        have N1 : N ≤ 131071 := by omega
        have wn : X + 65536 - t = N := eN.symm
        clear eN
        have hq : IntKind.u64.wrap (1 - N / 65536) = 1 - N / 65536 := u64_in (by omega) (by omega)
        go_wp2_with (at_builtin; refine wpList_append_own _ rfl _ _ 71 rfl w.heap.size 30 i0 (.int .u64 0) 1 8 Tryz.underlying71 hi hz0 hz1 hz2 rfl (by decide) _ _ _ rfl (hown.alloc _) ⟨wr.heap.size, 0, none⟩ 1 1 [.int .u64 (N % 65536)] rfl rfl ?d1 ?d2 ?d3 ?d4 ?d5 ?_)
        case d1 => exact one_new _ _ _
        case d2 => simp [Value.oneCell']
        case d3 => unfold maxLen; omega
        case d4 => omega
        case d5 => rw [World.size_alloc]; have := HB.out.size; omega
        intro v' w1 hown' hgrow hne
        have HB1 : Hid (Below w.heap.size w w1) := Lib.hid ((HB.out.alloc HB.out.size _).grown hgrow (by rw [World.size_alloc]; have := HB.out.size; omega) (fun j ej => (World.ownsRow.lt hown j ej).1))
        have hr : cellsU ol ++ [Value.int IntKind.u64 (N % 65536)] = cellsU (ol ++ [(N % 65536).toNat]) := by
          rw [cellsU_snoc]
          congr 3
          omega
        rw [hr] at hown'
        have HO := Lib.hid hown'
        clear hr hown' hgrow hne hown
        go_wp2
        refine ⟨⟨j + 1, 1 - N / 65536, ol ++ [(N % 65536).toNat], by omega, by omega, by omega, rfl, by go_num, HO.out, Lib.hid (by rw [List.length_append, HL.out]; rfl), HB1.out⟩, ?_⟩
        simp [RowKit.intOf]
        omega
    · obtain rfl : j = xs.length := by omega
      obtain ⟨A1, c1, rfl⟩ := slice_form hown
      have hl1 := HL.out
      have hT := trim_any A1 c1 _ ol (by omega) (by rw [hl1]; exact cap_of_own hown) wr (rd_of_own hown hl1)
      rw [hl1] at hT
      have HT := Lib.hid hT
      clear hT hl1 hown
      go_wp2_with fail
      refine HT.out.mono ?_
      rintro e w1 ⟨k, hk, ht, rfl, hw1⟩
      have HW := Lib.hid hw1
      clear ht hw1 HT
      go_wp2_with fail
      go_ret
      exact ⟨A1, k, c1, rfl, by rw [← HW.out]; exact HB.out⟩
end Go.Proofs.YtlinoncoanpcdaaGreatDoor
