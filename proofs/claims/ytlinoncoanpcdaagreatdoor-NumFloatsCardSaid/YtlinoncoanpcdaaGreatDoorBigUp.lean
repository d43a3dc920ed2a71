/-
  THE DOCUMENT's NATURAL NUMBERS (emendref01.Up, Scaled): a number times a power of 2, in new memory. Condition: the slice reads as digits below 65536, without a nought at their end.
-/
import Derived.Test.YtlinoncoanpcdaaGreatDoorBigNum
namespace Go.Proofs.YtlinoncoanpcdaaGreatDoor
open Go.RowKit

theorem val_zeros (n : Nat) (l : List Nat) : val (List.replicate n 0 ++ l) = 65536 ^ n * val l := by
  rw [val_append, val_replicate, List.length_replicate]
  simp
theorem pow_split (k : Nat) : 65536 ^ (k / 16) * 2 ^ (k % 16) = 2 ^ k := by
  have h : (65536 : Nat) = 2 ^ 16 := by decide
  rw [h, ← Nat.pow_mul, ← Nat.pow_add]
  congr 1
  omega
set_option maxRecDepth 100000 in
set_option maxHeartbeats 2000000 in
theorem up_pos (A : Option Addr) (ca : Nat) (xs : List Nat) (k : Nat) (hk : k ≤ 10000) (ha : 0 < xs.length) (ha1 : k / 16 + xs.length ≤ 1000) (w : World) (hA : RD w w.heap.size A xs) (hx : ∀ z ∈ xs, z < 65536) : Calls Tryz.prog 75 #[.slice A xs.length ca, .int .i64 (k : Int)] w (LessEnd (val xs * 2 ^ k) w (k / 16 + xs.length + 4)) := by
  obtain ⟨i0, hi, hz0, hz1, hz2⟩ := info_parts Tryz.info30
  have hn0 : ((xs.length : Int) == 0) = false := by simp only [beq_eq_false_iff_ne, ne_eq]; omega
  obtain ⟨b, o, rfl, hbl, hc⟩ := hA ha
  have HA := Lib.hid hA
  have HC := Lib.hid hc
  have HX := Lib.hid hx
  clear hA hc hx
  go_enter Tryz.func75, Tryz.ntmps75
  go_wp2_with (refine wpList_make_full _ rfl _ _ 71 rfl w.heap.size 30 i0 (.int .u64 0) 1 Tryz.underlying71 hi hz0 hz1 .i64 .i64 _ _ (k / 16) rfl rfl ?m1 ?m2 ?m3 ?m4 ?m5 ?_)
  case m1 => omega
  case m2 => omega
  case m3 => rw [hz2]; omega
  case m4 => unfold maxLen; omega
  case m5 => exact Nat.le_refl _
  intro w1 hown hgrow
  have hmc : (madeCells #[Value.int IntKind.u64 0] (k / 16)).toList = cellsU (List.replicate (k / 16) 0) := congrArg Array.toList (made_zero (k / 16))
  rw [hmc] at hown
  have HB1 : Hid (Below w.heap.size w w1) := Lib.hid ((Below.refl _ _).grown hgrow (Nat.le_refl _) (fun j ej => by cases ej))
  clear hmc hgrow
  go_wp2_with (at_builtin; refine wpList_append_own _ rfl _ _ 71 rfl w.heap.size 30 i0 (.int .u64 0) 1 8 Tryz.underlying71 hi hz0 hz1 hz2 rfl (by decide) _ _ _ rfl hown ⟨b, o, none⟩ xs.length ca (cellsU xs) rfl ?c0 ?c1 ?c2 ?c3 ?c4 ?c5 ?_)
  case c0 => simp [cellsU]
  case c1 =>
    intro j u hj
    rw [cellsU, List.getElem?_map] at hj
    obtain ⟨x, hx, rfl⟩ := Option.map_eq_some_iff.1 hj
    rw [Lib.add_plain, HB1.out.cell (p := ⟨b, o + j, none⟩) hbl]
    exact HC.out _ _ hx
  case c2 =>
    intro u hu
    rw [cellsU, List.mem_map] at hu
    obtain ⟨x, _, rfl⟩ := hu
    simp [Value.oneCell']
  case c3 => unfold maxLen; omega
  case c4 => omega
  case c5 => exact HB1.out.size
  intro v' w2 hown' hgrow hne
  have HB2 : Hid (Below w.heap.size w w2) := Lib.hid (HB1.out.grown hgrow HB1.out.size (fun j ej => (World.ownsRow.lt hown j ej).1))
  have hr : cellsU (List.replicate (k / 16) 0) ++ cellsU xs = cellsU (List.replicate (k / 16) 0 ++ xs) := by simp [cellsU]
  rw [hr] at hown'
  obtain ⟨A1, c1, rfl⟩ := slice_form hown'
  have hl1 : (List.replicate (k / 16) 0 ++ xs).length = k / 16 + xs.length := by simp
  have HRD := Lib.hid (rd_of_own hown' hl1)
  clear hr hown' hgrow hne hown
  have hp : 2 ^ (k % 16) ≤ 32768 := Nat.pow_le_pow_right (n := 2) (by decide) (show k % 16 ≤ 15 by omega)
  have hsh : IntKind.u64.wrap (2 ^ (k % 16)) = ((2 ^ (k % 16) : Nat) : Int) := by
    rw [show (2 : Int) ^ (k % 16) = ((2 ^ (k % 16) : Nat) : Int) from by rw [Int.natCast_pow]; rfl]
    exact u64_in (Int.natCast_nonneg _) (by generalize 2 ^ (k % 16) = m at hp; omega)
  have HP := Lib.hid hp
  have HSH := Lib.hid hsh
  have HO := Lib.hid (of_num (2 ^ (k % 16)) (by generalize 2 ^ (k % 16) = m at hp; omega) w2)
  clear hp hsh
  go_wp2_with fail
  rw [HSH.out]
  refine HO.out.mono ?_
  rintro e w3 ⟨A2, c2, l2, rfl, hr2, hn2, hv2, hl2, hc2, hb2⟩
  have hT := times_num A1 A2 c1 c2 (List.replicate (k / 16) 0 ++ xs) l2 (by omega) (by omega) w3 (HRD.out.keep hb2) hr2 (fun z hz => by
    rcases List.mem_append.1 hz with hz | hz
    · rw [List.eq_of_mem_replicate hz]; decide
    · exact HX.out z hz) hn2.1
  rw [hl1, val_zeros, hv2] at hT
  have HT := Lib.hid hT
  have HB3 := Lib.hid (HB2.out.trans (hb2.mono HB2.out.size))
  have HL2 := Lib.hid hl2
  clear hT hr2 hn2 hv2 hl2 hc2 hb2 HO HSH
  go_wp2_with fail
  refine HT.out.mono ?_
  rintro e w4 ⟨A3, c3, l3, rfl, hr3, hn3, hv3, hl3, hc3, hb3⟩
  have HF : Hid (LessEnd (val xs * 2 ^ k) w (k / 16 + xs.length + 4) (.returned (.slice A3 l3.length c3)) w4) := Lib.hid ⟨A3, c3, l3, rfl, hr3, hn3, by rw [hv3, Nat.mul_right_comm, pow_split, Nat.mul_comm], by have := HL2.out; omega, hc3, HB3.out.trans (hb3.mono HB3.out.size)⟩
  clear hr3 hn3 hv3 hl3 hc3 hb3 HT
  go_wp2_with fail
  go_ret
  exact HF.out
theorem rd_nil (w : World) (B : Nat) (A : Option Addr) : RD w B A [] := fun h => by simp at h
set_option maxRecDepth 100000 in
set_option maxHeartbeats 2000000 in
theorem up_nil (A : Option Addr) (ca : Nat) (k : Nat) (w : World) : Calls Tryz.prog 75 #[.slice A 0 ca, .int .i64 (k : Int)] w (LessEnd 0 w 0) := by
  go_enter Tryz.func75, Tryz.ntmps75
  go_wp2_with fail
  go_ret
  exact ⟨none, 0, [], rfl, rd_nil _ _ _, ⟨by simp, .inl rfl⟩, rfl, Nat.le_refl _, Nat.le_refl _, Below.refl _ _⟩
theorem LessEnd.wide {n m m' : Nat} {w : World} {e : Ending} {w' : World} (h : LessEnd n w m e w') (hm : m ≤ m') : LessEnd n w m' e w' := by
  obtain ⟨A, c, l, h1, h2, h3, h4, h5, h6, h7⟩ := h
  exact ⟨A, c, l, h1, h2, h3, h4, by omega, h6, h7⟩
theorem up_any (A : Option Addr) (ca : Nat) (xs : List Nat) (k : Nat) (hk : k ≤ 10000) (ha1 : k / 16 + xs.length ≤ 1000) (w : World) (hA : RD w w.heap.size A xs) (hx : ∀ z ∈ xs, z < 65536) : Calls Tryz.prog 75 #[.slice A xs.length ca, .int .i64 (k : Int)] w (LessEnd (val xs * 2 ^ k) w (k / 16 + xs.length + 4)) := by
  rcases Nat.eq_zero_or_pos xs.length with h | h
  · obtain rfl := List.eq_nil_of_length_eq_zero h
    refine (up_nil A ca k w).mono fun e w' h => ?_
    rw [show val [] * 2 ^ k = 0 from by simp [val]]
    exact h.wide (Nat.zero_le _)
  · exact up_pos A ca xs k hk h ha1 w hA hx
end Go.Proofs.YtlinoncoanpcdaaGreatDoor
