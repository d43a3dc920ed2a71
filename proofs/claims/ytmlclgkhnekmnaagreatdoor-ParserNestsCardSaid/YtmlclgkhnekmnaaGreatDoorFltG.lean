/- Part of a proof. -/
import Derived.Test.YtmlclgkhnekmnaaGreatDoorLAwake
import Derived.Deep.QuietTactic
import Derived.BigQuiet
import Derived.Test.YtmlclgkhnekmnaaGreatDoorFltE
import Derived.IntWalk
import Derived.Laws.MathBits
namespace Go.Proofs.YtmlclgkhnekmnaaGreatDoor
open Go.RowKit
variable {FW : World → Prop} {ff : List UInt8 → Nat} {OK : List UInt8 → Prop}
end Go.Proofs.YtmlclgkhnekmnaaGreatDoor
namespace Go.Proofs.YtmlclgkhnekmnaaGreatDoor
open Go.RowKit
variable {FW : World → Prop} {ff : List UInt8 → Nat}
theorem drewN_below {w w' : World} {B : Nat} (h : Below B w w') (n : Nat) : Below B w (w'.drewN n) := h.trans ⟨rfl, rfl, rfl, Nat.le_refl _, fun _ _ => rfl⟩
end Go.Proofs.YtmlclgkhnekmnaaGreatDoor
namespace Go.Proofs.YtmlclgkhnekmnaaGreatDoor
open Go.RowKit
def usV (A B C : Nat) (S : Int) : Int :=
 if (IntKind.u64.wrap ((A : Int) / 2 ^ S.toNat * 2 ^ S.toNat) != (A : Int)) = true then bits .or .u64 ((A : Int) / 2 ^ S.toNat) 1
 else bits .or .u64 (IntKind.u64.wrap ((A : Int) - (if decide (B < C) then 1 else 0)) / 2 ^ S.toNat) (if decide (1 < IntKind.u64.wrap ((B : Int) - (C : Int))) then 1 else 0)
set_option maxRecDepth 100000 in
set_option maxHeartbeats 1000000 in
theorem uscale_any (x : Nat) (hx : x < 18446744073709551616) (N : Nat) (hi lo : Nat) (h1 : hi < 18446744073709551616) (h2 : lo < 18446744073709551616) (s S : Int) (hS : bits .and .i64 s 63 = S) (s0 : 0 ≤ S) (s1 : S ≤ 63) (w : World) (c0 : w.cell? ⟨N, 0, none⟩ = some (.int .u64 hi)) (c1 : w.cell? ⟨N, 1, none⟩ = some (.int .u64 lo)) (c2 : w.cell? ⟨N, 2, none⟩ = some (.int .i64 s)) : Calls Tryz.prog 232 #[.int .u64 x, .pointer (some ⟨N, 0, none⟩)] w fun e w' => e = .returned (.int .u64 (usV (x * hi / 18446744073709551616) (x * hi % 18446744073709551616) (x * lo / 18446744073709551616) S)) ∧ Below w.heap.size w w' := by
 have M1 := Tryz.bits_Mul64 x hi hx h1 w
 have M2 := Tryz.bits_Mul64 x lo hx h2 w
 generalize x * hi / 18446744073709551616 = A at *
 generalize x * hi % 18446744073709551616 = B at *
 generalize x * lo / 18446744073709551616 = C at *
 generalize x * lo % 18446744073709551616 = D at *
 have HM1 := Lib.hid M1
 have HM2 := Lib.hid M2
 clear M1 M2
 cases hc : (IntKind.u64.wrap ((A : Int) / 2 ^ S.toNat * 2 ^ S.toNat) != (A : Int)) with
 | true =>
  have hv : usV A B C S = bits .or .u64 ((A : Int) / 2 ^ S.toNat) 1 := by unfold usV; rw [if_pos hc]
  rw [hv]
  clear hv
  go_enter Tryz.func232, Tryz.ntmps232
  go_wp2_with fail
  refine HM1.out.mono ?_
  rintro e w' ⟨rfl, rfl⟩
  go_wp2_with fail
  go_ret
  exact ⟨rfl, Below.refl _ _⟩
 | false =>
  have HB := Lib.hid bool2u
  obtain ⟨b1, hb1⟩ : ∃ b, decide (B < C) = b := ⟨_, rfl⟩
  obtain ⟨b2, hb2⟩ : ∃ b, decide (1 < IntKind.u64.wrap ((B : Int) - (C : Int))) = b := ⟨_, rfl⟩
  have hv : usV A B C S = bits .or .u64 (IntKind.u64.wrap ((A : Int) - (if b1 then 1 else 0)) / 2 ^ S.toNat) (if b2 then 1 else 0) := by unfold usV; rw [if_neg (by rw [hc]; simp), hb1, hb2]
  rw [hv]
  clear hv
  obtain ⟨z1, hz1⟩ : ∃ z : Int, z = (if b1 then 1 else 0) := ⟨_, rfl⟩
  obtain ⟨z2, hz2⟩ : ∃ z : Int, z = (if b2 then 1 else 0) := ⟨_, rfl⟩
  have HB1 := Lib.hid (bool2u b1)
  have HB2 := Lib.hid (bool2u b2)
  rw [← hz1] at HB1
  rw [← hz2] at HB2
  rw [← hz1, ← hz2]
  clear hz1 hz2 HB
  go_enter Tryz.func232, Tryz.ntmps232
  go_wp2_with fail
  refine HM1.out.mono ?_
  rintro e w' ⟨rfl, rfl⟩
  go_wp2_with fail
  refine HM2.out.mono ?_
  rintro e w' ⟨rfl, rfl⟩
  go_wp2_with fail
  refine (HB1.out _).mono ?_
  rintro e w' ⟨rfl, rfl⟩
  go_wp2_with fail
  go_big_quiet ((go_at_call 219; exact Calls.quiet_of_same ((HB2.out _).mono fun _ _ ⟨h1, h2⟩ => ⟨h1, h2.symm⟩)))
  go_wp2_with fail
  go_ret
  exact ⟨rfl, drewN_below (Below.refl _ _) _⟩
end Go.Proofs.YtmlclgkhnekmnaaGreatDoor
namespace Go.Proofs.YtmlclgkhnekmnaaGreatDoor
open Go.RowKit
def PowIn (H L : Nat → Nat) (W : World) : Prop := ∀ i, i < 696 → W.cell? ⟨12, i * 2, none⟩ = some (.int .u64 (H i : Int)) ∧ W.cell? ⟨12, i * 2 + 1, none⟩ = some (.int .u64 (L i : Int))
set_option maxRecDepth 100000 in
set_option maxHeartbeats 1000000 in
theorem prescale_any (H L : Nat → Nat) (N : Nat) (i : Nat) (hi : i < 696) (e lp : Int) (he : -30000 ≤ e ∧ e ≤ 30000) (hl : -30000 ≤ lp ∧ lp ≤ 30000) (w : World) (hP : PowIn H L w) (c0 c1 c2 : Value) (hr : w.heap[N]? = some (.cells #[c0, c1, c2] 207 (0, 0))) :
 Calls Tryz.prog 231 #[.pointer (some ⟨N, 0, none⟩), .int .i64 e, .int .i64 ((i : Int) - 348), .int .i64 lp] w fun e' w' => e' = .returned (.tuple #[]) ∧ w'.cell? ⟨N, 0, none⟩ = some (.int .u64 (H i : Int)) ∧ w'.cell? ⟨N, 1, none⟩ = some (.int .u64 (L i : Int)) ∧ w'.cell? ⟨N, 2, none⟩ = some (.int .i64 (-(e + lp + 3))) ∧ Below N w w' := by
 obtain ⟨p0, p1⟩ := hP i hi
 have z1 : (i : Int) - 348 - -348 = (i : Int) := by omega
 have z2 : (i : Int) < 696 := by omega
 have a0 : w.cell? ⟨N, 0, none⟩ = some c0 := by unfold World.cell?; simp [hr]
 have a1 : w.cell? ⟨N, 1, none⟩ = some c1 := by unfold World.cell?; simp [hr]
 have a2 : w.cell? ⟨N, 2, none⟩ = some c2 := by unfold World.cell?; simp [hr]
 have f0 : w.frozen? ⟨N, 0, none⟩ = false := frozen_of_row _ _ _ _ _ hr
 have f1 : w.frozen? ⟨N, 1, none⟩ = false := frozen_of_row _ _ _ _ _ hr
 have f2 : w.frozen? ⟨N, 2, none⟩ = false := frozen_of_row _ _ _ _ _ hr
 clear hP
 go_enter Tryz.func231, Tryz.ntmps231
 go_wp2_with fail
 go_end0
 have x0 : ((w.setCell ⟨N, 0, none⟩ (.int .u64 (H i : Int)))).cell? ⟨N, 0, none⟩ = some (.int .u64 (H i : Int)) := World.cell?_setCell_same _ _ _ a0
 have x1 : ((w.setCell ⟨N, 0, none⟩ (.int .u64 (H i : Int)))).cell? ⟨N, 1, none⟩ = some c1 := by rw [World.cell?_setCell_other _ _ _ _ (by simp)]; exact a1
 have x2 : ((w.setCell ⟨N, 0, none⟩ (.int .u64 (H i : Int)))).cell? ⟨N, 2, none⟩ = some c2 := by rw [World.cell?_setCell_other _ _ _ _ (by simp)]; exact a2
 have B1 : Below N w (w.setCell ⟨N, 0, none⟩ (.int .u64 (H i : Int))) := Below.setCell (p := ⟨N, 0, none⟩) (Below.refl _ _) (Nat.le_refl N) _
 generalize w.setCell ⟨N, 0, none⟩ (.int .u64 (H i : Int)) = W1 at *
 have y0 : ((W1.setCell ⟨N, 1, none⟩ (.int .u64 (L i : Int)))).cell? ⟨N, 0, none⟩ = some (.int .u64 (H i : Int)) := by rw [World.cell?_setCell_other _ _ _ _ (by simp)]; exact x0
 have y1 : ((W1.setCell ⟨N, 1, none⟩ (.int .u64 (L i : Int)))).cell? ⟨N, 1, none⟩ = some (.int .u64 (L i : Int)) := World.cell?_setCell_same _ _ _ x1
 have y2 : ((W1.setCell ⟨N, 1, none⟩ (.int .u64 (L i : Int)))).cell? ⟨N, 2, none⟩ = some c2 := by rw [World.cell?_setCell_other _ _ _ _ (by simp)]; exact x2
 have B2 : Below N w (W1.setCell ⟨N, 1, none⟩ (.int .u64 (L i : Int))) := Below.setCell (p := ⟨N, 1, none⟩) B1 (Nat.le_refl N) _
 generalize W1.setCell ⟨N, 1, none⟩ (.int .u64 (L i : Int)) = W2 at *
 exact ⟨rfl, by rw [World.cell?_setCell_other _ _ _ _ (by simp)]; exact y0, by rw [World.cell?_setCell_other _ _ _ _ (by simp)]; exact y1, World.cell?_setCell_same _ _ _ y2, Below.setCell (p := ⟨N, 2, none⟩) B2 (Nat.le_refl N) _⟩
end Go.Proofs.YtmlclgkhnekmnaaGreatDoor
namespace Go.Proofs.YtmlclgkhnekmnaaGreatDoor
open Go.RowKit
theorem and63 (s : Int) : 0 ≤ bits .and .i64 s 63 ∧ bits .and .i64 s 63 ≤ 63 := by
 have h : (BitVec.ofInt IntKind.i64.bits s &&& BitVec.ofInt IntKind.i64.bits 63).toNat ≤ 63 := by
  rw [BitVec.toNat_and]
  exact Nat.and_le_right
 unfold bits
 simp only
 rw [IntWalk.i64_in _ (by omega)]
 omega
def pfV (e0 T U : Int) : Nat × Bool :=
 if 64 ≤ T then ((bits .or .u64 0 0).toNat, false)
 else if 36028797018963966 ≤ U then packV (bits .or .u64 0 (roundV (bits .or .u64 (U / 2) (bits .and .u64 U 1)))) (-(e0 - 1))
 else packV (bits .or .u64 0 (roundV (bits .or .u64 U (bits .and .u64 U 1)))) (-e0)
set_option maxRecDepth 100000 in
set_option maxHeartbeats 2000000 in
theorem parse_walk (H L : Nat → Nat) (hH : ∀ i, H i < 18446744073709551616) (hL : ∀ i, L i < 18446744073709551616) (d : Nat) (hd : d < 18446744073709551616) (b : Nat) (hb : Lib.bitLen d = b) (hb64 : b ≤ 64) (i : Nat) (hi : 3 ≤ i) (hi2 : i ≤ 658)
 (lp0 : Int) (hl1 : -10000 ≤ lp0) (hl2 : lp0 ≤ 10000) (HL2 : ∀ w, Calls Tryz.prog 230 #[.int .i64 ((i : Int) - 348)] w fun e w' => e = .returned (.int .i64 lp0) ∧ w = w')
 (e0 T : Int) (he0 : min 1074 (53 - (b : Int) - lp0) = e0) (hT : -(e0 - (64 - (b : Int)) + lp0 + 3) = T) (x : Nat) (hx : IntKind.u64.wrap ((d : Int) * 2 ^ (64 - b)) = (x : Int)) (hx2 : x < 18446744073709551616)
 (U : Int) (hU : usV (x * H i / 18446744073709551616) (x * H i % 18446744073709551616) (x * L i / 18446744073709551616) (bits .and .i64 T 63) = U) (w : World) (hP : PowIn H L w) :
 Calls Tryz.prog 222 #[.int .u64 d, .int .i64 ((i : Int) - 348), .int .u64 0] w fun e' w' => e' = .returned (.tuple #[.float .f64 (pfV e0 T U).1, errV (pfV e0 T U).2]) ∧ Below w.heap.size w w' := by
 have HLen := Tryz.bits_Len64 (d : Int) w (by omega) (by omega)
 rw [Int.toNat_natCast, hb] at HLen
 have HLEN := Lib.hid HLen
 have HLG := Lib.hid HL2
 have hq := frombits_run
 clear HLen HL2
 obtain ⟨R, hR⟩ : ∃ R, pfV e0 T U = R := ⟨_, rfl⟩
 have HR := Lib.hid hR
 rw [hR]
 clear hR
 go_enter Tryz.func222, Tryz.ntmps222
 go_wp2_with fail
 refine HLEN.out.mono ?_
 rintro e w' ⟨rfl, rfl⟩
 go_wp2_with fail
 refine (HLG.out _).mono ?_
 rintro e w' ⟨rfl, rfl⟩
 go_wp2_with fail
 have r0 : (w'.alloc (.cells #[.int .u64 0, .int .u64 0, .int .i64 0] 207)).heap[w'.heap.size]? = some (.cells #[.int .u64 0, .int .u64 0, .int .i64 0] 207 (0, 0)) := alloc_top _ _ _
 have HB0 : Below w'.heap.size w' (w'.alloc (.cells #[.int .u64 0, .int .u64 0, .int .i64 0] 207)) := (Below.refl _ _).alloc (Nat.le_refl _) _
 have hP1 : PowIn H L (w'.alloc (.cells #[.int .u64 0, .int .u64 0, .int .i64 0] 207)) := fun i hi => ⟨cell_keep2 HB0 (hP i hi).1, cell_keep2 HB0 (hP i hi).2⟩
 have he1 : -20000 ≤ e0 ∧ e0 ≤ 1074 := by omega
 refine (prescale_any H L w'.heap.size i (by omega) (e0 - (64 - (b : Int))) lp0 (by omega) (by omega) _ hP1 _ _ _ r0).mono ?_
 rintro e w2 ⟨rfl, c0, c1, c2, hb2⟩
 have HB2 := Lib.hid (HB0.trans hb2)
 clear hb2 r0 HB0 hP1
 try rw [hT] at c2
 clear hP HLEN HLG
 by_cases h64 : 64 ≤ T
 · have hv : R = ((bits .or .u64 0 0).toNat, false) := by rw [← HR.out]; unfold pfV; rw [if_pos h64]
   have HV := Lib.hid hv
   clear hv hT he0 hU
   go_wp2_with fail
   go_ret2
   exact ⟨by rw [HV.out]; rfl, HB2.out⟩
 · have HU := uscale_any x hx2 w'.heap.size (H i) (L i) (hH i) (hL i) T _ rfl (and63 T).1 (and63 T).2 w2 c0 c1 c2
   rw [hU] at HU
   have HUS := Lib.hid HU
   have HN64 := Lib.hid h64
   clear HU hT hU he0
   go_wp2_with fail
   refine HUS.out.mono ?_
   rintro e w3 ⟨rfl, hb3⟩
   have HB3 := Lib.hid (HB2.out.trans (hb3.mono HB2.out.size))
   clear hb3 c0 c1 c2
   go_wp2_with fail
   refine (unmin_any _).mono ?_
   rintro e w' ⟨rfl, rfl⟩
   obtain ⟨z, hz⟩ : ∃ z, decide (36028797018963966 ≤ U) = z := ⟨_, rfl⟩
   go_wp2_with fail
   refine (Tryz.internal_strconv_bool2_int z _).mono ?_
   rintro e w' ⟨rfl, rfl⟩
   cases z
   · have hv : R = packV (bits .or .u64 0 (roundV (bits .or .u64 U (bits .and .u64 U 1)))) (-e0) := by
      rw [← HR.out]; unfold pfV; rw [if_neg (by have := HN64.out; omega), if_neg (of_decide_eq_false hz)]
     have HV := Lib.hid hv
     clear hv hz
     simp only [Bool.false_eq_true, if_false]
     go_wp2_with fail
     refine (round_any _ _).mono ?_
     rintro e w' ⟨rfl, rfl⟩
     go_wp2_with fail
     refine (pack_any _ _ (by omega) _).mono ?_
     rintro e w' ⟨rfl, rfl⟩
     go_wp2_with fail
     go_ret2
     exact ⟨by rw [HV.out]; rfl, HB3.out⟩
   · have hv : R = packV (bits .or .u64 0 (roundV (bits .or .u64 (U / 2) (bits .and .u64 U 1)))) (-(e0 - 1)) := by
      rw [← HR.out]; unfold pfV; rw [if_neg (by have := HN64.out; omega), if_pos (of_decide_eq_true hz)]
     have HV := Lib.hid hv
     clear hv hz
     simp only [if_true]
     go_wp2_with fail
     refine (round_any _ _).mono ?_
     rintro e w' ⟨rfl, rfl⟩
     go_wp2_with fail
     refine (pack_any _ _ (by omega) _).mono ?_
     rintro e w' ⟨rfl, rfl⟩
     go_wp2_with fail
     go_ret2
     exact ⟨by rw [HV.out]; rfl, HB3.out⟩
end Go.Proofs.YtmlclgkhnekmnaaGreatDoor
namespace Go.Proofs.YtmlclgkhnekmnaaGreatDoor
open Go.RowKit
theorem bitLen_le : ∀ k, k ≤ 64 → ∀ x, x < 2 ^ k → Lib.bitLen x ≤ k
 | 0, _, x, h => by
  obtain rfl : x = 0 := by simpa using h
  decide
 | k + 1, hk, x, h => by
  by_cases h0 : x = 0
  · subst h0
    have : Lib.bitLen 0 = 0 := by decide
    rw [this]; exact Nat.zero_le _
  · have h64 : x < 2 ^ 64 := Nat.lt_of_lt_of_le h (Nat.pow_le_pow_right (by decide) hk)
    rw [Lib.bitLen_half x h0 h64]
    have h2 : x / 2 < 2 ^ k := by rw [Nat.pow_succ] at h; omega
    have := bitLen_le k (by omega) (x / 2) h2
    omega
theorem pfParse_any (H L : Nat → Nat) (hH : ∀ i, H i < 18446744073709551616) (hL : ∀ i, L i < 18446744073709551616) (d : Nat) (hd : d < 18446744073709551616) (e : Int) (h1 : -345 ≤ e) (h2 : e ≤ 310) : ∃ (X : Nat) (err : Bool), ∀ w, PowIn H L w →
 Calls Tryz.prog 222 #[.int .u64 d, .int .i64 e, .int .u64 0] w fun e' w' => e' = .returned (.tuple #[.float .f64 X, errV err]) ∧ Below w.heap.size w w' := by
 obtain ⟨i, hi⟩ : ∃ i : Nat, e = (i : Int) - 348 := ⟨(e + 348).toNat, by omega⟩
 subst hi
 obtain ⟨lp0, hl1, hl2, HL2⟩ := log2_any ((i : Int) - 348) (by omega)
 obtain ⟨x, hx⟩ : ∃ x : Nat, IntKind.u64.wrap ((d : Int) * 2 ^ (64 - Lib.bitLen d)) = (x : Int) := ⟨(IntKind.u64.wrap ((d : Int) * 2 ^ (64 - Lib.bitLen d))).toNat, by rw [IntKind.wrap_u64]; omega⟩
 have hx2 : x < 18446744073709551616 := by rw [IntKind.wrap_u64] at hx; omega
 exact ⟨_, _, fun w hP => parse_walk H L hH hL d hd _ rfl (bitLen_le 64 (Nat.le_refl _) d hd) i (by omega) (by omega) lp0 hl1 hl2 HL2 _ _ rfl rfl x hx hx2 _ rfl w hP⟩
end Go.Proofs.YtmlclgkhnekmnaaGreatDoor
