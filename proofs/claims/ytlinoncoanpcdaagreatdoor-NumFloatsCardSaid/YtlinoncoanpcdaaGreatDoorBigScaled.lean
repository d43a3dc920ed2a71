/-
  THE DOCUMENT's NATURAL NUMBERS (emendref01.Scaled): a fraction times a power of 2, up or down. Condition: both slices read as digits below 65536 without a nought at their end; the power's bounds.
-/
import Derived.Test.YtlinoncoanpcdaaGreatDoorBigUp
namespace Go.Proofs.YtlinoncoanpcdaaGreatDoor
open Go.RowKit
/-- What Scaled hands back. -/
def ScaledEnd (P Q : Nat) (k : Int) (m : Nat) (w : World) (e : Ending) (w' : World) : Prop :=
  ∃ A a xs C c ys, e = .returned (.tuple #[.slice A xs.length a, .slice C ys.length c]) ∧ RD w' w'.heap.size A xs ∧ RD w' w'.heap.size C ys ∧ Norm xs ∧ Norm ys ∧
    val xs = P * 2 ^ k.toNat ∧ val ys = Q * 2 ^ (-k).toNat ∧ xs.length ≤ m ∧ ys.length ≤ m ∧ Below w.heap.size w w'
set_option maxRecDepth 100000 in
set_option maxHeartbeats 2000000 in
theorem scaled_any (A C : Option Addr) (ca cc : Nat) (xs ys : List Nat) (k : Int) (hk0 : -10000 ≤ k) (hk : k ≤ 10000) (ha : xs.length ≤ 300) (hb : ys.length ≤ 300) (w : World) (hA : RD w w.heap.size A xs) (hC : RD w w.heap.size C ys) (hx : Norm xs) (hy : Norm ys) :
    Calls Tryz.prog 76 #[.slice A xs.length ca, .slice C ys.length cc, .int .i64 k] w (ScaledEnd (val xs) (val ys) k 940 w) := by
  have HA := Lib.hid hA
  have HC := Lib.hid hC
  have HX := Lib.hid hx
  have HY := Lib.hid hy
  clear hA hC hx hy
  by_cases h0 : 0 ≤ k
  · obtain ⟨j, rfl⟩ := Int.eq_ofNat_of_zero_le h0
    have HU := Lib.hid (up_any A ca xs j (by omega) (by omega) w HA.out HX.out.1)
    go_enter Tryz.func76, Tryz.ntmps76
    go_wp2_with fail
    refine HU.out.mono ?_
    rintro e w1 ⟨A1, c1, l1, rfl, hr, hn, hv, hl, hc, hb1⟩
    have HF : Hid (ScaledEnd (val xs) (val ys) (j : Int) 940 w (.returned (.tuple #[.slice A1 l1.length c1, .slice C ys.length cc])) w1) :=
      Lib.hid ⟨A1, c1, l1, C, cc, ys, rfl, hr, HC.out.keep hb1, hn, HY.out, by rw [hv]; rfl, by rw [show (-(j : Int)).toNat = 0 from by omega]; simp, by omega, by omega, hb1⟩
    clear hr hn hv hl hc hb1 HU
    go_wp2_with fail
    go_ret2
    exact HF.out
  · obtain ⟨j, hj⟩ : ∃ j : Nat, -k = (j : Int) := ⟨(-k).toNat, by omega⟩
    have HU := Lib.hid (up_any C cc ys j (by omega) (by omega) w HC.out HY.out.1)
    go_enter Tryz.func76, Tryz.ntmps76
    go_wp2_with fail

    refine HU.out.mono ?_
    rintro e w1 ⟨A1, c1, l1, rfl, hr, hn, hv, hl, hc, hb1⟩
    have HF : Hid (ScaledEnd (val xs) (val ys) k 940 w (.returned (.tuple #[.slice A xs.length ca, .slice A1 l1.length c1])) w1) :=
      Lib.hid ⟨A, ca, xs, A1, c1, l1, rfl, HA.out.keep hb1, hr, HX.out, hn, by rw [show k.toNat = 0 from by omega]; simp, by rw [hv, hj]; rfl, by omega, by omega, hb1⟩
    clear hr hn hv hl hc hb1 HU
    go_wp2_with fail
    go_ret2
    exact HF.out
end Go.Proofs.YtlinoncoanpcdaaGreatDoor
