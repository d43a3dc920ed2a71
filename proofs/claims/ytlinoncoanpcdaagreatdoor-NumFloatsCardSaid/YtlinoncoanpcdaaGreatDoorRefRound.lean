/-
  THE DOCUMENT's ROUNDING (emendref01.Round): a fraction's float, to the nearest, of two the even one. Condition: both slices read as digits below 65536 without a nought at their end, both numbers above 0.
-/
import Derived.Test.YtlinoncoanpcdaaGreatDoorRefRoundHi
import Derived.Test.YtlinoncoanpcdaaGreatDoorRefRoundLo
namespace Go.Proofs.YtlinoncoanpcdaaGreatDoor
open Go.RowKit
theorem round_any (neg : Bool) (A C : Option Addr) (ca cc : Nat) (xs ys : List Nat) (ha : xs.length ≤ 300) (hb : ys.length ≤ 300) (w : World) (hA : RD w w.heap.size A xs) (hC : RD w w.heap.size C ys) (hx : Norm xs) (hy : Norm ys) (hP : 0 < val xs) (hQ : 0 < val ys)
    (hbp : bitsV (val xs) ≤ 4800) (hbq : bitsV (val ys) ≤ 4800) :
    Calls Tryz.prog 61 #[.bool neg, .slice A xs.length ca, .slice C ys.length cc] w (RoundEnd neg (val xs) (val ys) w) := by
  by_cases hE : (bitsV (val xs) : Int) - (bitsV (val ys) : Int) - 54 < -1074
  · exact round_lo neg A C ca cc xs ys ha hb w hA hC hx hy hP hQ hE hbp hbq
  · exact round_hi neg A C ca cc xs ys ha hb w hA hC hx hy hP hQ hE hbp hbq
end Go.Proofs.YtlinoncoanpcdaaGreatDoor
