import Derived.Test.YtkpddjbdmjbefaaGreatDoorLAwake
namespace Go.Proofs.YtkpddjbdmjbefaaGreatDoor
open Go.RowKit
variable {FW : World → Prop} {ff : List UInt8 → Nat} {OK : List UInt8 → Prop}
def told1 (t : Tok) : List UInt8 := if t.1 = 7 ∧ t.2.1 = [] then [35, 32] else t.2.1 ++ [32]
def toldL : Except (Nat × Nat) (List Tok) → List UInt8
  | .error _ => [101, 114, 114, 111, 114]
  | .ok ts => ts.flatMap told1
theorem txt_size (l : List UInt8) : (txt l).size = l.length := rfl
end Go.Proofs.YtkpddjbdmjbefaaGreatDoor
