import Derived.Test.YtkpddjbdmjbefaaGreatDoorLTold
import Derived.Deep.QuietTactic
import Derived.BigQuiet
namespace Go.Proofs.YtkpddjbdmjbefaaGreatDoor
open Go.RowKit
variable {FW : World → Prop} {ff : List UInt8 → Nat}
theorem drewN_below {w w' : World} {B : Nat} (h : Below B w w') (n : Nat) : Below B w (w'.drewN n) := h.trans ⟨rfl, rfl, rfl, Nat.le_refl _, fun _ _ => rfl⟩
theorem all_ok (s : ByteArray) : floatsOk (fun _ => True) s := fun _ _ _ => trivial
end Go.Proofs.YtkpddjbdmjbefaaGreatDoor
