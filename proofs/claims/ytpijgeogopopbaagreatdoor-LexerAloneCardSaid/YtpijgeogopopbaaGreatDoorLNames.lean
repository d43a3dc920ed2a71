/-
  emendref09.Value, and the walk of emendlaw09.LexerNames AT EVERY TEXT: it returns true; no memory that was there turns. Conditions: the variables that are read hold what their text lays (Facts); FSpec.
-/
import Derived.Test.YtpijgeogopopbaaGreatDoorLQuo
namespace Go.Proofs.YtpijgeogopopbaaGreatDoor
open Go.RowKit

theorem valV_vals (o : Except Nat (List UInt8)) : ∃ (x : ByteArray) (z : Int), valV o = .tuple #[.string x, .int .i64 z] := by
  cases o with
  | error e => exact ⟨_, _, rfl⟩
  | ok v => exact ⟨_, _, rfl⟩
end Go.Proofs.YtpijgeogopopbaaGreatDoor
