/-
  emendref09's Named, Exported, quoted, Value AT EVERY TEXT of at most 1000000 bytes: what they return; no memory that was there turns. Condition: the text's length.
-/
import Derived.Test.YtpijgeogopopbaaGreatDoorLRef
import Derived.Test.YtpijgeogopopbaaGreatDoorStep2
namespace Go.Proofs.YtpijgeogopopbaaGreatDoor
open Go.RowKit

theorem named_loop (s : ByteArray) (i : Nat) (h : i < s.size) : isW s[i] = (isLt s[i] || isD s[i]) := rfl
end Go.Proofs.YtpijgeogopopbaaGreatDoor
