/-
  PLAIN FACTS ABOUT WHAT SPLICES MAKE OF A TEXT: the pieces, one behind the other. No program; no condition but those that each theorem says.
-/
import Derived.Test.YtlgjlfljohapfaaEPlain2
namespace Go.Proofs.Ytlgjlfljohapfaa

/-- What splices leave of a text from a place on, and their texts between. -/
def pcsF (text : ByteArray) : Nat → List Spl → List ByteArray
  | a, [] => [text.extract a text.size]
  | a, x :: l => text.extract a x.f.toNat :: x.s :: pcsF text x.t.toNat l
/-- Texts one behind the other. -/
def cat (ls : List ByteArray) : List UInt8 := ls.flatMap (·.data.toList)
theorem pcsF_len (text : ByteArray) : ∀ (l : List Spl) (a : Nat), (pcsF text a l).length = 2 * l.length + 1
  | [], _ => rfl
  | x :: l, a => by
    rw [pcsF, List.length_cons, List.length_cons, pcsF_len text l, List.length_cons]
    omega
theorem cat_nil : cat [] = [] := rfl
theorem cat_cons (x : ByteArray) (l : List ByteArray) : cat (x :: l) = x.data.toList ++ cat l := rfl
theorem cat_app (x y : List ByteArray) : cat (x ++ y) = cat x ++ cat y := List.flatMap_append
/-- What splices that fit make of a text. -/
def madeL (text : ByteArray) (l : List Spl) : List UInt8 := cat (pcsF text 0 l)
def textOf (l : List UInt8) : ByteArray := ⟨l.toArray⟩
theorem textOf_list (l : List UInt8) : (textOf l).data.toList = l := by simp [textOf]
theorem textOf_size (l : List UInt8) : (textOf l).size = l.length := by simp [textOf, ByteArray.size]
end Go.Proofs.Ytlgjlfljohapfaa
