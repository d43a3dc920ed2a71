/-
  THE DOCUMENT's NATURAL NUMBERS (emendref01.trim): digits without the noughts behind the greatest one; nothing in memory turns. Condition: the slice reads as those digits.
-/
import Derived.Test.YtlinoncoanpcdaaGreatDoorBigOf
import Derived.Deep.QuietTactic
import Derived.BigQuiet
namespace Go.Proofs.YtlinoncoanpcdaaGreatDoor
open Go.RowKit

/-- A slice's address and numbers: how its cells read; it lies below a block. -/
def RD (w : World) (B : Nat) (A : Option Addr) (l : List Nat) : Prop :=
  0 < l.length → ∃ b o : Nat, A = some ⟨b, o, none⟩ ∧ b < B ∧ ∀ i x : Nat, l[i]? = some x → w.cell? ⟨b, o + i, none⟩ = some (.int .u64 (x : Int))
/-- Without the noughts at the end. -/
def trimL (l : List Nat) : List Nat := (l.reverse.dropWhile (· == 0)).reverse
theorem trimL_snoc (l : List Nat) (x : Nat) : trimL (l ++ [x]) = if x = 0 then trimL l else l ++ [x] := by
  unfold trimL
  rw [List.reverse_append, List.reverse_singleton, List.singleton_append, List.dropWhile_cons]
  by_cases h : x = 0
  · simp [h]
  · simp [h]
theorem take_last (l : List Nat) (k x : Nat) (hk : 0 < k) (h : l[k - 1]? = some x) : l.take k = l.take (k - 1) ++ [x] := by
  have hl := (List.getElem?_eq_some_iff.1 h).1
  have he := (List.getElem?_eq_some_iff.1 h).2
  rw [show k = (k - 1) + 1 from by omega, List.take_succ_eq_append_getElem (by omega), he]
  rfl
/-- What trim hands back: the first of the numbers. -/
def TrimEnd (A : Option Addr) (c : Nat) (l : List Nat) (w : World) (e : Ending) (w' : World) : Prop := ∃ k, k ≤ l.length ∧ trimL l = l.take k ∧ e = .returned (.slice A k c) ∧ w = w'
set_option maxRecDepth 100000 in
set_option maxHeartbeats 1000000 in
theorem trim_any (A : Option Addr) (c B : Nat) (l : List Nat) (hl : l.length ≤ 1000000) (hcap : l.length ≤ c) (w : World) (h : RD w B A l) : Calls Tryz.prog 87 #[.slice A l.length c] w (TrimEnd A c l w) := by
  go_enter Tryz.func87, Tryz.ntmps87
  go_wp2_with fail
  go_loop [0] (fun u => ∃ k : Nat, k ≤ l.length ∧ u = .slice A k c ∧ Hid (trimL (l.take k) = trimL l)) (fun u => match u with | .slice _ n _ => n | _ => 0)
  case atStart => exact ⟨l.length, by omega, rfl, Lib.hid (by simp)⟩
  case round =>
    obtain ⟨k, hk, rfl, ht⟩ := hrel
    by_cases hk0 : 0 < k
    · obtain ⟨b, o, rfl, hb, hc⟩ := h (by omega)
      obtain ⟨x, hx⟩ : ∃ x, l[k - 1]? = some x := ⟨_, List.getElem?_eq_getElem (by omega)⟩
      have hcell := hc _ _ hx
      have HX := Lib.hid hx
      have HT := Lib.hid (take_last l k x hk0 hx)
      clear hx h hc
      by_cases hx0 : x = 0
      · subst hx0
        go_wp2
        refine ⟨⟨k - 1, by omega, rfl, Lib.hid ?_⟩, by show k - 1 < k; omega⟩
        rw [← ht.out, HT.out, trimL_snoc, if_pos rfl]
      · have hxb : ((x : Int) == 0) = false := by simp only [beq_eq_false_iff_ne, ne_eq]; omega
        go_wp2
        go_ret
        refine ⟨k, hk, ?_, rfl, rfl⟩
        rw [← ht.out, HT.out, trimL_snoc, if_neg hx0]
    · obtain rfl : k = 0 := by omega
      go_wp2
      go_ret
      refine ⟨0, hk, ?_, rfl, rfl⟩
      rw [← ht.out]
      rfl
end Go.Proofs.YtlinoncoanpcdaaGreatDoor
