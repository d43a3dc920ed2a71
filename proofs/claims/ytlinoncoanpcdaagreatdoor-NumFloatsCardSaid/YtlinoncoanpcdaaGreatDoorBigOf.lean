/-
  THE DOCUMENT's NATURAL NUMBERS (emendref01.Of): at every uint64 a slice of its digits to the base 65536, the least first, in new memory. No condition but the number's bounds.
-/
import Derived.Test.YtlinoncoanpcdaaGreatDoorProg
import Derived.WalkKit
import Derived.WalkLawsBesides
import Derived.Lib.Hide
import Derived.Outline
import Derived.LoopTactic
import Derived.OwnWalk
namespace Go.Proofs.YtlinoncoanpcdaaGreatDoor
open Go.RowKit

theorem Tryz.info30 : (Tryz.prog.info? 30).map (fun i => (i.zero, i.size, i.bytes)) = some (some (.int .u64 0), 1, 8) := by kernel_rfl
/-- The k lowest digits to the base 65536, the least first. -/
def dl (n : Nat) : Nat → List Nat
  | 0 => []
  | k + 1 => dl n k ++ [n / 65536 ^ k % 65536]
theorem dl_length (n : Nat) : ∀ k, (dl n k).length = k
  | 0 => rfl
  | k + 1 => by rw [dl, List.length_append, dl_length n k]; rfl
/-- Numbers as cells. -/
def cellsU (l : List Nat) : List Value := l.map fun (x : Nat) => Value.int .u64 (x : Int)
theorem cellsU_snoc (l : List Nat) (x : Nat) : cellsU (l ++ [x]) = cellsU l ++ [.int .u64 (x : Int)] := by simp [cellsU]
theorem div_chain (n k : Nat) : n / 65536 ^ k / 65536 = n / 65536 ^ (k + 1) := by rw [Nat.div_div_eq_div_mul, ← Nat.pow_succ]
theorem few (n k : Nat) (hn : n < 18446744073709551616) (h : 0 < n / 65536 ^ k) : k ≤ 3 := by
  rcases Nat.lt_or_ge 3 k with hk | hk
  · exfalso
    have h1 : 65536 ^ 4 ≤ 65536 ^ k := Nat.pow_le_pow_right (by decide) hk
    have h2 : n / 65536 ^ k ≤ n / 65536 ^ 4 := Nat.div_le_div_left h1 (by decide)
    have h3 : n / 65536 ^ 4 < 1 := Nat.div_lt_of_lt_mul (by simpa using hn)
    omega
  · exact hk
theorem udiv65536 (v : Int) (h0 : 0 ≤ v) (h1 : v ≤ 18446744073709551615) : IntKind.u64.wrap (v.tdiv 65536) = v / 65536 := by
  rw [Int.tdiv_eq_ediv_of_nonneg h0]
  unfold IntKind.wrap
  simp [IntKind.signed, IntKind.bits]
  omega
theorem one_new (w : World) (x : Value) (t : TypeId) : ∀ j u, [x][j]? = some u → (w.alloc (.cells #[x] t)).cell? ((⟨w.heap.size, 0, none⟩ : Addr).add j) = some u := by
  intro j u hj
  cases j with
  | zero =>
    rw [show (⟨w.heap.size, 0, none⟩ : Addr).add 0 = ⟨w.heap.size, 0, none⟩ from by simp [Addr.add], World.cell?_alloc_at _ _ _ _ rfl]
    simpa using hj
  | succ j => simp at hj
theorem slice_form {w : World} {base : Nat} {e : TypeId} {size : Nat} {v : Value} {n : Nat} {xs : List Value} (h : w.ownsRow base e size v n xs) : ∃ A c, v = .slice A n c := by
  rcases h.2 with ⟨rfl, h0⟩ | ⟨g, cap, cur, rfl, _⟩
  · subst h0; exact ⟨_, _, rfl⟩
  · exact ⟨_, _, rfl⟩
/-- What Of hands back. -/
def OfEnd (n : Nat) (w : World) (e : Ending) (w' : World) : Prop := ∃ v k, e = .returned v ∧ k ≤ 4 ∧ n / 65536 ^ k = 0 ∧ (k = 0 ∨ 0 < n / 65536 ^ (k - 1)) ∧ w'.ownsRow w.heap.size 30 1 v k (cellsU (dl n k)) ∧ Below w.heap.size w w'
set_option maxRecDepth 100000 in
set_option maxHeartbeats 1000000 in
theorem of_any (n : Nat) (hn : n < 18446744073709551616) (w : World) : Calls Tryz.prog 59 #[.int .u64 (n : Int)] w (OfEnd n w) := by
  obtain ⟨i0, hi, hz0, hz1, hz2⟩ := info_parts Tryz.info30
  obtain ⟨a0, ha⟩ : ∃ a : Int, a = (n : Int) := ⟨_, rfl⟩
  have HA := Lib.hid ha
  have h00 : 0 ≤ a0 := by omega
  have HN := Lib.hid hn
  rw [← ha]
  clear ha hn
  go_enter Tryz.func59, Tryz.ntmps59
  go_wp2_with fail
  go_loopw [0, 3] (fun u v wr => ∃ (a : Int) (k : Nat), 0 ≤ a ∧ k ≤ 4 ∧ Hid (a.toNat = n / 65536 ^ k ∧ a ≤ 18446744073709551615 ∧ (k = 0 ∨ 0 < n / 65536 ^ (k - 1))) ∧ u = .int .u64 a ∧ wr.ownsRow w.heap.size 30 1 v k (cellsU (dl n k)) ∧ Below w.heap.size w wr) (fun u _ _ => (RowKit.intOf u).toNat)
  case atStart => exact ⟨a0, 0, h00, by omega, Lib.hid ⟨by have := HA.out; rw [Nat.pow_zero, Nat.div_one]; omega, by have := HA.out; have := HN.out; omega, .inl rfl⟩, rfl, World.ownsRow_nil _ _ _ _, Below.refl _ _⟩
  case round =>
    obtain ⟨a, k, a0, hk, hv, rfl, hown, hb⟩ := hrel
    have HB := Lib.hid hb
    clear hb
    by_cases hlt : 0 < a
    · have hq := udiv65536 a a0 hv.out.2.1
      go_wp2_with (at_builtin; refine wpList_append_own _ rfl _ _ 71 rfl w.heap.size 30 i0 (.int .u64 0) 1 8 Tryz.underlying71 hi hz0 hz1 hz2 rfl (by decide) _ _ _ rfl (hown.alloc _) ⟨wr.heap.size, 0, none⟩ 1 1 [.int .u64 (a % 65536)] rfl rfl ?c1 ?c2 ?c3 ?c4 ?c5 ?_)
      case c1 => exact one_new _ _ _
      case c2 => simp [Value.oneCell']
      case c3 => unfold maxLen; omega
      case c4 => omega
      case c5 => rw [World.size_alloc]; have := HB.out.size; omega
      intro v' w1 hown' hgrow hne
      have HB1 : Hid (Below w.heap.size w w1) := Lib.hid ((HB.out.alloc HB.out.size _).grown hgrow (by rw [World.size_alloc]; have := HB.out.size; omega) (fun j ej => (World.ownsRow.lt hown j ej).1))
      have hr : cellsU (dl n k) ++ [Value.int IntKind.u64 (a % 65536)] = cellsU (dl n (k + 1)) := by
        rw [dl, cellsU_snoc, ← hv.out.1]
        congr 3
        omega
      rw [hr] at hown'
      have HO := Lib.hid hown'
      clear hr hown' hgrow hne hown
      go_wp2
      have hv' := hv.out
      have hpos : 0 < n / 65536 ^ k := by omega
      have hfew := few n k HN.out hpos
      refine ⟨⟨a / 65536, k + 1, by omega, by omega, Lib.hid ⟨?_, by omega, .inr (by simpa using hpos)⟩, rfl, HO.out, HB1.out⟩, ?_⟩
      · rw [← div_chain, ← hv'.1]; omega
      · simp [RowKit.intOf]; omega
    · go_wp2
      have hv' := hv.out
      obtain ⟨A, c, rfl⟩ := slice_form hown
      go_ret
      exact ⟨_, k, rfl, hk, by omega, hv'.2.2, hown, HB.out⟩
end Go.Proofs.YtlinoncoanpcdaaGreatDoor
