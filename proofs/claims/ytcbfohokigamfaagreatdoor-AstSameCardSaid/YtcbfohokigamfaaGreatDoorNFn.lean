/-
  FUNCTION VALUES that tell of trees (FnV), of rows of trees (PtV), of names (NmV): what a call of one gives in every world behind; rows of such in memory.
-/
import Derived.Test.YtcbfohokigamfaaGreatDoorNShape
import Derived.Shelf.Abstract

namespace Go.Proofs.YtcbfohokigamfaaGreatDoor
open Go.RowKit

abbrev TT : Nat → Prop := fun _ => True
/-- A function value that tells of each tree of a kind D what σ says. -/
def FnV (D : Nd → Prop) (W : World) (v : Value) (σ : Nd → Bool) : Prop := ∃ (g : FuncId) (cap : Array Value), v = .func (.func g) #[] cap ∧ Enters Tryz.prog g ∧
  ∀ w, Below W.heap.size W w → ∀ T u, D T → NIn w TT T u → Calls Tryz.prog g (#[u] ++ cap) w fun e w' => e = .returned (.bool (σ T)) ∧ Below w.heap.size w w'
def PtEnd (o : Option (List Nd)) (e : Ending) (w' : World) : Prop := match o with
  | none => ∃ A n c, e = .returned (.tuple #[.slice A n c, .bool false])
  | some r => ∃ A c, e = .returned (.tuple #[.slice A r.length c, .bool true]) ∧ r.length ≤ c ∧ SIn w' TT r A
/-- A function value that takes off the beginning of rows of such trees. -/
def PtV (D : Nd → Prop) (W : World) (v : Value) (π : List Nd → Option (List Nd)) : Prop := (∀ l r, π l = some r → r <:+ l) ∧ ∃ (g : FuncId) (cap : Array Value), v = .func (.func g) #[] cap ∧ Enters Tryz.prog g ∧
  ∀ w, Below W.heap.size W w → ∀ (l : List Nd) A c, (∀ t ∈ l, D t) → l.length ≤ 1000000 → l.length ≤ c → SIn w TT l A → Calls Tryz.prog g (#[.slice A l.length c] ++ cap) w fun e w' => PtEnd (π l) e w' ∧ Below w.heap.size w w'
/-- A function value that tells of each text of a kind what μ says. -/
def NmV (O : ByteArray → Prop) (W : World) (v : Value) (μ : ByteArray → Bool) : Prop := ∃ (g : FuncId) (cap : Array Value), v = .func (.func g) #[] cap ∧ Enters Tryz.prog g ∧
  ∀ w, Below W.heap.size W w → ∀ s : ByteArray, s.size ≤ 1000000 → O s → Calls Tryz.prog g (#[.string s] ++ cap) w fun e w' => e = .returned (.bool (μ s)) ∧ Below w.heap.size w w'
theorem FnV.below {D : Nd → Prop} {W W' : World} {v : Value} {σ : Nd → Bool} (h : FnV D W v σ) (hb : Below W.heap.size W W') : FnV D W' v σ := by
  obtain ⟨g, cap, rfl, he, h⟩ := h
  exact ⟨g, cap, rfl, he, fun w hw => h w (hb.trans (hw.mono hb.size))⟩
theorem PtV.below {D : Nd → Prop} {W W' : World} {v : Value} {π : List Nd → Option (List Nd)} (h : PtV D W v π) (hb : Below W.heap.size W W') : PtV D W' v π := by
  obtain ⟨hs, g, cap, rfl, he, h⟩ := h
  exact ⟨hs, g, cap, rfl, he, fun w hw => h w (hb.trans (hw.mono hb.size))⟩
theorem NmV.below {O : ByteArray → Prop} {W W' : World} {v : Value} {μ : ByteArray → Bool} (h : NmV O W v μ) (hb : Below W.heap.size W W') : NmV O W' v μ := by
  obtain ⟨g, cap, rfl, he, h⟩ := h
  exact ⟨g, cap, rfl, he, fun w hw => h w (hb.trans (hw.mono hb.size))⟩
/-- Shapes in memory, one cell each. -/
def FRow (D : Nd → Prop) (W : World) (ss : List (Nd → Bool)) (A : Option Addr) : Prop := 0 < ss.length → ∃ b o, A = some ⟨b, o, none⟩ ∧ ∀ i s, ss[i]? = some s → ∃ v, W.cell? ⟨b, o + i, none⟩ = some v ∧ FnV D W v s
/-- Parts in memory. -/
def PRow (D : Nd → Prop) (W : World) (ps : List (List Nd → Option (List Nd))) (A : Option Addr) : Prop := 0 < ps.length → ∃ b o, A = some ⟨b, o, none⟩ ∧ ∀ i p, ps[i]? = some p → ∃ v, W.cell? ⟨b, o + i, none⟩ = some v ∧ PtV D W v p
theorem FRow.below {D : Nd → Prop} {W W' : World} {ss : List (Nd → Bool)} {A : Option Addr} (h : FRow D W ss A) (hb : Below W.heap.size W W') : FRow D W' ss A := by
  intro hl
  obtain ⟨b, o, hA, h⟩ := h hl
  refine ⟨b, o, hA, fun i s hi => ?_⟩
  obtain ⟨v, hc, hv⟩ := h i s hi
  exact ⟨v, ncell_blk (fun hx => hb.block b hx) hc, hv.below hb⟩
theorem PRow.below {D : Nd → Prop} {W W' : World} {ps : List (List Nd → Option (List Nd))} {A : Option Addr} (h : PRow D W ps A) (hb : Below W.heap.size W W') : PRow D W' ps A := by
  intro hl
  obtain ⟨b, o, hA, h⟩ := h hl
  refine ⟨b, o, hA, fun i s hi => ?_⟩
  obtain ⟨v, hc, hv⟩ := h i s hi
  exact ⟨v, ncell_blk (fun hx => hb.block b hx) hc, hv.below hb⟩
/-- Where the first of a kind is. -/
def IdxOf (p : Nat → Bool) (n : Nat) (r : Int) : Prop := (r = -1 ∧ ∀ i, i < n → p i = false) ∨ ∃ k, k < n ∧ r = (k : Int) ∧ p k = true ∧ ∀ i, i < k → p i = false
set_option maxRecDepth 100000 in
set_option maxHeartbeats 1000000 in
theorem idxF_any (b o n c : Nat) (hn : n ≤ 1000000) (vs : Nat → Value) (p : Nat → Bool) (g : FuncId) (cap : Array Value) (eg : Enters Tryz.prog g) (w : World) (hc : ∀ i, i < n → w.cell? ⟨b, o + i, none⟩ = some (vs i))
    (hp : ∀ i, i < n → ∀ W, Below w.heap.size w W → Calls Tryz.prog g (#[vs i] ++ cap) W fun e w' => e = .returned (.bool (p i)) ∧ Below W.heap.size W w') :
    Calls Tryz.prog 182 #[.slice (some ⟨b, o, none⟩) n c, .func (.func g) #[] cap] w fun e w' => ∃ r, e = .returned (.int .i64 r) ∧ IdxOf p n r ∧ Below w.heap.size w w' := by
  have eg' : ∀ (args : Array Value) (w : World), (callFunc g args).run Tryz.prog w = .ok (.enter g args) w := eg
  have HC := Lib.hid hc
  have HP := Lib.hid hp
  clear hc hp
  go_enter Tryz.func182, Tryz.ntmps182
  go_wp2_with fail
  go_loopg [5, 8] n (fun gg _ s8 wr => ∃ kk : Nat, kk ≤ n ∧ n - kk ≤ gg ∧ s8 = .int .i64 kk ∧ Aside (Below w.heap.size w wr) ∧ Aside (∀ j, j < kk → p j = false))
  case atStart => exact ⟨0, Nat.zero_le _, by omega, rfl, Below.refl _ w, fun j hj => absurd hj (Nat.not_lt_zero _)⟩
  case round =>
    obtain ⟨kk, hkk, hg, rfl, BW, A⟩ := hrel
    by_cases hlt : kk < n
    · have hltz : (kk : Int) < (n : Int) := by omega
      have l2 := ncell_blk (fun hx => BW.out.block b hx) (HC.out kk hlt)
      have hcall := HP.out kk hlt wr BW.out
      generalize vs kk = y at l2 hcall
      cases hq : p kk with
      | true =>
        rw [hq] at hcall
        go_wp2_with (go_at_fn g; refine hcall.mono ?_; rintro e w' ⟨rfl, hb'⟩)
        go_ret
        exact ⟨_, rfl, .inr ⟨kk, hlt, rfl, hq, A.out⟩, BW.out.trans (hb'.mono BW.out.size)⟩
      | false =>
        rw [hq] at hcall
        go_wp2_with (go_at_fn g; refine hcall.mono ?_; rintro e w' ⟨rfl, hb'⟩)
        go_roundg (n - (kk + 1))
        case measure => omega
        case rel =>
          refine ⟨kk + 1, by omega, by omega, by go_num, BW.out.trans (hb'.mono BW.out.size), (show Aside _ from fun j hj => ?_)⟩
          by_cases e : j = kk
          · subst e
            exact hq
          · exact A.out j (by omega)
    · have hltz : ¬ (kk : Int) < (n : Int) := by omega
      have : kk = n := by omega
      subst this
      go_wp2
      go_ret
      exact ⟨_, rfl, .inl ⟨rfl, A.out⟩, BW.out⟩
end Go.Proofs.YtcbfohokigamfaaGreatDoor
