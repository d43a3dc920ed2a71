/-
  THE LAW FrameParts: how a stream is cut changes nothing of the bodies that have come out when all of it came in, nor of whether it is broken then. Conditions: what the variables that are read hold (Facts).
-/
import Derived.Test.YtmaihiklcdidbaaDoorTakes
namespace Go.Proofs.YtmaihiklcdidbaaDoor
open Go.RowKit

/-- Two readers and two lists of bodies, apart, made since a world. -/
structure PSt (w W : World) (R1 R2 : Nat) (g1 g2 : Option Nat) (r1 r2 : RS) (v1 v2 : Value) (l1 l2 : List (List UInt8)) : Prop where
  below : Below w.heap.size w W
  rd1 : RdIn W R1 g1 r1
  rd2 : RdIn W R2 g2 r2
  row1 : SRow W w.heap.size v1 l1
  row2 : SRow W w.heap.size v2 l2
  lo1 : ∀ k, rdX R1 g1 k → w.heap.size ≤ k
  lo2 : ∀ k, rdX R2 g2 k → w.heap.size ≤ k
  a12 : ∀ k, rdX R1 g1 k → ¬ rdX R2 g2 k
  b11 : ∀ k, v1.ownBlock = some k → ¬ rdX R1 g1 k
  b12 : ∀ k, v1.ownBlock = some k → ¬ rdX R2 g2 k
  b21 : ∀ k, v2.ownBlock = some k → ¬ rdX R1 g1 k
  b22 : ∀ k, v2.ownBlock = some k → ¬ rdX R2 g2 k
  c12 : ∀ k, v1.ownBlock = some k → v2.ownBlock ≠ some k
theorem PSt.swap {w W : World} {R1 R2 : Nat} {g1 g2 : Option Nat} {r1 r2 : RS} {v1 v2 : Value} {l1 l2 : List (List UInt8)} (h : PSt w W R1 R2 g1 g2 r1 r2 v1 v2 l1 l2) : PSt w W R2 R1 g2 g1 r2 r1 v1 v2 l1 l2 :=
  ⟨h.below, h.rd2, h.rd1, h.row1, h.row2, h.lo2, h.lo1, fun k a b => h.a12 k b a, h.b12, h.b11, h.b22, h.b21, h.c12⟩
theorem SRow.more {W W' : World} {B B' : Nat} {v : Value} {ls : List (List UInt8)} (h : SRow W B v ls) (hk : ∀ k, v.ownBlock = some k → W'.heap[k]? = W.heap[k]?) (hB : B' ≤ B) : SRow W' B' v ls := by
  refine ⟨h.1, ?_⟩
  rcases h.2 with h0 | ⟨g, cap, cur, rfl, hb, hg, r⟩
  · exact .inl h0
  · exact .inr ⟨g, cap, cur, rfl, Nat.le_trans hB hb, (hk g rfl).trans hg, r⟩
theorem PSt.step1 {w W W' : World} {R1 R2 : Nat} {g1 g2 : Option Nat} {r1 r2 r' : RS} {v1 v2 : Value} {l1 l2 : List (List UInt8)} (h : PSt w W R1 R2 g1 g2 r1 r2 v1 v2 l1 l2) (e : RdEnd W R1 g1 r' W') : ∃ g', PSt w W' R1 R2 g' g2 r' r2 v1 v2 l1 l2 := by
  obtain ⟨g', h1, h2, h3⟩ := e
  have hx : ∀ k, rdX R1 g' k → rdX R1 g1 k ∨ W.heap.size ≤ k := fun k hk => by
    rcases hk with hk | hk
    · exact .inl (.inl hk)
    · exact (h1 k hk).imp (fun h => .inr h) id
  refine ⟨g', h.below.trans (h3.to_below h.below.size h.lo1), h2, h.rd2.keep h3.size (fun k hk hx2 => h3.block k hk (fun hx1 => h.a12 k hx1 hx2)),
    h.row1.keep (fun k hk => h3.block k (h.row1.lt hk).1 (h.b11 k hk)), h.row2.keep (fun k hk => h3.block k (h.row2.lt hk).1 (h.b21 k hk)), fun k hk => ?_, h.lo2, fun k hk h2' => ?_, fun k hv hk => ?_, h.b12, fun k hv hk => ?_, h.b22, h.c12⟩
  · rcases hx k hk with h' | h'
    · exact h.lo1 k h'
    · exact Nat.le_trans h.below.size h'
  · rcases hx k hk with h' | h'
    · exact h.a12 k h' h2'
    · have := h.rd2.foot h2'; omega
  · rcases hx k hk with h' | h'
    · exact h.b11 k hv h'
    · have := (h.row1.lt hv).1; omega
  · rcases hx k hk with h' | h'
    · exact h.b21 k hv h'
    · have := (h.row2.lt hv).1; omega
/-- all of the first reader, into the first list (which is given up). -/
theorem PSt.all1 {w W W' : World} {R1 R2 : Nat} {g1 g2 : Option Nat} {r1 r2 : RS} {v1 v2 : Value} {l1 l2 : List (List UInt8)} {a : AllR} {e : Ending} (h : PSt w W R1 R2 g1 g2 r1 r2 v1 v2 l1 l2) (he : AllEnd W R1 g1 a e W') :
    ∃ v g', e = .returned (.tuple #[v, .int .i64 (a.e : Int)]) ∧ PSt w W' R1 R2 g' g2 a.r r2 v v2 a.bodies l2 := by
  obtain ⟨v, e1, hs, g', h1, h4, h2, h3⟩ := he
  obtain ⟨g'', hp⟩ := h.step1 ⟨g', h1, h2, h3⟩
  have hx : ∀ k, rdX R1 g' k → rdX R1 g1 k ∨ W.heap.size ≤ k := fun k hk => by
    rcases hk with hk | hk
    · exact .inl (.inl hk)
    · exact (h1 k hk).imp (fun h => .inr h) id
  have hf := fun k hk => (hs.lt (k := k) hk).2
  refine ⟨v, g', e1, h.below.trans (h3.to_below h.below.size h.lo1), h2, hp.rd2, hs.more (fun _ _ => rfl) h.below.size, hp.row2, fun k hk => ?_, h.lo2, fun k hk h2' => ?_, fun k hv hk => ?_, fun k hv hk => ?_, fun k hv hk => ?_, h.b22, fun k hv hk => ?_⟩
  · rcases hx k hk with h' | h'
    · exact h.lo1 k h'
    · exact Nat.le_trans h.below.size h'
  · rcases hx k hk with h' | h'
    · exact h.a12 k h' h2'
    · have := h.rd2.foot h2'; omega
  · rcases hk with hk | hk
    · have := hf k hv
      have := h.rd1.lt
      omega
    · exact h4 k hk hv
  · have := hf k hv
    have := h.rd2.foot hk
    omega
  · rcases hx k hk with h' | h'
    · exact h.b21 k hv h'
    · have := (h.row2.lt hv).1; omega
  · have := hf k hv
    have := (h.row2.lt hk).1
    omega
theorem PSt.swapL {w W : World} {R1 R2 : Nat} {g1 g2 : Option Nat} {r1 r2 : RS} {v1 v2 : Value} {l1 l2 : List (List UInt8)} (h : PSt w W R1 R2 g1 g2 r1 r2 v1 v2 l1 l2) : PSt w W R1 R2 g1 g2 r1 r2 v2 v1 l2 l1 :=
  ⟨h.below, h.rd1, h.rd2, h.row2, h.row1, h.lo1, h.lo2, h.a12, h.b21, h.b22, h.b11, h.b12, fun k a b => h.c12 k b a⟩
theorem PSt.more {w W W' : World} {R1 R2 : Nat} {g1 g2 : Option Nat} {r1 r2 : RS} {v1 v2 : Value} {l1 l2 : List (List UInt8)} (h : PSt w W R1 R2 g1 g2 r1 r2 v1 v2 l1 l2) (hb : Below W.heap.size W W') : PSt w W' R1 R2 g1 g2 r1 r2 v1 v2 l1 l2 :=
  ⟨h.below.trans (hb.mono h.below.size), h.rd1.below hb, h.rd2.below hb, h.row1.keep (fun k hk => hb.block k (h.row1.lt hk).1), h.row2.keep (fun k hk => hb.block k (h.row2.lt hk).1), h.lo1, h.lo2, h.a12, h.b11, h.b12, h.b21, h.b22, h.c12⟩
/-- The first list longer by the second. -/
theorem PSt.app {w W W' : World} {R1 R2 : Nat} {g1 g2 : Option Nat} {r1 r2 : RS} {v1 v2 v' : Value} {l1 l2 l' : List (List UInt8)} (h : PSt w W R1 R2 g1 g2 r1 r2 v1 v2 l1 l2) (hs : SRow W' w.heap.size v' l') (hf : Fr (fun k => v1.ownBlock = some k) W W')
    (hne : ∀ k, v'.ownBlock = some k → v1.ownBlock = some k ∨ W.heap.size ≤ k) : PSt w W' R1 R2 g1 g2 r1 r2 v' v2 l' l2 := by
  refine ⟨h.below.trans (hf.to_below h.below.size (fun k hk => (h.row1.lt hk).2)), h.rd1.keep hf.size (fun k hk hx => hf.block k hk (fun hv => h.b11 k hv hx)), h.rd2.keep hf.size (fun k hk hx => hf.block k hk (fun hv => h.b12 k hv hx)), hs,
    h.row2.keep (fun k hk => hf.block k (h.row2.lt hk).1 (fun hv => h.c12 k hv hk)), h.lo1, h.lo2, h.a12, fun k hv hx => ?_, fun k hv hx => ?_, h.b21, h.b22, fun k hv hx => ?_⟩
  · rcases hne k hv with h' | h'
    · exact h.b11 k h' hx
    · have := h.rd1.foot hx; omega
  · rcases hne k hv with h' | h'
    · exact h.b12 k h' hx
    · have := h.rd2.foot hx; omega
  · rcases hne k hv with h' | h'
    · exact h.c12 k h' hx
    · have := (h.row2.lt hx).1; omega
section
/-- 'append(one, two...)', for the walk. -/
theorem wpList_append_rows {ops : Array Oper} {rest : List Oper} {o : Oper} {a : Act} {w : World} {Q : Exit → Act → World → Prop} (hgd : o.guard = none) (s x : Operand)
    (ho : o.op = .call { callee := .builtin .append, args := #[s, x], argTypes := #[44, 44] }) {B : Nat} {v1 v2 : Value} {l1 l2 : List (List UInt8)} (hv : a.eval s = v1) (hr : SRow w B v1 l1) (hx : a.eval x = v2) {B2 : Nat} (hr2 : SRow w B2 v2 l2)
    (hl : l1.length + l2.length ≤ 1000000) (hB : B ≤ w.heap.size)
    (hK : ∀ v' w', SRow w' B v' (l1 ++ l2) → Fr (fun k => v1.ownBlock = some k) w w' → (∀ k, v'.ownBlock = some k → v1.ownBlock = some k ∨ w.heap.size ≤ k) → wpList Tryd.prog ops Q rest (a.put o.dst v') w') : wpList Tryd.prog ops Q (o :: rest) a w := by
  obtain ⟨i0, hi0, hz0, hz1, hz2⟩ := info_parts str_info
  rcases hr2.2 with ⟨h0, h1⟩ | ⟨g, cap, cur, h0, hb, hg, hn, hc, hsz, htk⟩
  · have hl2 : l2 = [] := List.eq_nil_of_length_eq_zero h1
    obtain ⟨p1, c1, hs1⟩ := hr.shape
    have hle : l1.length ≤ c1 := by
      rcases hr.2 with ⟨e, e2⟩ | ⟨g, cap, cur, e, _, _, hn, _⟩
      · omega
      · rw [hs1] at e; cases e; exact hn
    subst hs1
    refine wpList_plain hgd fun K hK' => ?_
    have hrun := run_append_nothing (P := Tryd.prog) w 44 44 o.type 9 i0 Tryd.underlying44 hi0 p1 l1.length c1 hle (.slice none 0 0) (by rw [hz1]; exact Src.ofNil w Tryd.underlying44 0)
    unfold Oper.wp
    simp [execOp, ho, resolve, invoke, builtin, hv, hx, h0, hrun, Result.andThen]
    exact hK' _ _ (hK _ w (by rw [hl2, List.append_nil]; exact hr) (Fr.refl _ _) (fun k hk => .inl hk))
  · refine wpList_append_own2 w hgd s x 44 ho B 9 i0 (.string ⟨#[]⟩) 1 16 Tryd.underlying44 hi0 hz0 hz1 hz2 rfl (by decide) v1 l1.length (scells l1) hv hr ⟨g, 0, none⟩ l2.length cap (scells l2) (by rw [hx, h0]) (by rw [scells_len, Nat.mul_one]) (fun j u hu => ?_) (fun u hu => ?_) (by unfold maxLen; omega) (by omega) hB (fun v' w' h3 h4 h5 => ?_)
    · rw [Addr.add_lit, Nat.zero_add, cell_at hg, ← Array.getElem?_toList]
      rw [← htk, List.getElem?_take] at hu
      split at hu
      · exact hu
      · cases hu
    · obtain ⟨l, _, rfl⟩ := List.mem_map.1 hu
      rfl
    · refine hK v' w' ?_ ⟨h4.os, h4.tape, h4.output, h4.size, fun k hk hx' => h4.block k hk (fun e => hx' e.symm)⟩ h5
      unfold SRow
      rw [List.length_append, show scells (l1 ++ l2) = scells l1 ++ scells l2 by simp [scells]]
      exact h3
end
end Go.Proofs.YtmaihiklcdidbaaDoor
