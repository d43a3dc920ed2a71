/-
  For THE LAW FrameBack: a reader and two lists of bodies in memory; lists of texts and of bytes that came in. Conditions: those that each theorem says.
-/
import Derived.Test.YtmaihiklcdidbaaDoorPartsLaw
namespace Go.Proofs.YtmaihiklcdidbaaDoor
open Go.RowKit

/-- A slice that reads as texts; as bytes. -/
def SReads (W : World) (A : Option Addr) (M : List ByteArray) : Prop :=
  (0 < M.length → ∃ b o, A = some ⟨b, o, none⟩ ∧ ∀ j s, M[j]? = some s → W.cell? ⟨b, o + j, none⟩ = some (.string s)) ∧ ∀ s ∈ M, s.size ≤ maxLen
def BReads (W : World) (A : Option Addr) (M : List UInt8) : Prop :=
  0 < M.length → ∃ b o, A = some ⟨b, o, none⟩ ∧ ∀ j c, M[j]? = some c → W.cell? ⟨b, o + j, none⟩ = some (.int .u8 (c.toNat : Int))
theorem SReads.below {W W' : World} {A : Option Addr} {M : List ByteArray} (h : SReads W A M) (hb : Below W.heap.size W W') : SReads W' A M := by
  refine ⟨fun hp => ?_, h.2⟩
  obtain ⟨b, o, hA, hc⟩ := h.1 hp
  exact ⟨b, o, hA, fun j c hj => cell_keep hb (hc j c hj)⟩
theorem BReads.below {W W' : World} {A : Option Addr} {M : List UInt8} (h : BReads W A M) (hb : Below W.heap.size W W') : BReads W' A M := by
  intro hp
  obtain ⟨b, o, hA, hc⟩ := h hp
  exact ⟨b, o, hA, fun j c hj => cell_keep hb (hc j c hj)⟩
/-- A reader and two lists of bodies, apart, made since a world. -/
structure QSt (w W : World) (R : Nat) (g : Option Nat) (r : RS) (v1 v2 : Value) (l1 l2 : List (List UInt8)) : Prop where
  below : Below w.heap.size w W
  rd : RdIn W R g r
  row1 : SRow W w.heap.size v1 l1
  row2 : SRow W w.heap.size v2 l2
  lo : ∀ k, rdX R g k → w.heap.size ≤ k
  b1 : ∀ k, v1.ownBlock = some k → ¬ rdX R g k
  b2 : ∀ k, v2.ownBlock = some k → ¬ rdX R g k
  c12 : ∀ k, v1.ownBlock = some k → v2.ownBlock ≠ some k
theorem QSt.step {w W W' : World} {R : Nat} {g : Option Nat} {r r' : RS} {v1 v2 : Value} {l1 l2 : List (List UInt8)} (h : QSt w W R g r v1 v2 l1 l2) (e : RdEnd W R g r' W') : ∃ g', QSt w W' R g' r' v1 v2 l1 l2 := by
  obtain ⟨g', h1, h2, h3⟩ := e
  have hx : ∀ k, rdX R g' k → rdX R g k ∨ W.heap.size ≤ k := fun k hk => by
    rcases hk with hk | hk
    · exact .inl (.inl hk)
    · exact (h1 k hk).imp (fun h => .inr h) id
  refine ⟨g', h.below.trans (h3.to_below h.below.size h.lo), h2, h.row1.keep (fun k hk => h3.block k (h.row1.lt hk).1 (h.b1 k hk)), h.row2.keep (fun k hk => h3.block k (h.row2.lt hk).1 (h.b2 k hk)), fun k hk => ?_, fun k hv hk => ?_, fun k hv hk => ?_, h.c12⟩
  · rcases hx k hk with h' | h'
    · exact h.lo k h'
    · exact Nat.le_trans h.below.size h'
  · rcases hx k hk with h' | h'
    · exact h.b1 k hv h'
    · have := (h.row1.lt hv).1; omega
  · rcases hx k hk with h' | h'
    · exact h.b2 k hv h'
    · have := (h.row2.lt hv).1; omega
theorem QSt.all {w W : World} {R : Nat} {g : Option Nat} {r : RS} {v1 v2 : Value} {l1 l2 : List (List UInt8)} (h : QSt w W R g r v1 v2 l1 l2) (hF : Facts w) :
    Calls Tryd.prog 19 #[.pointer (some ⟨R, 0, none⟩)] W fun e w' => ∃ v g', e = .returned (.tuple #[v, .int .i64 ((allR 200 r).e : Int)]) ∧ QSt w w' R g' (allR 200 r).r v1 v2 l1 l2 ∧ SRow w' W.heap.size v (allR 200 r).bodies := by
  refine (all_any w W hF h.below R g r h.rd (h.lo _ (.inl rfl)) (fun k hk => h.lo k (.inr hk))).mono ?_
  rintro e w' ⟨v, he, hs, g', a1, _, a3, a4⟩
  obtain ⟨g2, hq⟩ := h.step ⟨g', a1, a3, a4⟩
  exact ⟨v, g2, he, hq, hs⟩
theorem QSt.push {w W : World} {R : Nat} {g : Option Nat} {l : List UInt8} {v1 v2 : Value} {l1 l2 : List (List UInt8)} (h : QSt w W R g (.live l) v1 v2 l1 l2) (s : ByteArray) (hs : l.length + s.size ≤ 100000000) :
    Calls Tryd.prog 10 #[.pointer (some ⟨R, 0, none⟩), .string s] W fun e w' => e = .returned (.int .i64 0) ∧ ∃ g', QSt w w' R g' (.live (l ++ s.data.toList)) v1 v2 l1 l2 :=
  (push_live R g l s hs W h.rd).mono fun _ _ ⟨a, b⟩ => ⟨a, h.step b⟩
theorem QSt.more {w W W' : World} {R : Nat} {g : Option Nat} {r : RS} {v1 v2 : Value} {l1 l2 : List (List UInt8)} (h : QSt w W R g r v1 v2 l1 l2) (hb : Below W.heap.size W W') : QSt w W' R g r v1 v2 l1 l2 :=
  ⟨h.below.trans (hb.mono h.below.size), h.rd.below hb, h.row1.keep (fun k hk => hb.block k (h.row1.lt hk).1), h.row2.keep (fun k hk => hb.block k (h.row2.lt hk).1), h.lo, h.b1, h.b2, h.c12⟩
theorem QSt.app {w W W' : World} {R : Nat} {g : Option Nat} {r : RS} {v1 v2 v' : Value} {l1 l2 l' : List (List UInt8)} (h : QSt w W R g r v1 v2 l1 l2) (hs : SRow W' w.heap.size v' l') (hf : Fr (fun k => v1.ownBlock = some k) W W')
    (hne : ∀ k, v'.ownBlock = some k → v1.ownBlock = some k ∨ W.heap.size ≤ k) : QSt w W' R g r v' v2 l' l2 := by
  refine ⟨h.below.trans (hf.to_below h.below.size (fun k hk => (h.row1.lt hk).2)), h.rd.keep hf.size (fun k hk hx => hf.block k hk (fun hv => h.b1 k hv hx)), hs,
    h.row2.keep (fun k hk => hf.block k (h.row2.lt hk).1 (fun hv => h.c12 k hv hk)), h.lo, fun k hv hx => ?_, h.b2, fun k hv hx => ?_⟩
  · rcases hne k hv with h' | h'
    · exact h.b1 k h' hx
    · have := h.rd.foot hx; omega
  · rcases hne k hv with h' | h'
    · exact h.c12 k h' hx
    · have := (h.row2.lt hx).1; omega
/-- The bodies that the law takes. -/
def bodiesOf (M : List ByteArray) : List (List UInt8) := (M.map fun s => s.data.toList.take 3000).take 20
theorem bodies_le (M : List ByteArray) : (bodiesOf M).length ≤ 20 ∧ (bodiesOf M).length ≤ M.length ∧ ∀ b ∈ bodiesOf M, b.length ≤ 3000 := by
  refine ⟨by unfold bodiesOf; rw [List.length_take]; omega, by unfold bodiesOf; rw [List.length_take, List.length_map]; omega, fun b hb => ?_⟩
  obtain ⟨s, _, rfl⟩ := List.mem_map.1 (List.mem_of_mem_take hb)
  rw [List.length_take]
  omega
theorem bodies_at (M : List ByteArray) (i : Nat) (s : ByteArray) (h : M[i]? = some s) (hi : i < 20) : (bodiesOf M)[i]? = some (s.data.toList.take 3000) := by
  unfold bodiesOf
  rw [List.getElem?_take_of_lt hi, List.getElem?_map, h]
  rfl
theorem puts_snoc (bs : List (List UInt8)) (i : Nat) (b : List UInt8) (h : bs[i]? = some b) : putsP (bs.take (i + 1)) = putsP (bs.take i) ++ putP b := by
  have hi := (List.getElem?_eq_some_iff.1 h).1
  have hl := (List.getElem?_eq_some_iff.1 h).2
  rw [List.take_succ_eq_append_getElem hi, hl]
  simp [putsP]
theorem puts_len : ∀ (bs : List (List UInt8)), (∀ b ∈ bs, b.length ≤ 3000) → (putsP bs).length ≤ 3038 * bs.length
  | [], _ => by simp [putsP]
  | b :: bs, h => by
    have h1 := puts_len bs (fun c hc => h c (by simp [hc]))
    have h2 := h b (by simp)
    have h3 := dec_len b.length (by omega)
    rw [putsP_cons, List.length_append, putP_len, List.length_cons]
    omega
theorem puts_nil {bs : List (List UInt8)} (h : putsP bs = []) : bs = [] := by
  cases bs with
  | nil => rfl
  | cons b bs =>
    rw [putsP_cons] at h
    have h1 := putP_pos b
    rw [(List.append_eq_nil_iff.1 h).1] at h1
    simp at h1
end Go.Proofs.YtmaihiklcdidbaaDoor
