/-
  THE LAWS' all: the bodies that come out of a reader, and the last error; in new memory. Conditions: how many bytes are held; what the variables that are read hold (Facts).
-/
import Derived.Test.YtmaihiklcdidbaaDoorApp2
namespace Go.Proofs.YtmaihiklcdidbaaDoor
open Go.RowKit

def scells (ls : List (List UInt8)) : List Value := ls.map fun l => .string (txt l)
theorem scells_len (ls : List (List UInt8)) : (scells ls).length = ls.length := List.length_map _
/-- Bodies, in memory of a call's own. -/
def SRow (W : World) (B : Nat) (v : Value) (ls : List (List UInt8)) : Prop := W.ownsRow B 9 1 v ls.length (scells ls)
theorem str_info : (Tryd.prog.info? 9).map (fun i => (i.zero, i.size, i.bytes)) = some (some (.string ⟨#[]⟩), 1, 16) := by kernel_rfl
theorem SRow.lt {W : World} {B : Nat} {v : Value} {ls : List (List UInt8)} (h : SRow W B v ls) {k : Nat} (hk : v.ownBlock = some k) : k < W.heap.size ∧ B ≤ k := by
  rcases h.2 with ⟨rfl, _⟩ | ⟨g, cap, cur, rfl, hB, hg, _⟩
  · cases hk
  · cases hk; exact ⟨heap_lt hg, hB⟩
theorem SRow.keep {W W' : World} {B : Nat} {v : Value} {ls : List (List UInt8)} (h : SRow W B v ls) (hk : ∀ k, v.ownBlock = some k → W'.heap[k]? = W.heap[k]?) : SRow W' B v ls := by
  refine ⟨h.1, ?_⟩
  rcases h.2 with h0 | ⟨g, cap, cur, rfl, hB, hg, r⟩
  · exact .inl h0
  · exact .inr ⟨g, cap, cur, rfl, hB, (hk g rfl).trans hg, r⟩
theorem SRow.shape {W : World} {B : Nat} {v : Value} {ls : List (List UInt8)} (h : SRow W B v ls) : ∃ p cap, v = .slice p ls.length cap := by
  rcases h.2 with ⟨rfl, h0⟩ | ⟨g, cap, cur, rfl, _⟩
  · exact ⟨none, 0, by rw [h0]⟩
  · exact ⟨_, _, rfl⟩
theorem SRow.cell {W : World} {B : Nat} {p : Option Addr} {cap : Nat} {ls : List (List UInt8)} (h : SRow W B (.slice p ls.length cap) ls) {i : Nat} {l : List UInt8} (hi : ls[i]? = some l) : ∃ g, p = some ⟨g, 0, none⟩ ∧ W.cell? ⟨g, i, none⟩ = some (.string (txt l)) := by
  have hil := (List.getElem?_eq_some_iff.1 hi).1
  rcases h.2 with ⟨h0, h1⟩ | ⟨g, cap', cur, hv, _, hg, _, _, _, h4⟩
  · omega
  · cases hv
    refine ⟨g, rfl, ?_⟩
    rw [cell_at hg]
    have e : (scells ls)[i]? = some (.string (txt l)) := by unfold scells; rw [List.getElem?_map, hi]; rfl
    rw [← h4, Nat.mul_one, List.getElem?_take_of_lt hil, Array.getElem?_toList] at e
    exact e
/-- What all hands back: bodies, an error; the reader then. -/
def AllEnd (w : World) (R : Nat) (g : Option Nat) (a : AllR) (e : Ending) (w' : World) : Prop :=
  ∃ v, e = .returned (.tuple #[v, .int .i64 (a.e : Int)]) ∧ SRow w' w.heap.size v a.bodies ∧ ∃ g', (∀ k, g' = some k → g = some k ∨ w.heap.size ≤ k) ∧ (∀ k, g' = some k → v.ownBlock ≠ some k) ∧ RdIn w' R g' a.r ∧ Fr (rdX R g) w w'
/-- A number of rounds more. -/
theorem allR_step (k : Nat) (r : RS) : allR (k + 1) r = if (nextE r).is = true then ⟨(nextE r).body :: (allR k (nextR r)).bodies, (allR k (nextR r)).e, (allR k (nextR r)).r⟩ else ⟨[], (nextE r).e, nextR r⟩ := rfl
theorem one_new (W : World) (v : Value) : ∀ (j : Nat) (u : Value), [v][j]? = some u → (W.alloc (.cells #[v] 9)).cell? ((⟨W.heap.size, 0, none⟩ : Addr).add j) = some u := by
  intro j u hu
  match j, hu with
  | 0, hu =>
    rw [Addr.add_lit, cell_at (alloc_top W _ _)]
    exact hu
  | j + 1, hu => simp at hu
theorem next_live_is (r : RS) (h : (nextE r).is = true) : ∃ l, nextR r = .live l := by
  cases r with
  | dead n => cases h
  | live l =>
    unfold nextE at h
    unfold nextR
    simp only at h ⊢
    cases hn : nextP l with
    | wait => rw [hn] at h; cases h
    | bad k => rw [hn] at h; cases h
    | body f n => exact ⟨_, rfl⟩
/-- What the loop keeps, behind one step of the reader. -/
structure AllIn (w W : World) (R : Nat) (g g' : Option Nat) (v : Value) (pre : List (List UInt8)) (r : RS) : Prop where
  row : SRow W w.heap.size v pre
  own : ∀ k, g' = some k → g = some k ∨ w.heap.size ≤ k
  apart : ∀ k, g' = some k → v.ownBlock ≠ some k
  rd : RdIn W R g' r
  fr : Fr (rdX R g) w W
theorem AllIn.step {w W W' : World} {R : Nat} {g g' : Option Nat} {v : Value} {pre : List (List UInt8)} {r r' : RS} (h : AllIn w W R g g' v pre r) (hR : R < w.heap.size) (e : RdEnd W R g' r' W') : ∃ g'', AllIn w W' R g g'' v pre r' := by
  obtain ⟨g'', h1, h2, h3⟩ := e
  refine ⟨g'', h.row.keep (fun k hk => h3.block k (h.row.lt hk).1 (fun hx => ?_)), fun k hk => ?_, fun k hk => ?_, h2, h.fr.chain h3 (fun i hi hx => ?_)⟩
  · rcases hx with hx | hx
    · have := (h.row.lt hk).2; omega
    · exact h.apart k hx hk
  · rcases h1 k hk with h' | h'
    · exact h.own k h'
    · exact .inr (Nat.le_trans h.fr.size h')
  · rcases h1 k hk with h' | h'
    · exact h.apart k h'
    · intro hv
      have := (h.row.lt hv).1
      omega
  · rcases hx with hx | hx
    · exact .inl hx
    · rcases h.own i hx with h' | h'
      · exact .inr h'
      · omega
theorem AllIn.app {w W W2 : World} {R : Nat} {g g' : Option Nat} {v v2 : Value} {pre : List (List UInt8)} {b l : List UInt8} {o : Obj} (h : AllIn w W R g g' v pre (.live l)) (hR : R < w.heap.size)
    (h2 : W2.ownsRow w.heap.size 9 1 v2 (pre.length + 1) (scells pre ++ [.string (txt b)])) (hg : (W.alloc o).grownBy W2 v.ownBlock) (hne : ∀ k, v2.ownBlock = some k → v.ownBlock = some k ∨ (W.alloc o).heap.size ≤ k) : AllIn w W2 R g g' v2 (pre ++ [b]) (.live l) := by
  have hsz : (W.alloc o).heap.size = W.heap.size + 1 := World.size_alloc _ _
  have hrow : ∀ k, v.ownBlock = some k → w.heap.size ≤ k := fun k hk => (h.row.lt hk).2
  have hk : ∀ k, k < W.heap.size → v.ownBlock ≠ some k → W2.heap[k]? = W.heap[k]? := fun k hk hv => (hg.block k (by omega) (fun e => hv e.symm)).trans (Below.heap_alloc W o k hk)
  have hgl : ∀ k, g' = some k → k < W.heap.size := fun k hk => by
    obtain ⟨v', p, _, hv', _, e, _⟩ := h.rd
    exact hv'.lt (e.trans hk)
  refine ⟨?_, h.own, fun k hk2 hv => ?_, h.rd.keep (by have := hg.size; omega) (fun k hk2 hx => hk k hk2 (fun hv => ?_)), ?_⟩
  · unfold SRow
    rw [List.length_append, show scells (pre ++ [b]) = scells pre ++ [.string (txt b)] by simp [scells]]
    exact h2
  · rcases hne k hv with h' | h'
    · exact h.apart k hk2 h'
    · have := hgl k hk2; omega
  · rcases hx with hx | hx
    · have := hrow k hv; omega
    · exact h.apart k hx hv
  · refine h.fr.chain (Y := fun k => v.ownBlock = some k) ⟨hg.os, hg.tape, hg.output, by have := hg.size; omega, fun k hk2 hx => hk k hk2 hx⟩ (fun i hi hx => by have := hrow i hx; omega)
set_option maxRecDepth 100000 in
set_option maxHeartbeats 2000000 in
theorem all_any (w0 w : World) (hF : Facts w0) (hb0 : Below w0.heap.size w0 w) (R : Nat) (g : Option Nat) (r : RS) (h : RdIn w R g r) (hR0 : w0.heap.size ≤ R) (hg0 : ∀ k, g = some k → w0.heap.size ≤ k) :
    Calls Tryd.prog 19 #[.pointer (some ⟨R, 0, none⟩)] w (AllEnd w R g (allR 200 r)) := by
  have HN := Lib.hid (fun W g' r' (h' : RdIn W R g' r') (hb : Fr (rdX R g) w W) => next_any R g' r' W h' (hF.below (hb0.trans (hb.to_below hb0.size (fun k hk => by
    rcases hk with hk | hk
    · omega
    · exact hg0 k hk)))))
  obtain ⟨i0, hi0, hz0, hz1, hz2⟩ := info_parts str_info
  have hlt := h.lt
  obtain ⟨a, ha⟩ : ∃ a, a = allR 200 r := ⟨_, rfl⟩
  rw [← ha]
  unfold AllEnd
  go_enter Tryd.func19, Tryd.ntmps19
  go_wp2_with fail
  go_loopw [4, 5] (fun v n wr => ∃ (i : Nat) (pre : List (List UInt8)) (r' : RS) (g' : Option Nat) (v0 : Value), v0 = v ∧ n = .int .i64 (i : Int) ∧ i ≤ 200 ∧ pre.length = i ∧ a = ⟨pre ++ (allR (200 - i) r').bodies, (allR (200 - i) r').e, (allR (200 - i) r').r⟩ ∧ Hid (AllIn w wr R g g' v0 pre r')) (fun _ n _ => 200 - (intOf n).toNat)
  case atStart => exact ⟨0, [], r, g, _, rfl, rfl, by omega, rfl, by rw [ha]; rfl, Lib.hid ⟨⟨rfl, .inl ⟨rfl, rfl⟩⟩, fun k hk => .inl hk, (fun k _ hh => by cases hh), h, Fr.refl _ _⟩⟩
  case round =>
    obtain ⟨i, pre, r', g', v0, rfl, rfl, hi, hpl, hA, hI⟩ := hrel
    obtain ⟨p0, cap0, hv0⟩ := hI.out.row.shape
    subst hv0
    by_cases h2 : i = 200
    · subst h2
      go_wp2_with fail
      go_ret2
      rw [Nat.sub_self] at hA
      have hb : a = ⟨pre, 0, r'⟩ := by rw [hA]; simp [allR]
      rw [hb]
      exact ⟨_, rfl, hI.out.row, g', hI.out.own, hI.out.apart, hI.out.rd, hI.out.fr⟩
    · have h3 : (i : Int) < 200 := by omega
      have HX := Lib.hid (HN.out wr g' r' hI.out.rd hI.out.fr)
      have hst := allR_step (200 - i - 1) r'
      rw [show 200 - i - 1 + 1 = 200 - i by omega] at hst
      have herr := nextE_err r'
      unfold nextV at HX
      generalize hx : nextE r' = x at *
      obtain ⟨body, is, er⟩ := x
      simp only at HX herr hst
      cases is with
      | false =>
        simp only [Bool.false_eq_true, if_false] at hst
        clear herr
        go_wp2_with fail
        refine HX.out.mono ?_
        rintro e w1 ⟨rfl, he1⟩
        obtain ⟨g2, hI2⟩ := hI.out.step hlt he1
        have HI2 := Lib.hid hI2
        clear he1 HX hI2
        have hb : a = ⟨pre, er, nextR r'⟩ := by rw [hA, hst]; simp
        by_cases he0 : er = 0
        · subst he0
          go_wp2_with fail
          go_ret2
          rw [hb]
          exact ⟨_, by rw [← hpl]; rfl, HI2.out.row, g2, HI2.out.own, HI2.out.apart, HI2.out.rd, HI2.out.fr⟩
        · have he2 : ((er : Int) = 0) = False := by simp; exact he0
          go_wp2_with fail
          go_ret2
          rw [hb]
          exact ⟨_, by rw [← hpl]; rfl, HI2.out.row, g2, HI2.out.own, HI2.out.apart, HI2.out.rd, HI2.out.fr⟩
      | true =>
        have he0 := herr rfl
        subst he0
        obtain ⟨l2, hl2⟩ := next_live_is r' (by rw [hx])
        go_wp2_with fail
        refine HX.out.mono ?_
        rintro e w1 ⟨rfl, he1⟩
        obtain ⟨g2, hI2⟩ := hI.out.step hlt he1
        have HI2 := Lib.hid hI2
        clear he1 HX hI2 hI
        have HON : Hid (w1.ownsRow w.heap.size 9 1 (.slice p0 pre.length cap0) pre.length (scells pre)) := HI2.out.row
        have HB1 : Hid (w.heap.size ≤ w1.heap.size) := Lib.hid HI2.out.fr.size
        rw [hpl] at HON
        go_wp2_with (at_builtin; refine wpList_append_own2 _ rfl _ _ 44 rfl w.heap.size 9 i0 (.string ⟨#[]⟩) 1 16 Tryd.underlying44 hi0 hz0 hz1 hz2 rfl (by decide) _ _ _ rfl (HON.out.alloc _) ⟨w1.heap.size, 0, none⟩ 1 1 [.string (txt body)] rfl rfl (one_new _ _) ?c2 ?c3 ?c4 ?c5 ?_)
        case c2 => simp [Value.oneCell']
        case c3 => unfold maxLen; omega
        case c4 => omega
        case c5 => rw [World.size_alloc]; have := HB1.out; omega
        intro v2 w2 hown2 hgr2 hne2
        rw [hl2] at HI2 hst
        have HI3 : Hid (AllIn w w2 R g g2 v2 (pre ++ [body]) (.live l2)) := Lib.hid (HI2.out.app (o := .cells #[.string (txt body)] 9) hlt (by rw [hpl]; exact hown2) (by rw [hpl]; exact hgr2) (fun k hk => by rw [hpl, World.size_alloc]; exact hne2 k hk))
        obtain ⟨p2, cap2, hv2⟩ := HI3.out.row.shape
        subst hv2
        clear hown2 hgr2 hne2 HON HI2
        have hA2 : a = ⟨(pre ++ [body]) ++ (allR (200 - (i + 1)) (.live l2)).bodies, (allR (200 - (i + 1)) (.live l2)).e, (allR (200 - (i + 1)) (.live l2)).r⟩ := by
          rw [hA, hst, if_pos trivial, show 200 - i - 1 = 200 - (i + 1) by omega]
          simp
        have hlen : (pre ++ [body]).length = i + 1 := by rw [List.length_append, hpl]; rfl
        clear hA hst hx hl2
        go_wp2_with fail
        refine ⟨⟨i + 1, pre ++ [body], .live l2, g2, _, rfl, by go_num, by omega, hlen, hA2, HI3⟩, ?_⟩
        simp [intOf]
        omega
end Go.Proofs.YtmaihiklcdidbaaDoor
