/-
  edits' pieces and size, AT EVERY iterator of texts. No memory that was there turns. Conditions: the lengths.
-/
import Derived.Test.YtlgjlfljohapfaaESeq
namespace Go.Proofs.Ytlgjlfljohapfaa
open Go.RowKit Go.Shelf
attribute [local go_sem] Oper.semAt_some

theorem grown_cells {W W' : World} {row : Option Nat} (hg : W.grownBy W' row) (hr : ∀ r, row = some r → ∃ o : Obj, W.heap[r]? = some o ∧ o.isCells = false) (k : Nat) (x : Obj) (hk : W.heap[k]? = some x) (hx : x.isCells = true) : W'.heap[k]? = some x := by
  refine (hg.block k (heap_lt hk) ?_).trans hk
  intro e
  obtain ⟨o', h1, h2⟩ := hr k e.symm
  rw [hk] at h1
  injection h1 with h1
  subst h1
  rw [hx] at h2
  cases h2
/-- A function value that goes through texts. -/
structure Iter (w : World) (g : Nat) (lb : Array Value) (ls : List ByteArray) : Prop where
  enters : ∀ args w, (callFunc g args).run Try.prog w = .ok (.enter g args) w
  seq : ∀ (n : Nat) (X : Nat → Prop) (W0 : World), Below w.heap.size w W0 → (∀ k, X k → w.heap.size ≤ k ∧ k < W0.heap.size) → SeqStopsK Fence.wide n Try.prog g lb encS (KX X) (fun xs => vals xs = ls) (fun _ => True) 2001 W0
theorem Iter.keep {w w' : World} {g : Nat} {lb : Array Value} {ls : List ByteArray} (h : Iter w g lb ls) (hb : Below w.heap.size w w') : Iter w' g lb ls :=
  ⟨h.enters, fun n X W0 hb2 hX => h.seq n X W0 (hb.trans (hb2.mono hb.size)) (fun k hk => ⟨Nat.le_trans hb.size (hX k hk).1, (hX k hk).2⟩)⟩
/-- How many bytes texts have. -/
def tot (l : List ByteArray) : Nat := (cat l).length
theorem tot_snoc (l : List ByteArray) (x : ByteArray) : tot (l ++ [x]) = tot l + x.size := by
  unfold tot
  rw [cat_app, List.length_append, cat_cons, cat_nil, List.append_nil]
  rfl
theorem tot_le : ∀ l : List Bs, tot (vals l) ≤ l.length * 1000000
  | [] => Nat.zero_le _
  | x :: l => by
    have h1 := tot_le l
    have h2 := x.2
    show (cat (x.1 :: vals l)).length ≤ _
    rw [cat_cons, List.length_append, List.length_cons]
    unfold tot at h1
    have h3 : x.1.data.toList.length = x.1.size := rfl
    omega
set_option maxRecDepth 100000 in
theorem pieces_any (text : ByteArray) (A : Option Addr) (L : List Spl) (c : Nat) (hs : text.size ≤ 1000000) (hL : L.length ≤ 1000) (hZ : ∀ x ∈ L, x.s.size ≤ 1000000) (hft : fits text.size L = true) (w : World) (hS : SR w A L) :
    Calls Try.prog 40 #[.string text, .slice A L.length c] w fun e w' => ∃ lb, e = .returned (.func (.func 60) #[] lb) ∧ Iter w' 60 lb (pcsF text 0 L) ∧ Below w.heap.size w w' := by
  have hb1 := alloc_below w (.cells #[.string text] 9)
  have hb2 := alloc_below (w.alloc (.cells #[.string text] 9)) (.cells #[.slice A L.length c] 22)
  have hb := hb1.trans (hb2.mono hb1.size)
  have h2 := heap_keep hb2 (alloc_top w #[.string text] 9)
  have h1 := alloc_top (w.alloc (.cells #[.string text] 9)) #[.slice A L.length c] 22
  have hS2 := hS.keep hb
  have HI : Hid (Iter ((w.alloc (.cells #[.string text] 9)).alloc (.cells #[.slice A L.length c] 22)) 60 #[.pointer (some ⟨w.heap.size + 1, 0, none⟩), .pointer (some ⟨w.heap.size, 0, none⟩)] (pcsF text 0 L)) := Lib.hid (by
    refine ⟨enters_of Try.func60 (by kernel_rfl) rfl, fun n X W0 hb3 hX l J Jx W hbW hJ hJx hY h0 => ?_⟩
    rw [World.size_alloc] at h1
    have hx : ∀ k, k < w.heap.size + 2 → ¬ X k := fun k hk hx => by have := (hX k hx).1; simp at this; omega
    refine pieces_seq n text A L c hs hL hZ hft (w.heap.size + 1) w.heap.size X W0 (heap_keep hb3 h1) (heap_keep hb3 h2) (hS2.keep hb3) (fun k hk => (hX k hk).2) (hx _ (by omega)) (hx _ (by omega)) (fun h0 b o e => ?_) l J Jx W hbW hJ hJx (fun pre x W1 h hp => hY pre x W1 h (by omega)) h0
    obtain ⟨b', o', e', hc⟩ := hS h0
    rw [e] at e'
    cases e'
    have := cell_lt (hc 0 _ (List.getElem?_eq_getElem h0)).1
    exact hx _ (by omega))
  have HB := Lib.hid hb
  clear hb1 hb2 hb h1 h2 hS2 hS hZ hft
  go_enter Try.func40, Try.ntmps40
  go_wp2_with fail
  go_ret
  exact ⟨_, rfl, HI.out, HB.out⟩
set_option maxHeartbeats 4000000 in
set_option maxRecDepth 100000 in
theorem size_any (g : Nat) (lb : Array Value) (ls : List ByteArray) (w : World) (hI : Iter w g lb ls) : Calls Try.prog 59 #[.func (.func g) #[] lb] w fun e w' => e = .returned (.int .i64 (tot ls : Int)) ∧ Below w.heap.size w w' := by
  have HI := Lib.hid hI
  clear hI
  refine (callsIn_wide (n := 9)).1 ?_
  refine callsIn_of_wp_marks Try.func59 rfl trivial ?_ rfl
  simp only [Try.ntmps59, List.size_toArray, List.length_cons, List.length_nil, Nat.reduceAdd, Nat.reduceSub, Array.replicate_succ, Array.replicate_zero, List.push_toArray, List.append_toArray, List.nil_append, List.cons_append]
  gi_wp2_with fail
  obtain ⟨W0, hW0⟩ : ∃ W0, (w.alloc (.cells #[.int .i64 0] 3)) = W0 := ⟨_, rfl⟩
  have hB := alloc_below w (.cells #[.int .i64 0] 3)
  have h1 := alloc_top w #[.int .i64 0] 3
  have hz : (w.alloc (.cells #[.int .i64 0] 3)).heap.size = w.heap.size + 1 := by simp
  rw [hW0] at h1 hB hz ⊢
  clear hW0
  refine wpIn_rangeFunc_ownF (Kp := KX (· = w.heap.size)) rfl (by omega) (gf := g) (lb := lb) rfl trivial HI.out.enters
    (HI.out.seq _ _ W0 hB (fun k hk => by subst hk; omega)) (fun h k => h.trans k) (fun W l o o' _ h hc _ => KX.put W l o o' h hc) (Below.refl _ _) (fun _ => rfl)
    (fun pre W => W.heap[w.heap.size]? = some (.cells #[.int .i64 (tot (vals pre) : Int)] 3 (0, 0)) ∧ Below w.heap.size w W)
    (fun _ _ _ => False) ?own ?ownx ?start ?act ?assign ?body ?done ?stop
  case assign =>
    intro l x W K hK
    unfold encS
    gi_wp2
    exact hK
  case own =>
    rintro pre W W' row ⟨hc, hb⟩ hg hr
    exact ⟨grown_cells hg (fun r e => (hr r e).2) _ _ hc rfl, hb.grown hg hb.size (fun k e => Nat.le_trans (by omega) (hr k e).1)⟩
  case ownx => exact fun _ _ _ _ _ h _ _ => h
  case start => exact ⟨h1, hB⟩
  case body =>
    rintro l pre x W ⟨hc, hb⟩ hp
    have c1 := cell_at (i := 0) hc
    have f1 := frozen_of_row W w.heap.size 0 _ _ hc
    have b1 := tot_le pre
    have b2 := x.2
    have b3 : tot (vals pre) ≤ 2001000000 := by omega
    have HC := Lib.hid hc
    have HT : Hid (tot (vals (pre ++ [x])) = tot (vals pre) + x.1.size) := Lib.hid (by rw [vals_app]; exact tot_snoc _ _)
    clear hc b1 hp
    gi_wp2_with fail
    refine ⟨KeepsOthers.setCell _ _ _, KX.set W _ rfl, ?_, hb.setCell (p := ⟨w.heap.size, 0, none⟩) (Nat.le_refl _) _⟩
    rw [HT.out]
    exact heap_setCell_same W w.heap.size 0 _ _ _ HC.out
  case done =>
    rintro D xs W hD hxs ⟨hc, hb⟩ hK
    rw [hxs] at hc
    have c1 := cell_at (i := 0) hc
    clear hxs hc
    gi_wp2
    refine ⟨by simp, .inl ⟨_, _, rfl, run_takeDeferred hK, ?_⟩⟩
    exact ⟨_, results_tmp rfl _ _ _, rfl, hb.grown (grownBy_putObj' _ D _) hb.size (fun k e => by cases e; omega)⟩
  case stop =>
    rintro D c pre W _ _ h _
    exact h.elim
end Go.Proofs.Ytlgjlfljohapfaa
