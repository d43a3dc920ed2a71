/-
  json's copyOf AT EVERY VALUE in memory of at most 1000000 (szJ): the same value in new memory; nothing that was there turns. Condition: the value's size.
-/
import Derived.Test.YtmkjoonbjmieoaaDoorQClone
namespace Go.Proofs.YtmkjoonbjmieoaaDoor
open Go.RowKit

theorem lin_of_row {W : World} {Q : Nat → Prop} {g : Nat} : ∀ (l : List J) (o : Nat), (∀ i j, l[i]? = some j → ∃ v0 v1 v2 v3, W.cell? ⟨g, o + i * 4, none⟩ = some v0 ∧ W.cell? ⟨g, o + i * 4 + 1, none⟩ = some v1 ∧ W.cell? ⟨g, o + i * 4 + 2, none⟩ = some v2 ∧ W.cell? ⟨g, o + i * 4 + 3, none⟩ = some v3 ∧ JIn W Q j (.agg #[v0, v1, v2, v3])) → LIn W Q g o l
  | [], o, _ => by rw [LIn]; trivial
  | j :: l, o, h => by
    rw [LIn]
    refine ⟨by simpa using h 0 j rfl, lin_of_row l (o + 4) (fun i t ht => ?_)⟩
    have := h (i + 1) t (by simpa using ht)
    rw [show o + (i + 1) * 4 = o + 4 + i * 4 by omega] at this
    exact this
/-- copyOf's state: the value's block, the result's. -/
structure CS (w : World) (c : Array Value) (W : World) : Prop where
  below : Below w.heap.size w W
  cell : W.heap[w.heap.size]? = some (.cells c 26 (0, 0))
  res : W.heap[w.heap.size + 1]? = some (.cells #[.int .i64 0, .string ⟨#[]⟩, .slice none 0 0, .slice none 0 0] 26 (0, 0))
theorem CS.new (w : World) (c : Array Value) : CS w c ((w.alloc (.cells c 26)).alloc (.cells #[.int .i64 0, .string ⟨#[]⟩, .slice none 0 0, .slice none 0 0] 26)) := by
  have h := TwoJ.new w c #[.int .i64 0, .string ⟨#[]⟩, .slice none 0 0, .slice none 0 0]
  exact ⟨h.below, h.one, h.two⟩
theorem CS.step {w W W' : World} {c : Array Value} (h : CS w c W) (hb : Below W.heap.size W W') : CS w c W' :=
  ⟨h.below.trans (hb.mono h.below.size), heap_keep hb h.cell, heap_keep hb h.res⟩
theorem CS.lt {w W : World} {c : Array Value} (h : CS w c W) : w.heap.size + 2 ≤ W.heap.size := by
  have := (Array.getElem?_eq_some_iff.1 h.res).1; omega
/-- A field of the value is set. -/
theorem CS.put {w W : World} {c : Array Value} (h : CS w c W) (i : Nat) (v : Value) : CS w (c.setIfInBounds i v) (W.setCell ⟨w.heap.size, i, none⟩ v) :=
  ⟨h.below.setCell (p := ⟨w.heap.size, i, none⟩) (Nat.le_refl _) v, heap_setCell_same W w.heap.size i c _ v h.cell, (heap_setCell_other W ⟨w.heap.size, i, none⟩ (w.heap.size + 1) v (by show w.heap.size + 1 ≠ w.heap.size; omega)).trans h.res⟩
/-- Another block's cell is set. -/
theorem CS.far {w W : World} {c : Array Value} (h : CS w c W) {g : Nat} (hg : w.heap.size + 2 ≤ g) (i : Nat) (v : Value) : CS w c (W.setCell ⟨g, i, none⟩ v) :=
  ⟨h.below.setCell (p := ⟨g, i, none⟩) (by show w.heap.size ≤ g; omega) v, (heap_setCell_other W ⟨g, i, none⟩ w.heap.size v (by show w.heap.size ≠ g; omega)).trans h.cell, (heap_setCell_other W ⟨g, i, none⟩ (w.heap.size + 1) v (by show w.heap.size + 1 ≠ g; omega)).trans h.res⟩
theorem CS.frozen {w W : World} {c : Array Value} (h : CS w c W) (i : Nat) : W.frozen? ⟨w.heap.size, i, none⟩ = false := by unfold World.frozen?; simp only [h.cell]; rfl
theorem CS.rfrozen {w W : World} {c : Array Value} (h : CS w c W) (i : Nat) : W.frozen? ⟨w.heap.size + 1, i, none⟩ = false := by unfold World.frozen?; simp only [h.res]; rfl
theorem RowK.keep {W W' : World} {B : Nat} {A : Option Addr} {ks : List (List UInt8)} (h : RowK W B A ks) (hs : ∀ k, B ≤ k → k < W.heap.size → W'.heap[k]? = W.heap[k]?) : RowK W' B A ks := by
  intro hp
  obtain ⟨g, cur, h1, h2, h3, h4⟩ := h hp
  exact ⟨g, cur, h1, h2, (hs g h2 (Array.getElem?_eq_some_iff.1 h3).1).trans h3, h4⟩
theorem RowK.below {W W' : World} {B : Nat} {A : Option Addr} {ks : List (List UInt8)} (h : RowK W B A ks) (hb : Below W.heap.size W W') : RowK W' B A ks := h.keep (fun k _ hk => hb.block k hk)
theorem RowK.less {W : World} {B C : Nat} {A : Option Addr} {ks : List (List UInt8)} (h : RowK W B A ks) (hc : C ≤ B) : RowK W C A ks := by
  intro hp
  obtain ⟨g, cur, h1, h2, h3⟩ := h hp
  exact ⟨g, cur, h1, Nat.le_trans hc h2, h3⟩
/-- The items' row: the first ones are copies, the others what they were. -/
def RowM (W : World) (g : Nat) (Pn P : Nat → Prop) (n : Nat) (l : List J) : Prop := ∃ cur : Array Value, W.heap[g]? = some (.cells cur 26 (0, 0)) ∧
  ∀ i j, l[i]? = some j → ∃ v0 v1 v2 v3, cur[i * 4]? = some v0 ∧ cur[i * 4 + 1]? = some v1 ∧ cur[i * 4 + 2]? = some v2 ∧ cur[i * 4 + 3]? = some v3 ∧ (if i < n then JIn W Pn j (.agg #[v0, v1, v2, v3]) else JIn W P j (.agg #[v0, v1, v2, v3]))
theorem RowM.keep {W W' : World} {g : Nat} {Pn P : Nat → Prop} {n : Nat} {l : List J} (h : RowM W g Pn P n l) (hg : g < W.heap.size → W'.heap[g]? = W.heap[g]?) (hs : ∀ k, Pn k ∨ P k → k < W.heap.size → W'.heap[k]? = W.heap[k]?) : RowM W' g Pn P n l := by
  obtain ⟨cur, h1, h2⟩ := h
  refine ⟨cur, (hg (Array.getElem?_eq_some_iff.1 h1).1).trans h1, fun i j hi => ?_⟩
  obtain ⟨v0, v1, v2, v3, e0, e1, e2, e3, hj⟩ := h2 i j hi
  refine ⟨v0, v1, v2, v3, e0, e1, e2, e3, ?_⟩
  split
  · rename_i hc; rw [if_pos hc] at hj; exact JIn.keep (fun k hk hl => hs k (.inl hk) hl) (fun _ hk _ => hk) _ _ hj
  · rename_i hc; rw [if_neg hc] at hj; exact JIn.keep (fun k hk hl => hs k (.inr hk) hl) (fun _ hk _ => hk) _ _ hj
theorem RowM.below {W W' : World} {g : Nat} {Pn P : Nat → Prop} {n : Nat} {l : List J} (h : RowM W g Pn P n l) (hb : Below W.heap.size W W') : RowM W' g Pn P n l := h.keep (fun hg => hb.block g hg) (fun k _ hk => hb.block k hk)
def set4J (W : World) (g o : Nat) (v0 v1 v2 v3 : Value) : World := (((W.setCell ⟨g, o, none⟩ v0).setCell ⟨g, o + 1, none⟩ v1).setCell ⟨g, o + 2, none⟩ v2).setCell ⟨g, o + 3, none⟩ v3
theorem set4J_heap {W : World} {g o : Nat} {cur : Array Value} {T : TypeId} (h : W.heap[g]? = some (.cells cur T (0, 0))) (v0 v1 v2 v3 : Value) :
    (set4J W g o v0 v1 v2 v3).heap[g]? = some (.cells ((((cur.setIfInBounds o v0).setIfInBounds (o + 1) v1).setIfInBounds (o + 2) v2).setIfInBounds (o + 3) v3) T (0, 0)) :=
  heap_setCell_same _ _ _ _ _ _ (heap_setCell_same _ _ _ _ _ _ (heap_setCell_same _ _ _ _ _ _ (heap_setCell_same _ _ _ _ _ _ h)))
theorem set4J_other {W : World} {g o k : Nat} (hk : k ≠ g) (v0 v1 v2 v3 : Value) : (set4J W g o v0 v1 v2 v3).heap[k]? = W.heap[k]? := by
  unfold set4J
  rw [heap_setCell_other _ ⟨g, _, none⟩ k _ hk, heap_setCell_other _ ⟨g, _, none⟩ k _ hk, heap_setCell_other _ ⟨g, _, none⟩ k _ hk, heap_setCell_other _ ⟨g, _, none⟩ k _ hk]
theorem RowM.set {W : World} {g : Nat} {Pn P : Nat → Prop} {n : Nat} {l : List J} (h : RowM W g Pn P n l) (hPg : ∀ k, Pn k ∨ P k → k ≠ g) {t : J} (ht : l[n]? = some t) {v0 v1 v2 v3 : Value} (hj : JIn W Pn t (.agg #[v0, v1, v2, v3])) :
    RowM (set4J W g (n * 4) v0 v1 v2 v3) g Pn P (n + 1) l := by
  obtain ⟨cur, h1, h2⟩ := h
  refine ⟨_, set4J_heap h1 v0 v1 v2 v3, fun i j hi => ?_⟩
  have hkeep : ∀ (Q : Nat → Prop) (x : J) (u : Value), (∀ k, Q k → k ≠ g) → JIn W Q x u → JIn (set4J W g (n * 4) v0 v1 v2 v3) Q x u := fun Q x u hq hx => JIn.keep (fun k hk _ => set4J_other (hq k hk) v0 v1 v2 v3) (fun _ hk _ => hk) x u hx
  obtain ⟨u0, u1, u2, u3, e0, e1, e2, e3, hu⟩ := h2 i j hi
  by_cases hin : i = n
  · subst hin
    obtain rfl : t = j := by rw [ht] at hi; exact Option.some.inj hi
    have hsz : i * 4 + 3 < cur.size := (Array.getElem?_eq_some_iff.1 e3).1
    refine ⟨v0, v1, v2, v3, ?_, ?_, ?_, ?_, ?_⟩
    · simp only [Array.getElem?_setIfInBounds]; simp; omega
    · simp only [Array.getElem?_setIfInBounds]; simp; omega
    · simp only [Array.getElem?_setIfInBounds]; simp; omega
    · simp only [Array.getElem?_setIfInBounds]; simp; omega
    · rw [if_pos (by omega)]; exact hkeep Pn t _ (fun k hk => hPg k (.inl hk)) hj
  · refine ⟨u0, u1, u2, u3, ?_, ?_, ?_, ?_, ?_⟩
    · simp only [Array.getElem?_setIfInBounds]; rw [if_neg (by omega), if_neg (by omega), if_neg (by omega), if_neg (by omega)]; exact e0
    · simp only [Array.getElem?_setIfInBounds]; rw [if_neg (by omega), if_neg (by omega), if_neg (by omega), if_neg (by omega)]; exact e1
    · simp only [Array.getElem?_setIfInBounds]; rw [if_neg (by omega), if_neg (by omega), if_neg (by omega), if_neg (by omega)]; exact e2
    · simp only [Array.getElem?_setIfInBounds]; rw [if_neg (by omega), if_neg (by omega), if_neg (by omega), if_neg (by omega)]; exact e3
    · by_cases hc : i < n
      · rw [if_pos hc] at hu; rw [if_pos (by omega)]; exact hkeep Pn j _ (fun k hk => hPg k (.inl hk)) hu
      · rw [if_neg hc] at hu; rw [if_neg (by omega)]; exact hkeep P j _ (fun k hk => hPg k (.inr hk)) hu
theorem jin_form {W : World} {P : Nat → Prop} {j : J} {v : Value} (h : JIn W P j v) : ∃ k s A n c B m d, v = .agg #[.int .i64 k, .string s, .slice A n c, .slice B m d] := by
  obtain ⟨k, s, ks, l⟩ := j
  obtain ⟨ka, kc, ia, ic, he, _⟩ := h.open
  exact ⟨_, _, _, _, _, _, _, _, he⟩
theorem frozen_of_heapJ {W : World} {g i : Nat} {cur : Array Value} {T : TypeId} (h : W.heap[g]? = some (.cells cur T (0, 0))) : W.frozen? ⟨g, i, none⟩ = false := by unfold World.frozen?; simp only [h]; simp
theorem store_facts {W W' : World} {g i : Nat} {cur : Array Value} {T : TypeId} {a b c d : Value} (hb : Below W.heap.size W W') (h : W.heap[g]? = some (.cells cur T (0, 0))) (hc : cur[i * 4]? = some a ∧ cur[i * 4 + 1]? = some b ∧ cur[i * 4 + 2]? = some c ∧ cur[i * 4 + 3]? = some d) :
    W'.heap[g]? = some (.cells cur T (0, 0)) ∧ W'.cell? ⟨g, i * 4, none⟩ = some a ∧ W'.cell? ⟨g, i * 4 + 1, none⟩ = some b ∧ W'.cell? ⟨g, i * 4 + 2, none⟩ = some c ∧ W'.cell? ⟨g, i * 4 + 3, none⟩ = some d ∧
    W'.frozen? ⟨g, i * 4, none⟩ = false ∧ W'.frozen? ⟨g, i * 4 + 1, none⟩ = false ∧ W'.frozen? ⟨g, i * 4 + 2, none⟩ = false ∧ W'.frozen? ⟨g, i * 4 + 3, none⟩ = false := by
  have hr := heap_keep hb h
  refine ⟨hr, ?_, ?_, ?_, ?_, frozen_of_heapJ hr, frozen_of_heapJ hr, frozen_of_heapJ hr, frozen_of_heapJ hr⟩
  · rw [cell_at hr]; exact hc.1
  · rw [cell_at hr]; exact hc.2.1
  · rw [cell_at hr]; exact hc.2.2.1
  · rw [cell_at hr]; exact hc.2.2.2
theorem far4 {W : World} {g o k j : Nat} {a b c d : Value} (h : ¬ (g = k)) : ((((W.setCell ⟨g, o, none⟩ a).setCell ⟨g, o + 1, none⟩ b).setCell ⟨g, o + 2, none⟩ c).setCell ⟨g, o + 3, none⟩ d).cell? ⟨k, j, none⟩ = W.cell? ⟨k, j, none⟩ := by
  rw [World.cell?_setCell_far _ _ _ _ h, World.cell?_setCell_far _ _ _ _ h, World.cell?_setCell_far _ _ _ _ h, World.cell?_setCell_far _ _ _ _ h]
theorem RowK.other {W : World} {B g o : Nat} {A : Option Addr} {ks : List (List UInt8)} {cur : Array Value} (h : RowK W B A ks) (hg : W.heap[g]? = some (.cells cur 26 (0, 0))) {v0 v1 v2 v3 : Value} : RowK (set4J W g o v0 v1 v2 v3) B A ks := by
  intro hp
  obtain ⟨b, c, h1, h2, h3, h4⟩ := h hp
  have hne : b ≠ g := by
    rintro rfl
    rw [hg] at h3
    simp only [Option.some.injEq, Obj.cells.injEq] at h3
    exact absurd h3.2.1 (by decide)
  exact ⟨b, c, h1, h2, (set4J_other hne v0 v1 v2 v3).trans h3, h4⟩
/-- copyOf's contract at a value. -/
def COk (j : J) : Prop := ∀ (P : Nat → Prop) (v : Value) (w : World), JIn w P j v → Calls Tryd.prog 22 #[v] w fun e w' => ∃ v', e = .returned v' ∧ JIn w' (fun k => w.heap.size ≤ k) j v' ∧ Below w.heap.size w w'
set_option maxRecDepth 100000 in
set_option maxHeartbeats 4000000 in
theorem copyOf_step (j : J) (hsz : szJ j ≤ 1000000) (hih : ∀ t : J, szJ t < szJ j → COk t) : COk j := by
  intro P0 v w hj0
  obtain ⟨P, hP⟩ : ∃ P : Nat → Prop, P = fun k => k < w.heap.size := ⟨_, rfl⟩
  have hj : JIn w P j v := by rw [hP]; exact jin_low hj0
  have HP : Hid (∀ k, P k → k < w.heap.size) := Lib.hid (fun k hk => by rw [hP] at hk; exact hk)
  clear hP hj0
  obtain ⟨k, s, ks, l⟩ := j
  rw [szJ_eq] at hsz hih
  obtain ⟨ka, kc, ia, ic, rfl, hk, hl⟩ := hj.open
  have hkl := szK_len ks
  have hll := szL_len l
  have HK := Lib.hid hk
  have HL := Lib.hid hl
  have HIH : Hid (∀ t ∈ l, COk t) := Lib.hid (fun t ht => hih t (by have := szL_mem ht; omega))
  have HC0 := Lib.hid (CS.new w #[.int .i64 k, .string (txt s), .slice ka ks.length kc, .slice ia l.length ic])
  have HS := Lib.hid (fun (W : World) => clone_any (txt s) (by rw [txt_size]; omega) W)
  have HCK := Lib.hid (fun (W : World) (hb : Below w.heap.size w W) => cloneKeys_any P ks ka kc (by omega) W (hk.below hb))
  have HCI := Lib.hid (fun (W : World) (hb : Below w.heap.size w W) => cloneItems_any P l ia ic (by omega) W (hl.below hb))
  have HKS : Hid (∀ x ∈ ks, x.length ≤ 1000000) := Lib.hid (fun x hx => by have := szK_mem hx; omega)
  obtain ⟨x0, x1, x2, x3⟩ := tok_cells HC0.out.cell
  have hz1 : ((w.alloc (.cells #[.int .i64 k, .string (txt s), .slice ka ks.length kc, .slice ia l.length ic] 26))).heap.size = w.heap.size + 1 := World.size_alloc ..
  generalize hkn : ks.length = kn at *
  generalize hln : l.length = ln at *
  have HKN := Lib.hid hkn
  have HLN := Lib.hid hln
  have hknb : kn ≤ 1000000 := by omega
  have hlnb : ln ≤ 1000000 := by omega
  clear hj hk hl hih hsz hkl hll hkn hln
  go_enter Tryd.func22, Tryd.ntmps22
  go_wp2_with fail
  refine (HS.out _).mono ?_
  rintro e w1 ⟨rfl, hb⟩
  have HC1 := Lib.hid (HC0.out.step hb)
  clear hb x0 x1 x2 x3
  obtain ⟨x0, x1, x2, x3⟩ := tok_cells HC1.out.cell
  have hse : w1.setCell ⟨w.heap.size, 1, none⟩ (.string (txt s)) = w1 := setCell_self HC1.out.cell rfl
  have hfr := HC1.out.frozen 1
  go_wp2_with fail
  refine (HCK.out w1 HC1.out.below).mono ?_
  rintro e w2 ⟨A2, c2, rfl, hrk, hb⟩
  have HC2 := Lib.hid (HC1.out.step hb)
  have HRK := Lib.hid (hrk.less HC1.out.lt)
  clear hb hrk x0 x1 x2 x3 hse hfr
  obtain ⟨x0, x1, x2, x3⟩ := tok_cells HC2.out.cell
  have hfr := HC2.out.frozen 2
  have HC3 : Hid (CS w #[.int .i64 k, .string (txt s), .slice A2 kn c2, .slice ia ln ic] (w2.setCell ⟨w.heap.size, 2, none⟩ (.slice A2 kn c2))) := Lib.hid (HC2.out.put 2 (.slice A2 kn c2))
  have HRK3 : Hid (RowK (w2.setCell ⟨w.heap.size, 2, none⟩ (.slice A2 kn c2)) (w.heap.size + 2) A2 ks) := Lib.hid (HRK.out.keep (fun k hk _ => heap_setCell_other w2 ⟨w.heap.size, 2, none⟩ k _ (by show k ≠ w.heap.size; omega)))
  go_wp2_with fail
  generalize w2.setCell ⟨w.heap.size, 2, none⟩ (.slice A2 kn c2) = w3 at *
  clear HC2 HRK x0 x1 x2 x3 hfr HC1 HC0
  go_loopw [3, 4, 18] (fun _ _ vi wr => ∃ i : Nat, i ≤ kn ∧ vi = .int .i64 i ∧ Hid (CS w #[.int .i64 k, .string (txt s), .slice A2 kn c2, .slice ia ln ic] wr) ∧ Hid (RowK wr (w.heap.size + 2) A2 ks)) (fun _ _ vi _ => kn - (intOf vi).toNat)
  case atStart => exact ⟨0, Nat.zero_le _, rfl, HC3, HRK3⟩
  case round =>
    clear HC3 HRK3
    obtain ⟨i, hi, rfl, hcs, hrk⟩ := hrel
    obtain ⟨x0, x1, x2, x3⟩ := tok_cells hcs.out.cell
    by_cases hlt : i < kn
    · have hltz : (i : Int) < (kn : Int) := by omega
      have hik : i < ks.length := by rw [HKN.out]; exact hlt
      obtain ⟨g, cur, rfl, hg, hgc, hcur⟩ := hrk.out (by omega)
      obtain ⟨x, hx⟩ : ∃ x, x = ks[i] := ⟨_, rfl⟩
      have hxi := hcur i x (by rw [hx]; exact List.getElem?_eq_getElem hik)
      have a0 : wr.cell? ⟨g, i, none⟩ = some (.string (txt x)) := by rw [cell_at hgc]; exact hxi
      have HX := Lib.hid (fun (W : World) => clone_any (txt x) (by have := HKS.out x (by rw [hx]; exact List.getElem_mem hik); rw [txt_size]; omega) W)
      have HG := Lib.hid (And.intro hg (And.intro hgc hxi))
      have HX2 := Lib.hid x2
      have hNg : ¬ (w.heap.size = g) := by omega
      have hgN : ¬ (g = w.heap.size) := by omega
      clear hx hik hcur hgc hxi hg
      go_wp2_with fail
      clear x0 x1 x2 x3 a0
      go_region_held3 (fun W => W.cell? ⟨w.heap.size, 2, none⟩ = some (.slice (some ⟨g, 0, none⟩) kn c2)) (first | exact HX2.out | exact cell_keep2 (below_drewJ kq) HX2.out | exact (by rw [World.cell?_setCell_far _ _ _ _ hgN]; exact cell_keep2 (below_drewJ kq) HX2.out)) (first | (go_at_call 40; refine (HX.out _).mono ?_; rintro e wq ⟨rfl, kq⟩; have hqr := heap_keep (below_drewJ kq) HG.out.2.1; have hq0 : wq.cell? ⟨g, i, none⟩ = some (.string (txt x)) := (cell_at hqr).trans HG.out.2.2; have hq1 : wq.frozen? ⟨g, i, none⟩ = false := (by unfold World.frozen?; simp only [hqr]; rfl)))
      have HSE : wq.setCell ⟨g, i, none⟩ (.string (txt x)) = wq := setCell_self hqr HG.out.2.2
      have HC4 := Lib.hid (hcs.out.step (below_drewJ kq))
      have HR4 := Lib.hid (hrk.out.below (below_drewJ kq))
      clear kq hqr hq0 hq1 HX2 HG
      go_wp2_with fail
      go_roundw
      case rel => exact ⟨i + 1, by omega, by go_num, by (try rw [HSE]); exact HC4, by (try rw [HSE]); exact HR4⟩
      case measure => simp [intOf]; omega
    · have hltz : ¬ (i : Int) < (kn : Int) := by omega
      have HCS := Lib.hid hcs.out
      have HRK := Lib.hid hrk.out
      have HCI1 := Lib.hid (HCI.out wr hcs.out.below)
      clear hcs hrk hlt hi
      go_wp2_with fail
      refine HCI1.out.mono ?_
      rintro e w5 ⟨A3, c3, rfl, hrj, hb⟩
      have HC5 := Lib.hid (HCS.out.step hb)
      have HRK5 := Lib.hid (HRK.out.below hb)
      have HRJ5 := Lib.hid hrj
      have HB5 := Lib.hid (show w.heap.size + 2 ≤ wr.heap.size from HCS.out.lt)
      clear hb hrj x0 x1 x2 x3
      obtain ⟨x0, x1, x2, x3⟩ := tok_cells HC5.out.cell
      have hfr := HC5.out.frozen 3
      go_wp2_with fail
      have HC6 : Hid (CS w #[.int .i64 k, .string (txt s), .slice A2 kn c2, .slice A3 ln c3] (w5.setCell ⟨w.heap.size, 3, none⟩ (.slice A3 ln c3))) := Lib.hid (HC5.out.put 3 (.slice A3 ln c3))
      have HRK6 : Hid (RowK (w5.setCell ⟨w.heap.size, 3, none⟩ (.slice A3 ln c3)) (w.heap.size + 2) A2 ks) := Lib.hid (HRK5.out.keep (fun k hk _ => heap_setCell_other w5 ⟨w.heap.size, 3, none⟩ k _ (by show k ≠ w.heap.size; omega)))
      obtain ⟨g, hg⟩ : ∃ g, 0 < ln → A3 = some ⟨g, 0, none⟩ ∧ w.heap.size + 2 ≤ g ∧ RowM (w5.setCell ⟨w.heap.size, 3, none⟩ (.slice A3 ln c3)) g (fun k => w.heap.size + 2 ≤ k ∧ k ≠ g) P 0 l := by
        rcases Nat.eq_zero_or_pos ln with h0 | h0
        · exact ⟨0, fun h => by omega⟩
        · obtain ⟨g, cur, h1, h2, h3, h4⟩ := HRJ5.out (by rw [HLN.out]; exact h0)
          refine ⟨g, fun _ => ⟨h1, Nat.le_trans HB5.out h2, ?_⟩⟩
          have hgN : g ≠ w.heap.size := by have := HB5.out; omega
          refine RowM.keep (W := w5) ⟨cur, h3, fun i j hi => ?_⟩ (fun _ => heap_setCell_other w5 ⟨w.heap.size, 3, none⟩ g _ hgN) (fun k hk _ => ?_)
          · obtain ⟨v0, v1, v2, v3, e0, e1, e2, e3, hj⟩ := h4 i j hi
            exact ⟨v0, v1, v2, v3, e0, e1, e2, e3, by rw [if_neg (by omega)]; exact hj⟩
          · exact heap_setCell_other w5 ⟨w.heap.size, 3, none⟩ k _ (by show k ≠ w.heap.size; rcases hk with hk | hk <;> first | omega | (have := HP.out k hk; omega))
      have HM6 := Lib.hid hg
      clear hg HRJ5 HRK5
      generalize w5.setCell ⟨w.heap.size, 3, none⟩ (.slice A3 ln c3) = w6 at *
      clear HC5 x0 x1 x2 x3 hfr HCS HRK HCI1
      go_loopw [5, 6, 37] (fun _ _ vi wr => ∃ i : Nat, i ≤ ln ∧ vi = .int .i64 i ∧ Hid (CS w #[.int .i64 k, .string (txt s), .slice A2 kn c2, .slice A3 ln c3] wr) ∧ Hid (RowK wr (w.heap.size + 2) A2 ks) ∧ Hid (0 < ln → A3 = some ⟨g, 0, none⟩ ∧ w.heap.size + 2 ≤ g ∧ RowM wr g (fun k => w.heap.size + 2 ≤ k ∧ k ≠ g) P i l)) (fun _ _ vi _ => ln - (intOf vi).toNat)
      case atStart => exact ⟨0, Nat.zero_le _, rfl, HC6, HRK6, HM6⟩
      case round =>
        clear HC6 HRK6 HM6
        obtain ⟨i, hi, rfl, hcs, hrk, hrm⟩ := hrel
        obtain ⟨x0, x1, x2, x3⟩ := tok_cells hcs.out.cell
        by_cases hlt : i < ln
        · have hltz : (i : Int) < (ln : Int) := by omega
          have hil : i < l.length := by rw [HLN.out]; exact hlt
          obtain ⟨rfl, hg2, hrw⟩ := hrm.out (by omega)
          obtain ⟨t, htt⟩ : ∃ t, t = l[i] := ⟨_, rfl⟩
          have hti : l[i]? = some t := by rw [htt]; exact List.getElem?_eq_getElem hil
          have HTM : Hid (t ∈ l) := Lib.hid (by rw [htt]; exact List.getElem_mem hil)
          obtain ⟨cur, hgc, hcur⟩ := hrw
          obtain ⟨v0, v1, v2, v3, e0, e1, e2, e3, hj⟩ := hcur i t hti
          rw [if_neg (by omega)] at hj
          obtain ⟨k1, s1, A1, n1, c1, B1, m1, f1, rfl, rfl, rfl, rfl⟩ := jin_shape hj
          have d0 : wr.cell? ⟨g, i * 4, none⟩ = some (.int .i64 k1) := by rw [cell_at hgc]; exact e0
          have d1 : wr.cell? ⟨g, i * 4 + 1, none⟩ = some (.string s1) := by rw [cell_at hgc]; exact e1
          have d2 : wr.cell? ⟨g, i * 4 + 2, none⟩ = some (.slice A1 n1 c1) := by rw [cell_at hgc]; exact e2
          have d3 : wr.cell? ⟨g, i * 4 + 3, none⟩ = some (.slice B1 m1 f1) := by rw [cell_at hgc]; exact e3
          have hbi := alloc_below wr (.cells #[.int .i64 k1, .string s1, .slice A1 n1 c1, .slice B1 m1 f1] 26)
          have hti := alloc_top wr #[.int .i64 k1, .string s1, .slice A1 n1 c1, .slice B1 m1 f1] 26
          have HBI := Lib.hid hbi
          have HS0 : Hid ((wr.alloc (.cells #[.int .i64 k1, .string s1, .slice A1 n1 c1, .slice B1 m1 f1] 26)).cell? ⟨w.heap.size, 3, none⟩ = some (.slice (some ⟨g, 0, none⟩) ln c3) ∧ (wr.alloc (.cells #[.int .i64 k1, .string s1, .slice A1 n1 c1, .slice B1 m1 f1] 26)).cell? ⟨wr.heap.size, 0, none⟩ = some (.int .i64 k1) ∧ (wr.alloc (.cells #[.int .i64 k1, .string s1, .slice A1 n1 c1, .slice B1 m1 f1] 26)).cell? ⟨wr.heap.size, 1, none⟩ = some (.string s1) ∧ (wr.alloc (.cells #[.int .i64 k1, .string s1, .slice A1 n1 c1, .slice B1 m1 f1] 26)).cell? ⟨wr.heap.size, 2, none⟩ = some (.slice A1 n1 c1) ∧ (wr.alloc (.cells #[.int .i64 k1, .string s1, .slice A1 n1 c1, .slice B1 m1 f1] 26)).cell? ⟨wr.heap.size, 3, none⟩ = some (.slice B1 m1 f1)) := Lib.hid (by
            obtain ⟨t0, t1, t2, t3⟩ := tok_cells hti
            exact ⟨cell_keep2 hbi x3, t0, t1, t2, t3⟩)
          have HG0 : Hid ((wr.alloc (.cells #[.int .i64 k1, .string s1, .slice A1 n1 c1, .slice B1 m1 f1] 26)).heap[g]? = some (.cells cur 26 (0, 0))) := Lib.hid (heap_keep hbi hgc)
          have HCU := Lib.hid (And.intro e0 (And.intro e1 (And.intro e2 e3)))
          have HO := Lib.hid (fun (W : World) (hb : Below (wr.alloc (.cells #[.int .i64 k1, .string s1, .slice A1 n1 c1, .slice B1 m1 f1] 26)).heap.size (wr.alloc (.cells #[.int .i64 k1, .string s1, .slice A1 n1 c1, .slice B1 m1 f1] 26)) W) => HIH.out t HTM.out P (.agg #[.int .i64 k1, .string s1, .slice A1 n1 c1, .slice B1 m1 f1]) W ((hj.below hbi).below hb))
          have HTI2 := Lib.hid (show l[i]? = some t by rw [htt]; exact List.getElem?_eq_getElem hil)
          have HLT := Lib.hid (And.intro hlt (And.intro hg2 (show w.heap.size + 2 ≤ wr.heap.size from hcs.out.lt)))
          have hgl : g < wr.heap.size := (Array.getElem?_eq_some_iff.1 hgc).1
          have hgN : ¬ (g = w.heap.size) := by omega
          have hNg : ¬ (w.heap.size = g) := by omega
          have hgM : ¬ (g = wr.heap.size) := by omega
          have hMg : ¬ (wr.heap.size = g) := by omega
          clear hti hbi hcur hj htt hil e0 e1 e2 e3 hgc hg2
          go_wp2_with fail
          clear x0 x1 x2 x3 d0 d1 d2 d3
          go_region_held3 (fun W => W.cell? ⟨w.heap.size, 3, none⟩ = some (.slice (some ⟨g, 0, none⟩) ln c3) ∧ W.cell? ⟨wr.heap.size, 0, none⟩ = some (.int .i64 k1) ∧ W.cell? ⟨wr.heap.size, 1, none⟩ = some (.string s1) ∧ W.cell? ⟨wr.heap.size, 2, none⟩ = some (.slice A1 n1 c1) ∧ W.cell? ⟨wr.heap.size, 3, none⟩ = some (.slice B1 m1 f1)) (first | exact HS0.out | exact (by obtain ⟨h0, h1, h2, h3, h4⟩ := HS0.out; exact ⟨cell_keep2 (below_drewJ kq) h0, cell_keep2 (below_drewJ kq) h1, cell_keep2 (below_drewJ kq) h2, cell_keep2 (below_drewJ kq) h3, cell_keep2 (below_drewJ kq) h4⟩) | exact (by obtain ⟨h0, h1, h2, h3, h4⟩ := HS0.out; exact ⟨(far4 hgN).trans (cell_keep2 (below_drewJ kq) h0), (far4 hgM).trans (cell_keep2 (below_drewJ kq) h1), (far4 hgM).trans (cell_keep2 (below_drewJ kq) h2), (far4 hgM).trans (cell_keep2 (below_drewJ kq) h3), (far4 hgM).trans (cell_keep2 (below_drewJ kq) h4)⟩)) (first | (go_at_call 22; refine (HO.out _ ((Below.refl _ _).drew)).mono ?_; rintro e wq ⟨v', rfl, hjq, kq⟩; obtain ⟨k2, s2, A4, n2, c4, B2, m2, f2, rfl⟩ := jin_form hjq; obtain ⟨hqr, hq0, hq1, hq2, hq3, fq0, fq1, fq2, fq3⟩ := store_facts (below_drewJ kq) HG0.out HCU.out))
          have HJQ : Hid (JIn wq (fun k => w.heap.size + 2 ≤ k ∧ k ≠ g) t (.agg #[.int .i64 k2, .string s2, .slice A4 n2 c4, .slice B2 m2 f2])) := Lib.hid (jin_more hjq (fun k hk => by
            have hz : (wr.alloc (.cells #[.int .i64 k1, .string s1, .slice A1 n1 c1, .slice B1 m1 f1] 26)).drew.heap.size = wr.heap.size + 1 := World.size_alloc ..
            rw [hz] at hk
            have := HLT.out.2.2
            exact ⟨by omega, by omega⟩))
          have hbq := below_drewJ kq
          have hbr := HBI.out.trans (hbq.mono HBI.out.size)
          have HC7 : Hid (CS w #[.int .i64 k, .string (txt s), .slice A2 kn c2, .slice (some ⟨g, 0, none⟩) ln c3] (set4J wq g (i * 4) (.int .i64 k2) (.string s2) (.slice A4 n2 c4) (.slice B2 m2 f2))) := Lib.hid ((((((hcs.out.step hbr).far HLT.out.2.1 _ _).far HLT.out.2.1 _ _).far HLT.out.2.1 _ _).far HLT.out.2.1 _ _))
          have HR7 : Hid (RowM (set4J wq g (i * 4) (.int .i64 k2) (.string s2) (.slice A4 n2 c4) (.slice B2 m2 f2)) g (fun k => w.heap.size + 2 ≤ k ∧ k ≠ g) P (i + 1) l) := Lib.hid (RowM.set ((hrm.out (by have := HLT.out.1; omega)).2.2.below hbr) (fun k hk => by
            rcases hk with hk | hk
            · exact hk.2
            · have := HP.out k hk; have := HLT.out.2.1; omega) HTI2.out HJQ.out)
          have HK7 : Hid (RowK (set4J wq g (i * 4) (.int .i64 k2) (.string s2) (.slice A4 n2 c4) (.slice B2 m2 f2)) (w.heap.size + 2) A2 ks) := Lib.hid (RowK.other (hrk.out.below hbr) hqr)
          have HGI := Lib.hid (And.intro HLT.out.2.1 HLT.out.1)
          show Exit.inBlock _ _ _ _ (set4J wq g (i * 4) (.int .i64 k2) (.string s2) (.slice A4 n2 c4) (.slice B2 m2 f2))
          generalize set4J wq g (i * 4) (.int .i64 k2) (.string s2) (.slice A4 n2 c4) (.slice B2 m2 f2) = w9 at *
          clear kq hjq hbq hbr hqr hq0 hq1 hq2 hq3 fq0 fq1 fq2 fq3 HS0 HG0 HCU HO HTI2 HJQ HBI hcs hrk hrm
          go_wp2_with fail
          go_roundw
          case rel => exact ⟨i + 1, by omega, by go_num, HC7, HK7, Lib.hid (fun _ => ⟨(by first | rfl | trivial), HGI.out.1, HR7.out⟩)⟩
          case measure => simp [intOf]; omega
        · have hltz : ¬ (i : Int) < (ln : Int) := by omega
          have HCS := Lib.hid hcs.out
          have HRK := Lib.hid hrk.out
          have HRM := Lib.hid hrm.out
          have hfr0 := HCS.out.rfrozen 0
          have hfr1 := HCS.out.rfrozen 1
          have hfr2 := HCS.out.rfrozen 2
          have hfr3 := HCS.out.rfrozen 3
          obtain ⟨z0, z1, z2, z3⟩ := tok_cells HCS.out.res
          have hieq : i = ln := by omega
          have HIE := Lib.hid hieq
          clear hcs hrk hrm hieq hlt hi
          go_wp2_with fail
          refine ret_cell1 (p := 2) (ty := 26) rfl _ rfl (.agg #[.int .i64 k, .string (txt s), .slice A2 kn c2, .slice A3 ln c3]) (load_jv (T := 26) (set4J_heap (o := 0) HCS.out.res _ _ _ _)) ⟨_, rfl, ?_, ?_⟩
          · obtain rfl : ks.length = kn := HKN.out
            obtain rfl : l.length = ln := HLN.out
            have hoth : ∀ b, b ≠ w.heap.size + 1 → (set4J wr (w.heap.size + 1) 0 (.int .i64 k) (.string (txt s)) (.slice A2 ks.length c2) (.slice A3 l.length c3)).heap[b]? = wr.heap[b]? := fun b hb => set4J_other hb _ _ _ _
            refine JIn.shut (W := set4J wr (w.heap.size + 1) 0 (.int .i64 k) (.string (txt s)) (.slice A2 ks.length c2) (.slice A3 l.length c3)) (fun hp => ?_) (fun hp => ?_)
            · obtain ⟨b, cur, h1, h2, h3, h4⟩ := HRK.out hp
              refine ⟨b, 0, h1, by omega, fun m x hx => ?_⟩
              rw [cell_at ((hoth b (by omega)).trans h3), Nat.zero_add]
              exact h4 m x hx
            · obtain ⟨h1, h2, cur, h3, h4⟩ := HRM.out hp
              refine ⟨g, 0, h1, by omega, lin_of_row l 0 (fun m t ht => ?_)⟩
              obtain ⟨v0, v1, v2, v3, e0, e1, e2, e3, hj⟩ := h4 m t ht
              rw [if_pos (by have := HIE.out; have := (List.getElem?_eq_some_iff.1 ht).1; omega)] at hj
              have hgw := (hoth g (by omega)).trans h3
              refine ⟨v0, v1, v2, v3, ?_, ?_, ?_, ?_, JIn.keep (fun b hb _ => hoth b (by omega)) (fun b hb _ => by omega) _ _ hj⟩
              · rw [cell_at hgw, Nat.zero_add]; exact e0
              · rw [cell_at hgw, Nat.zero_add]; exact e1
              · rw [cell_at hgw, Nat.zero_add]; exact e2
              · rw [cell_at hgw, Nat.zero_add]; exact e3
          · have hN : w.heap.size ≤ w.heap.size + 1 := Nat.le_succ _
            exact (((HCS.out.below.setCell (p := ⟨w.heap.size + 1, 0, none⟩) hN _).setCell (p := ⟨w.heap.size + 1, 1, none⟩) hN _).setCell (p := ⟨w.heap.size + 1, 2, none⟩) hN _).setCell (p := ⟨w.heap.size + 1, 3, none⟩) hN _
theorem copyOf_any : ∀ (n : Nat) (j : J), szJ j ≤ n → n ≤ 1000000 → COk j
  | 0, j, h, _ => by have := szJ_pos j; omega
  | n + 1, j, h, hn => copyOf_step j (by omega) (fun t ht => copyOf_any n t (by omega) (by omega))
end Go.Proofs.YtmkjoonbjmieoaaDoor
