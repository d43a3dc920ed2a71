/-
  json's entry, given what reads a value: a key and its item; nothing that was there turns but the reader and the object. Condition: what reads a value does as it should, at as many tokens.
-/
import Derived.Test.YtmkjoonbjmieoaaDoorQItems2
import Derived.Deep.RegionLaw
import Derived.StillTailTactics
import Derived.Deep.QuietTactic
import Derived.BigQuiet
namespace Go.Proofs.YtmkjoonbjmieoaaDoor
open Go.RowKit

/-- What reading a value hands back. -/
def VEnd (R : Nat) (w : World) (res : Option (J × List Tok × Bool)) (e : Ending) (w' : World) : Prop :=
  match res with
  | none => ∃ k s A n c B m d, e = .returned (.tuple #[.agg #[.int .i64 k, .string s, .slice A n c, .slice B m d], .bool false]) ∧ Fr (· = R) w w'
  | some (j, ts', tw') => ∃ v, e = .returned (.tuple #[v, .bool true]) ∧ JIn w' (fun k => w.heap.size ≤ k) j v ∧ RSt w' R ts' tw' ∧ Fr (· = R) w w'
def VOK (F : Nat) : Prop := ∀ f, f < F → ∀ (R : Nat) (ts : List Tok) (tw : Bool) (w : World), 2 * ts.length < f → RSt w R ts tw → Calls Tryd.prog 15 #[.pointer (some ⟨R, 0, none⟩)] w (VEnd R w (pv f ts tw))
theorem step_append_own2 {P : Program} {ops : Array Oper} {o : Oper} {a : Act} {w : World} {K : Act → World → Prop} {Q : Exit → Act → World → Prop} {E : Prop}
    (hg : o.guard = none) (s x : Operand) (t : TypeId) (hop : o.op = Op.call { callee := Callee.builtin Builtin.append, args := #[s, x], argTypes := #[t, t] })
    (base : Nat) (e : TypeId) (i : TypeInfo) (z : Value) (size bytes : Nat) (h1 : P.underlying t = some (.slice e)) (h2 : P.info? e = some i) (h3 : i.zero = some z) (h4 : i.size = size) (h5 : i.bytes = bytes) (h6 : z.cells.size = size) (h7 : 0 < size)
    (v : Value) (n : Nat) (xs : List Value) (hs : a.eval s = v) (hown : w.ownsRow base e size v n xs)
    (ad : Addr) (m c : Nat) (news : List Value) (hx : a.eval x = .slice (some ad) m c) (hn : news.length = m * size) (hc : ∀ j u, news[j]? = some u → w.cell? (ad.add j) = some u) (h1c : ∀ u ∈ news, u.oneCell' = true)
    (b1 : n + m ≤ maxLen) (b2 : (n + m) * bytes ≤ 140737488355328) (hbase : base ≤ w.heap.size)
    (hK : ∀ v' w', w'.ownsRow base e size v' (n + m) (xs ++ news) → w.grownBy w' v.ownBlock → (∀ k, v'.ownBlock = some k → v.ownBlock = some k ∨ w.heap.size ≤ k) → K (a.put o.dst v') w') :
    if Region.wanted o (yielded ops a.tmps) = true then Oper.wp P o a w K Q else E := by
  have hw : Region.wanted o (yielded ops a.tmps) = true := by simp [Region.wanted, hg]
  rw [if_pos hw]
  exact wp_append_own2 w s x t hop base e i z size bytes h1 h2 h3 h4 h5 h6 h7 v n xs hs hown ad m c news hx hn hc h1c b1 b2 hbase hK
/-- A result's block of a value, as it is laid, and behind stores. -/
def JZ (W : World) (N : Nat) : Prop := W.heap[N]? = some (.cells #[.int .i64 0, .string ⟨#[]⟩, .slice none 0 0, .slice none 0 0] 26 (0, 0))
theorem jz_cells {W : World} {N : Nat} (h : JZ W N) : W.cell? ⟨N, 0, none⟩ = some (.int .i64 0) ∧ W.cell? ⟨N, 1, none⟩ = some (.string ⟨#[]⟩) ∧ W.cell? ⟨N, 2, none⟩ = some (.slice none 0 0) ∧ W.cell? ⟨N, 3, none⟩ = some (.slice none 0 0) ∧ W.frozen? ⟨N, 0, none⟩ = false ∧ W.frozen? ⟨N, 1, none⟩ = false ∧ W.frozen? ⟨N, 2, none⟩ = false ∧ W.frozen? ⟨N, 3, none⟩ = false ∧ N < W.heap.size := by
  have hlt := (Array.getElem?_eq_some_iff.1 h).1
  unfold JZ at h
  refine ⟨?_, ?_, ?_, ?_, ?_, ?_, ?_, ?_, hlt⟩
  all_goals first | (unfold World.cell?; simp only [h]; rfl) | (unfold World.frozen?; simp only [h]; rfl)
theorem jz_set {W : World} {N i : Nat} {cs : Array Value} (h : W.heap[N]? = some (.cells cs 26 (0, 0))) (v : Value) : (W.setCell ⟨N, i, none⟩ v).heap[N]? = some (.cells (cs.setIfInBounds i v) 26 (0, 0)) :=
  heap_setCell_same W N i cs 26 v h
theorem jz_set4 {W : World} {N : Nat} {x0 x1 x2 x3 : Value} (h : W.heap[N]? = some (.cells #[x0, x1, x2, x3] 26 (0, 0))) (a b c d : Value) : ((((W.setCell ⟨N, 0, none⟩ a).setCell ⟨N, 1, none⟩ b).setCell ⟨N, 2, none⟩ c).setCell ⟨N, 3, none⟩ d).heap[N]? = some (.cells #[a, b, c, d] 26 (0, 0)) :=
  jz_set (jz_set (jz_set (jz_set h a) b) c) d
theorem Fr.set4 {X : Nat → Prop} {a b : World} {N : Nat} (h : Fr X a b) (hN : a.heap.size ≤ N) (v0 v1 v2 v3 : Value) : Fr X a ((((b.setCell ⟨N, 0, none⟩ v0).setCell ⟨N, 1, none⟩ v1).setCell ⟨N, 2, none⟩ v2).setCell ⟨N, 3, none⟩ v3) :=
  (((h.setCell (.inr hN) _).setCell (.inr hN) _).setCell (.inr hN) _).setCell (.inr hN) _
theorem JZ.keep {W W' : World} {N : Nat} (h : JZ W N) (hs : W'.heap[N]? = W.heap[N]?) : JZ W' N := hs.trans h
theorem jz_new (w : World) : JZ (w.alloc (.cells #[.int .i64 0, .string ⟨#[]⟩, .slice none 0 0, .slice none 0 0] 26)) w.heap.size := alloc_top w _ _
theorem ret_no {fn : Func} {N : Nat} {w wq : World} {o : Bool} {M R O Mb : Nat} (hr : fn.results = #[.cell 2 26, .tmp 3]) (tmps : Array Value) (hp : tmps.getD 2 undef = .pointer (some ⟨N, 0, none⟩)) (h3 : tmps.getD 3 undef = .bool false)
    (hg : wq.heap[N]? = some (.cells #[.int .i64 0, .string ⟨#[]⟩, .slice none 0 0, .slice none 0 0] 26 (0, 0))) (hf : Fr (XS o R O Mb w) w wq) (hok : OK1 o O wq) : bodyPost Tryd.prog fn (OneEnd o M R O Mb w none) Exit.ret ⟨tmps, []⟩ wq := by
  refine ret_cell2 hr tmps hp _ (load_jv hg) ?_
  rw [h3]
  exact ⟨_, _, _, _, _, _, _, _, rfl, hf, hok⟩
/-- An object that has got one key more. -/
def KeyDone (N R O Mb : Nat) (w2 wx : World) (ks : List (List UInt8)) (x : List UInt8) (vk : Value) : Prop :=
  ∃ v', wx.heap[O]? = some (.cells #[.pointer (some ⟨R, 0, none⟩), v', .map (some Mb)] 91 (0, 0)) ∧ wx.ownsRow N 9 1 v' (ks ++ [x]).length (kcells (ks ++ [x])) ∧ (∀ k, v'.ownBlock = some k → vk.ownBlock = some k ∨ w2.heap.size ≤ k) ∧
    Fr (fun k => k = O ∨ vk.ownBlock = some k) w2 wx
theorem obj_cells {W : World} {O : Nat} {p v m : Value} {T : TypeId} (h : W.heap[O]? = some (.cells #[p, v, m] T (0, 0))) : W.cell? ⟨O, 0, none⟩ = some p ∧ W.cell? ⟨O, 1, none⟩ = some v ∧ W.cell? ⟨O, 2, none⟩ = some m ∧ W.frozen? ⟨O, 1, none⟩ = false ∧ O < W.heap.size := by
  have hlt := (Array.getElem?_eq_some_iff.1 h).1
  refine ⟨?_, ?_, ?_, ?_, hlt⟩
  all_goals first | (unfold World.cell?; simp only [h]; rfl) | (unfold World.frozen?; simp only [h]; rfl)
theorem key_keep {w w' : World} {O : Nat} {o : Obj} {p v m : Value} {T : TypeId} (h : w.heap[O]? = some (.cells #[p, v, m] T (0, 0))) (hg : (w.alloc o).drew.grownBy w' v.ownBlock) (hn : v.ownBlock ≠ some O) : w'.heap[O]? = some (.cells #[p, v, m] T (0, 0)) := by
  have hlt := (Array.getElem?_eq_some_iff.1 h).1
  have h2 : (w.alloc o).drew.heap[O]? = some (.cells #[p, v, m] T (0, 0)) := heap_alloc_old (w := w) h
  exact (hg.block O (Array.getElem?_eq_some_iff.1 h2).1 (fun e => hn e.symm)).trans h2
theorem owns_keep {w w' : World} {base e size n : Nat} {v : Value} {xs : List Value} (h : w.ownsRow base e size v n xs) (hs : ∀ k, v.ownBlock = some k → w'.heap[k]? = w.heap[k]?) : w'.ownsRow base e size v n xs := by
  refine ⟨h.1, ?_⟩
  rcases h.2 with h0 | ⟨g, cap, cur, h1, h2, h3, h4⟩
  · exact .inl h0
  · exact .inr ⟨g, cap, cur, h1, h2, (hs g (by rw [h1]; rfl)).trans h3, h4⟩
theorem kcells_snoc0 (ks : List (List UInt8)) (x : List UInt8) : kcells (ks ++ [x]) = kcells ks ++ [.string (txt x)] := by unfold kcells; simp
theorem key_done {N R O Mb : Nat} {w2 w' : World} {ks : List (List UInt8)} {x : List UInt8} {v2 v' : Value} {o : Obj}
    (hO : w2.heap[O]? = some (.cells #[.pointer (some ⟨R, 0, none⟩), v2, .map (some Mb)] 91 (0, 0))) (hO' : w'.heap[O]? = some (.cells #[.pointer (some ⟨R, 0, none⟩), v2, .map (some Mb)] 91 (0, 0)))
    (hown : w'.ownsRow N 9 1 v' (ks.length + 1) (kcells ks ++ [.string (txt x)])) (hg : (w2.alloc o).drew.grownBy w' v2.ownBlock) (hne : ∀ k, v'.ownBlock = some k → v2.ownBlock = some k ∨ (w2.alloc o).drew.heap.size ≤ k) (hm : v2.ownBlock ≠ some O) :
    KeyDone N R O Mb w2 (w'.setCell ⟨O, 1, none⟩ v') ks x v2 := by
  have hlt := (Array.getElem?_eq_some_iff.1 hO).1
  have hsz : (w2.alloc o).drew.heap.size = w2.heap.size + 1 := World.size_alloc ..
  have hOn : ∀ k, v'.ownBlock = some k → k ≠ O := fun k hk e => by
    subst e
    rcases hne k hk with h | h
    · exact hm h
    · omega
  refine ⟨v', heap_setCell_same w' O 1 _ _ v' hO', ?_, fun k hk => ?_, ?_⟩
  · rw [kcells_snoc0, show (ks ++ [x]).length = ks.length + 1 by simp]
    exact owns_keep hown (fun k hk => heap_setCell_other w' ⟨O, 1, none⟩ k v' (hOn k hk))
  · rcases hne k hk with h | h
    · exact .inl h
    · exact .inr (by omega)
  · have h1 : Fr (fun k => k = O ∨ v2.ownBlock = some k) w2 w' := by
      refine ⟨hg.os, hg.tape, hg.output, by have := hg.size; omega, fun k hk hx => ?_⟩
      rw [hg.block k (by omega) (fun e => hx (.inr e.symm))]
      exact (alloc_below w2 o).block k hk
    exact h1.setCell (.inl (.inl rfl)) _
theorem kcells_snoc (ks : List (List UInt8)) (x : List UInt8) : kcells (ks ++ [x]) = kcells ks ++ [.string (txt x)] := by unfold kcells; simp
theorem sinfo : (Tryd.prog.info? 9).map (fun i => (i.zero, i.size, i.bytes)) = some (some (.string ⟨#[]⟩), 1, 16) := by kernel_rfl
theorem ok1_keep {N R O Mb : Nat} {w wf : World} {ts : List Tok} {tw : Bool} {ks : List (List UInt8)} (h : St true N R O Mb w ts tw ks) (hf : Fr (fun k => k = R) w wf) : OK1 true O wf :=
  OK1.of_heap (fun _ => h.2.1 rfl) (fun _ => hf.block O (XS.lt h (.inr ⟨rfl, .inl rfl⟩)) (by obtain ⟨v, _, _, _, n1, _, _, _, _, n6⟩ := h.2.1 rfl; show ¬ O = R; omega))
set_option maxRecDepth 100000 in
set_option maxHeartbeats 1000000 in
theorem entry_any (N R O Mb : Nat) (F : Nat) (HV : VOK F) (f : Nat) (hf : f < F) (ts : List Tok) (tw : Bool) (ks : List (List UInt8)) (w : World) (hb : 2 * ts.length < f) (h : St true N R O Mb w ts tw ks) :
    Calls Tryd.prog 50 #[.pointer (some ⟨O, 0, none⟩)] w (OneEnd true N R O Mb w (po f true ks ts tw)) := by
  obtain ⟨i0, hi, hz0, hz1, hz2⟩ := info_parts sinfo
  have HS := Lib.hid h
  obtain ⟨vk, hO, hown, hM, n1, n2, n3, n4, n5, n6⟩ := h.2.1 rfl
  have o0 : w.cell? ⟨O, 0, none⟩ = some (.pointer (some ⟨R, 0, none⟩)) := by rw [cell_at hO]; rfl
  have hOl := (Array.getElem?_eq_some_iff.1 hO).1
  cases ts with
  | nil =>
    have HT := Lib.hid (fun w h => take_none R tw w h)
    unfold tokA zeroT at HT
    clear h hO hown hM hi hz0 hz1 hz2
    go_enter Tryd.func50, Tryd.ntmps50
    go_wp2_with fail
    have HRS := Lib.hid (HS.out.1.below (alloc_below w (.cells #[.int .i64 0, .string ⟨#[]⟩, .slice none 0 0, .slice none 0 0] 26)))
    have HA0 := Lib.hid (jz_new w)
    have HB0 := Lib.hid (alloc_below w (.cells #[.int .i64 0, .string ⟨#[]⟩, .slice none 0 0, .slice none 0 0] 26))
    generalize w.alloc (.cells #[.int .i64 0, .string ⟨#[]⟩, .slice none 0 0, .slice none 0 0] 26) = w0 at *
    refine (HT.out _ HRS.out).mono ?_
    rintro e w1 ⟨rfl, hbl⟩
    have HA1 : Hid (JZ w1 w.heap.size) := Lib.hid (heap_keep hbl HA0.out)
    have HB1 := Lib.hid (HB0.out.trans (hbl.mono HB0.out.size))
    obtain ⟨c0, c1, c2, c3, f0, f1, f2, f3, hN⟩ := jz_cells HA1.out
    clear hbl
    have HN : Hid (po f true ks [] tw = none) := Lib.hid rfl
    go_wp2_with fail
    rw [HN.out]
    refine ret_no rfl _ rfl rfl (heap_alloc_old (jz_set4 HA1.out _ _ _ _)) ?_ (ok1_keep HS.out (((Fr.of_below HB1.out).set4 (Nat.le_refl _) _ _ _ _).alloc _))
    exact ((Fr.of_below HB1.out).set4 (Nat.le_refl _) _ _ _ _).alloc _
  | cons t ts =>
    have HT := Lib.hid (fun w h => take_some R t ts tw w h)
    have hpe : po f true ks (t :: ts) tw = if t.1 = 4 ∧ isMk 58 ts = true then (pv f ts.tail (tw || ks.contains t.2.1)).map fun r => (r.1, ks ++ [t.2.1], r.2.1, r.2.2) else none := rfl
    have HPE := Lib.hid hpe
    obtain ⟨q, x, a, b⟩ := t
    unfold tokA at HT
    clear hpe
    by_cases hq : q = 4
    · subst hq
      have hq4 : (((4 : Nat) : Int) != 4) = false := rfl
      by_cases hk : isMk 58 ts = true
      · have HK := Lib.hid (fun w h => takeMark_yes R 58 ⟨#[58]⟩ rfl ts tw hk w h)
        have htl := tail_len ts 58 hk
        obtain ⟨RES, hRES⟩ : ∃ r, r = pv f ts.tail (tw || ks.contains x) := ⟨_, rfl⟩
        have HP : Hid (po f true ks ((4, x, a, b) :: ts) tw = RES.map fun r => (r.1, ks ++ [x], r.2.1, r.2.2)) := Lib.hid (by rw [HPE.out, if_pos ⟨rfl, hk⟩, hRES])
        have HRES := Lib.hid hRES
        rw [List.length_cons] at hb
        have hkl := h.2.2.2
        rw [List.length_cons] at hkl
        have hxl := h.1.tb.2 _ List.mem_cons_self
        simp only at hxl
        clear h hO hown hM hk HPE hRES
        go_enter Tryd.func50, Tryd.ntmps50
        go_wp2_with fail
        have hB0 := alloc_below w (.cells #[.int .i64 0, .string ⟨#[]⟩, .slice none 0 0, .slice none 0 0] 26)
        obtain ⟨hs0, hx0⟩ := HS.out.below hB0
        have HS0 := Lib.hid hs0
        have HX0 := Lib.hid hx0
        have HA0 := Lib.hid (jz_new w)
        have HB0 := Lib.hid hB0
        have HO0 : Hid ((w.alloc (.cells #[.int .i64 0, .string ⟨#[]⟩, .slice none 0 0, .slice none 0 0] 26)).cell? ⟨O, 0, none⟩ = some (.pointer (some ⟨R, 0, none⟩))) := Lib.hid (cell_keep2 hB0 o0)
        have hOl0 : O < (w.alloc (.cells #[.int .i64 0, .string ⟨#[]⟩, .slice none 0 0, .slice none 0 0] 26)).heap.size := by rw [World.size_alloc]; omega
        have hRO : O ≠ R := by omega
        have hRl := HS.out.1.lt
        have hwN : w.heap.size ≠ R := by omega
        clear hs0 hx0 hB0 o0
        generalize w.alloc (.cells #[.int .i64 0, .string ⟨#[]⟩, .slice none 0 0, .slice none 0 0] 26) = w0 at *
        refine (HT.out _ HS0.out.1).mono ?_
        rintro e w1 ⟨rfl, hr, hf1⟩
        obtain ⟨hs1, hx1⟩ := HS0.out.step hr hf1 (by simp)
        have HA1 : Hid (JZ w1 w.heap.size) := Lib.hid (HA0.out.keep (hf1.block _ (jz_cells HA0.out).2.2.2.2.2.2.2.2 hwN))
        have HF1 := Lib.hid ((Fr.of_below (X := (· = R)) HB0.out).trans hf1)
        have HX1 : Hid (∀ k, XS true R O Mb w1 k ↔ XS true R O Mb w k) := Lib.hid (fun k => (hx1 k).trans (HX0.out k))
        have p0 : w1.cell? ⟨O, 0, none⟩ = some (.pointer (some ⟨R, 0, none⟩)) := by rw [cell_block (hf1.block O hOl0 hRO)]; exact HO0.out
        have hOl1 : O < w1.heap.size := Nat.lt_of_lt_of_le hOl0 hf1.size
        obtain ⟨hs1', hx1'⟩ := hs1.below (alloc_below w1 (.cells #[.int .i64 ((4 : Nat) : Int), .string (txt x), .int .i64 (a : Int), .int .i64 (b : Int)] 61))
        have HS1 := Lib.hid hs1'
        have HX1' : Hid (∀ k, XS true R O Mb _ k ↔ XS true R O Mb w k) := Lib.hid (fun k => (hx1' k).trans (HX1.out k))
        have HTK := Lib.hid (alloc_top w1 #[.int .i64 ((4 : Nat) : Int), .string (txt x), .int .i64 (a : Int), .int .i64 (b : Int)] 61)
        have hsz1 : (w1.alloc (.cells #[.int .i64 ((4 : Nat) : Int), .string (txt x), .int .i64 (a : Int), .int .i64 (b : Int)] 61)).heap.size = w1.heap.size + 1 := World.size_alloc ..
        have hw01 := hf1.size
        have hw00 := HB0.out.size
        clear hr hf1 hs1 hx1 hs1' hx1' hOl0 HT HS0 HX0 HO0 HB0 HA0
        go_wp2_with fail
        refine (HK.out _ HS1.out.1).mono ?_
        rintro e w2 ⟨rfl, hr, hf2⟩
        obtain ⟨hs2, hx2⟩ := HS1.out.step hr hf2 (by omega)
        have HS2 := Lib.hid hs2
        have HX2 : Hid (∀ k, XS true R O Mb w2 k ↔ XS true R O Mb w k) := Lib.hid (fun k => (hx2 k).trans (HX1'.out k))
        have HA2 : Hid (JZ w2 w.heap.size) := Lib.hid ((show JZ (w1.alloc _) _ from heap_alloc_old HA1.out).keep (hf2.block _ (by have := (jz_cells HA1.out).2.2.2.2.2.2.2.2; rw [hsz1]; omega) hwN))
        have HF2 := Lib.hid ((HF1.out.alloc (.cells #[.int .i64 ((4 : Nat) : Int), .string (txt x), .int .i64 (a : Int), .int .i64 (b : Int)] 61)).trans hf2)
        have hTK2 : w2.heap[w1.heap.size]? = some (.cells #[.int .i64 ((4 : Nat) : Int), .string (txt x), .int .i64 (a : Int), .int .i64 (b : Int)] 61 (0, 0)) := (hf2.block _ (by rw [hsz1]; omega) (show ¬ w1.heap.size = R by omega)).trans HTK.out
        have t1 : w2.cell? ⟨w1.heap.size, 1, none⟩ = some (.string (txt x)) := by rw [cell_at hTK2]; rfl
        have HTK2 := Lib.hid hTK2
        obtain ⟨v2, hO2, hown2, hM2, _, _, _, m4, m5, _⟩ := hs2.2.1 rfl
        obtain ⟨p0, p1, p2, pf, hOl2⟩ := obj_cells hO2
        have HO2 := Lib.hid hO2
        have HW2 := Lib.hid hown2
        have HM2 := Lib.hid hM2
        have hw12 := hf2.size
        rw [hsz1] at hw12
        clear hr hf2 hs2 hx2 HK HS1 HX1' HTK hTK2 hO2 hown2 hM2
        go_upto_region 4 with fail
        go_cut [] (fun wx => Hid (KeyDone N R O Mb w2 wx ks x v2))
        case first =>
          have hN2 : N ≤ w2.heap.size := by omega
          go_region_law (refine step_append_own2 rfl (.tmp 26) (.tmp 29) 23 rfl N 9 i0 (.string ⟨#[]⟩) 1 16 Tryd.underlying23 hi hz0 hz1 hz2 rfl (by decide) v2 ks.length (kcells ks) rfl (World.ownsRow.alloc (w := w2.drew) HW2.out _) ⟨w2.heap.size, 0, none⟩ 1 1 [.string (txt x)] rfl rfl (new_adds w2.drew _ _) (by simp [Value.oneCell']) (by unfold maxLen; omega) (by omega) (Nat.le_trans hN2 (alloc_below w2 _).size) ?_; intro v' w' hown' hgrow hne; have hO' := key_keep HO2.out hgrow m4; obtain ⟨q0, q1, q2, qf, hOq⟩ := obj_cells hO'; obtain ⟨A', c', rfl⟩ := slice_form hown'; have HOW := Lib.hid hown'; have HGR := Lib.hid hgrow; have HNE := Lib.hid hne; have HOO := Lib.hid hO'; clear hown' hgrow hne hO')
          all_goals go_wp2_with fail
          all_goals go_meet
          all_goals exact Lib.hid (key_done HO2.out HOO.out HOW.out HGR.out HNE.out m4)
        case rest =>
          obtain ⟨v3, hO3, hown3, hne3, hf3⟩ := hcut.out
          obtain ⟨c0, c1, c2, cf, hOl3⟩ := obj_cells hO3
          have HSZ3 := hf3.size
          have hMv : v2.ownBlock ≠ some Mb := m5
          have hMw := HM2.out.lt
          have hvl : ∀ k, v2.ownBlock = some k → k < w.heap.size := fun k hk => XS.lt HS.out ((HX2.out k).1 (.inr ⟨rfl, .inr (.inr ((KB.of HO2.out).2 hk))⟩))
          have HM3 : Hid (KSet wc Mb ks) := Lib.hid (HM2.out.keep (hf3.block Mb hMw (fun h => h.elim (fun e => n3 e.symm) (fun e => hMv e))))
          have hT3 : wc.heap[w1.heap.size]? = some (.cells #[.int .i64 ((4 : Nat) : Int), .string (txt x), .int .i64 (a : Int), .int .i64 (b : Int)] 61 (0, 0)) :=
            (hf3.block _ (by omega) (fun h => h.elim (fun e => by omega) (fun e => by have := hvl _ e; omega))).trans HTK2.out
          have HA3 : Hid (JZ wc w.heap.size) := Lib.hid (HA2.out.keep (hf3.block _ (jz_cells HA2.out).2.2.2.2.2.2.2.2 (fun h => h.elim (fun e => by omega) (fun e => by have := hvl _ e; omega))))
          have tt1 : wc.cell? ⟨w1.heap.size, 1, none⟩ = some (.string (txt x)) := by rw [cell_at hT3]; rfl
          have HME := Lib.hid (fun (w : World) (h : KSet w Mb ks) => meet_any Mb ks x (by unfold maxLen; omega) (by unfold maxLen; omega) w h)
          go_upto_region 5 with fail
          go_still_tail 6, (by kernel_rfl)
          obtain ⟨wd, hwd⟩ : ∃ wd, wd = wc.drew := ⟨_, rfl⟩
          have hhd : ∀ k : Nat, wd.heap[k]? = wc.heap[k]? := fun k => by rw [hwd]; rfl
          have hfd : Fr (fun k => k = O ∨ v2.ownBlock = some k) w2 wd := by rw [hwd]; exact ⟨hf3.os, hf3.tape, hf3.output, hf3.size, hf3.block⟩
          change wpList _ _ _ _ _ wc.drew
          rw [← hwd]
          have HMd := Lib.hid (HM3.out.keep (hhd Mb))
          have hOd := (hhd O).trans hO3
          have hownd := owns_keep (w' := wd) hown3 (fun k _ => hhd k)
          have HAd : Hid (JZ wd w.heap.size) := Lib.hid (HA3.out.keep (hhd _))
          have hv2N : ∀ k, v2.ownBlock = some k → N ≤ k := fun k hk => (World.ownsRow.lt HW2.out k hk).1
          have HRd : Hid (RSt wd R ts.tail tw) := Lib.hid (HS2.out.1.keep (fun k hk => hfd.block k (by have := HS2.out.1.lt; omega) (fun h => h.elim (fun e => by omega) (fun e => by have := hv2N k e; omega))))
          have HFd := Lib.hid hfd
          have HOd := Lib.hid hOd
          have HWd := Lib.hid hownd
          have hwdn := hfd.size
          clear hwd hhd hfd hO3 hown3 c0 c1 c2 cf hT3 tt1 hOd hownd
          go_wp2_with fail
          refine (HME.out _ HMd.out).mono ?_
          rintro e w5 ⟨rfl, hk5, hf5⟩
          have hOd := HOd.out
          have hMl := HMd.out.lt
          have hOld := (Array.getElem?_eq_some_iff.1 hOd).1
          have hO5 := (hf5.block O hOld n3).trans hOd
          obtain ⟨d0, _, _, _, hOl5⟩ := obj_cells hO5
          have HR5 : Hid (RSt w5 R ts.tail tw) := Lib.hid (HRd.out.keep (fun k hk => hf5.block k (by have := HRd.out.lt; omega) (by show ¬ k = Mb; omega)))
          have HK5 := Lib.hid hk5
          have HF5 := Lib.hid hf5
          have HO5 := Lib.hid hO5
          have hw5 := hf5.size
          clear hk5 hf5 hO5 hOd HMd HME
          generalize hcx : ks.contains x = cx at *
          go_upto_if 39 with fail
          go_cut [] (fun wx => Hid (RSt wx R ts.tail (tw || cx)) ∧ Hid (Fr (· = R) w5 wx))
          case first =>
            cases cx with
            | false =>
              go_wp2_with fail
              go_meet
              exact ⟨by rw [Bool.or_false]; exact HR5, Lib.hid (Fr.refl _ _)⟩
            | true =>
              obtain ⟨A5, c5, hR5, e1, e2, e3, e4⟩ := HR5.out
              have r1 : w5.cell? ⟨R, 1, none⟩ = some (.bool tw) := by rw [cell_at hR5]; rfl
              have rf : w5.frozen? ⟨R, 1, none⟩ = false := by unfold World.frozen?; simp only [hR5]; rfl
              have hrl5 := HR5.out.lt
              have HR5c := Lib.hid hR5
              clear hR5
              go_wp2_with fail
              go_meet
              refine ⟨Lib.hid ⟨A5, c5, ?_, e1, e2, e3.keep (fun k hk _ => heap_setCell_other w5 ⟨R, 1, none⟩ k _ (by show k ≠ R; omega)), e4⟩, Lib.hid ((Fr.refl (fun k => k = R) _).setCell (.inl rfl) _)⟩
              rw [Bool.or_true]
              exact heap_setCell_same w5 R 1 _ _ _ HR5c.out
          case rest =>
            obtain ⟨HR6, HF6⟩ := hcut
            have hRN : O ≠ R := by omega
            have d0 : wc.cell? ⟨O, 0, none⟩ = some (.pointer (some ⟨R, 0, none⟩)) := by rw [cell_block (HF6.out.block O hOl5 hRN)]; exact d0
            have HVV := Lib.hid (HV f hf R ts.tail (tw || cx) wc (by omega) HR6.out)
            rw [← HRES.out] at HVV
            have hw6 := HF6.out.size
            have hwl := HS.out.1.lt
            have HA6 : Hid (JZ wc w.heap.size) := Lib.hid ((HAd.out.keep (HF5.out.block _ (by have := (jz_cells HAd.out).2.2.2.2.2.2.2.2; exact this) (show ¬ w.heap.size = Mb by have := XS.lt HS.out (k := Mb) (.inr ⟨rfl, .inr (.inl rfl)⟩); omega))).keep (HF6.out.block _ (by have := (jz_cells HAd.out).2.2.2.2.2.2.2.2; omega) (show ¬ w.heap.size = R by omega)))
            have HF06 : Hid (Fr (XS true R O Mb w) w wc) := Lib.hid (by
              have a1 : Fr (XS true R O Mb w) w w2 := HF2.out.mono (fun k _ hk => .inl hk)
              have a2 := a1.chain HFd.out (fun k _ hk => hk.elim (fun e => .inr ⟨rfl, .inl e⟩) (fun e => (HX2.out k).1 (.inr ⟨rfl, .inr (.inr ((KB.of HO2.out).2 e))⟩)))
              have a3 := a2.chain HF5.out (fun k _ hk => .inr ⟨rfl, .inr (.inl hk)⟩)
              exact a3.chain HF6.out (fun k _ hk => .inl hk))
            have hAl := (jz_cells HA6.out).2.2.2.2.2.2.2.2
            cases RES with
            | none =>
              have HVN : Hid (Calls Tryd.prog 15 #[.pointer (some ⟨R, 0, none⟩)] wc fun e w' => ∃ k s A n c B m d, e = .returned (.tuple #[.agg #[.int .i64 k, .string s, .slice A n c, .slice B m d], .bool false]) ∧ Fr (· = R) wc w') := HVV
              clear HVV
              go_wp2_with fail
              refine HVN.out.mono ?_
              rintro e w7 ⟨ek, es, eA, en, ec, eB, em, ed, rfl, hf7⟩
              have HA7 : Hid (JZ w7 w.heap.size) := Lib.hid (HA6.out.keep (hf7.block _ hAl (show ¬ w.heap.size = R by omega)))
              have HF7 := Lib.hid (HF06.out.chain hf7 (fun k _ hk => .inl hk))
              have HO7 := Lib.hid ((hf7.block O (by omega) hRN).trans ((HF6.out.block O hOl5 hRN).trans HO5.out))
              have HSL := Lib.hid (slice_form HWd.out)
              obtain ⟨g0, g1, g2, g3, l0, l1, l2, l3, hN⟩ := jz_cells HA7.out
              clear hf7
              go_wp2_with fail
              rw [HP.out]
              refine ret_cell2 rfl _ rfl _ (load_jv (jz_set4 HA7.out _ _ _ _)) ⟨_, _, _, _, _, _, _, _, rfl, HF7.out.set4 (Nat.le_refl _) _ _ _ _, fun _ => ?_⟩
              obtain ⟨A, c, rfl⟩ := HSL.out
              have hOw : O ≠ w.heap.size := by omega
              exact ⟨A, _, c, by rw [cell_at (((heap_setCell_other _ ⟨w.heap.size, 3, none⟩ O _ hOw).trans ((heap_setCell_other _ ⟨w.heap.size, 2, none⟩ O _ hOw).trans ((heap_setCell_other _ ⟨w.heap.size, 1, none⟩ O _ hOw).trans (heap_setCell_other _ ⟨w.heap.size, 0, none⟩ O _ hOw)))).trans HO7.out)]; rfl⟩
            | some r =>
              obtain ⟨j, ts', tw'⟩ := r
              have HVS : Hid (Calls Tryd.prog 15 #[.pointer (some ⟨R, 0, none⟩)] wc fun e w' => ∃ v, e = .returned (.tuple #[v, .bool true]) ∧ JIn w' (fun k => wc.heap.size ≤ k) j v ∧ RSt w' R ts' tw' ∧ Fr (· = R) wc w') := HVV
              have hlen := pv_len _ _ _ _ _ _ HRES.out.symm
              clear HVV
              go_wp2_with fail
              refine HVS.out.mono ?_
              rintro e w7 ⟨vj, rfl, hj, hr7, hf7⟩
              obtain ⟨jk, js, jA, jn, jc, jB, jm, jd, rfl⟩ := jv_form hj
              have HA7 : Hid (JZ w7 w.heap.size) := Lib.hid (HA6.out.keep (hf7.block _ hAl (show ¬ w.heap.size = R by omega)))
              have HF7 := Lib.hid (HF06.out.chain hf7 (fun k _ hk => .inl hk))
              have HJ7 := Lib.hid hj
              have HR7 := Lib.hid hr7
              have HF67 := Lib.hid hf7
              have hw7 := hf7.size
              obtain ⟨g0, g1, g2, g3, l0, l1, l2, l3, hN⟩ := jz_cells HA7.out
              clear hf7 hj hr7
              go_wp2_with fail
              rw [HP.out]
              refine ret_cell2 rfl _ rfl _ (load_jv (jz_set4 HA7.out _ _ _ _)) ?_
              have hset : ∀ k : Nat, k ≠ w.heap.size → ((((w7.setCell ⟨w.heap.size, 0, none⟩ (.int .i64 jk)).setCell ⟨w.heap.size, 1, none⟩ (.string js)).setCell ⟨w.heap.size, 2, none⟩ (.slice jA jn jc)).setCell ⟨w.heap.size, 3, none⟩ (.slice jB jm jd)).heap[k]? = w7.heap[k]? := fun k hk => by
                rw [heap_setCell_other _ ⟨w.heap.size, 3, none⟩ k _ hk, heap_setCell_other _ ⟨w.heap.size, 2, none⟩ k _ hk, heap_setCell_other _ ⟨w.heap.size, 1, none⟩ k _ hk, heap_setCell_other _ ⟨w.heap.size, 0, none⟩ k _ hk]
              have hFin := HF7.out.set4 (Nat.le_refl _) (.int .i64 jk) (.string js) (.slice jA jn jc) (.slice jB jm jd)
              generalize ((((w7.setCell ⟨w.heap.size, 0, none⟩ (.int .i64 jk)).setCell ⟨w.heap.size, 1, none⟩ (.string js)).setCell ⟨w.heap.size, 2, none⟩ (.slice jA jn jc)).setCell ⟨w.heap.size, 3, none⟩ (.slice jB jm jd)) = wf at *
              have hMbl := XS.lt HS.out (k := Mb) (.inr ⟨rfl, .inr (.inl rfl)⟩)
              -- what holds of the object's blocks
              have hk57 : ∀ k : Nat, k < w5.heap.size → k ≠ R → k ≠ w.heap.size → wf.heap[k]? = w5.heap[k]? := fun k h1 h2 h3 =>
                (hset k h3).trans ((HF67.out.block k (by omega) h2).trans (HF6.out.block k h1 h2))
              have hOf := (hk57 O hOl5 hRN (by omega)).trans HO5.out
              have h3l : ∀ k, v3.ownBlock = some k → N ≤ k ∧ k < wd.heap.size := fun k hk => World.ownsRow.lt HWd.out k hk
              have h3n : ∀ k, v3.ownBlock = some k → k ≠ Mb ∧ k ≠ O ∧ k ≠ w.heap.size ∧ (k < w.heap.size → v2.ownBlock = some k) := fun k hk => by
                rcases hne3 k hk with h | h
                · have := hvl k h
                  exact ⟨fun e => hMv (by rw [← e]; exact h), fun e => m4 (by rw [← e]; exact h), by omega, fun _ => h⟩
                · exact ⟨by omega, by omega, by omega, fun hlt => by omega⟩
              have hownf : wf.ownsRow N 9 1 v3 (ks ++ [x]).length (kcells (ks ++ [x])) := owns_keep HWd.out (fun k hk => by
                obtain ⟨q1, q2, q3, _⟩ := h3n k hk
                obtain ⟨q4, q5⟩ := h3l k hk
                exact (hk57 k (by omega) (by omega) q3).trans (HF5.out.block k q5 q1))
              have hKf : KSet wf Mb (ks ++ [x]) := HK5.out.keep (hk57 Mb (by have := HK5.out.lt; exact this) (by omega) (by omega))
              have hRf : RSt wf R ts' tw' := HR7.out.keep (fun k hk => hset k (by omega))
              have hXf : ∀ k, XS true R O Mb wf k → k < wd.heap.size ∧ (k < w.heap.size → XS true R O Mb w k) := fun k hx => by
                rcases hx with rfl | ⟨_, rfl | rfl | hx⟩
                · exact ⟨by omega, fun _ => .inl rfl⟩
                · exact ⟨by omega, fun _ => .inr ⟨rfl, .inl rfl⟩⟩
                · exact ⟨by omega, fun _ => .inr ⟨rfl, .inr (.inl rfl)⟩⟩
                · have hk := (KB.of hOf).1 hx
                  exact ⟨(h3l k hk).2, fun hlt => (HX2.out k).1 (.inr ⟨rfl, .inr (.inr ((KB.of HO2.out).2 ((h3n k hk).2.2.2 hlt)))⟩)⟩
              refine ⟨_, rfl, ?_, ⟨hRf, fun _ => ⟨v3, hOf, hownf, hKf, n1, n2, n3, fun e => (h3n O e).2.1 rfl, fun e => (h3n Mb e).1 rfl, n6⟩, fun h => (by cases h), ?_⟩, hFin, fun k hk hx => (hXf k hx).2 hk⟩
              · exact JIn.keep (fun k hk _ => hset k (by omega)) (fun k hk _ => ⟨by omega, fun hx => by have := (hXf k hx).1; omega⟩) _ _ HJ7.out
              · rw [List.length_append]; simp only [List.length_cons, List.length_nil]; omega
      · have hkf : isMk 58 ts = false := by simpa using hk
        have HK := Lib.hid (fun w h => takeMark_no R 58 ⟨#[58]⟩ rfl ts tw hkf w h)
        have HN : Hid (po f true ks ((4, x, a, b) :: ts) tw = none) := Lib.hid (by rw [HPE.out, if_neg (fun hh => hk hh.2)])
        clear h hO hown hM hi hz0 hz1 hz2 hk hkf HPE
        go_enter Tryd.func50, Tryd.ntmps50
        go_wp2_with fail
        have HRS := Lib.hid (HS.out.1.below (alloc_below w (.cells #[.int .i64 0, .string ⟨#[]⟩, .slice none 0 0, .slice none 0 0] 26)))
        have HA0 := Lib.hid (jz_new w)
        have HB0 := Lib.hid (alloc_below w (.cells #[.int .i64 0, .string ⟨#[]⟩, .slice none 0 0, .slice none 0 0] 26))
        have HO0 : Hid ((w.alloc (.cells #[.int .i64 0, .string ⟨#[]⟩, .slice none 0 0, .slice none 0 0] 26)).cell? ⟨O, 0, none⟩ = some (.pointer (some ⟨R, 0, none⟩))) := Lib.hid (cell_keep2 (alloc_below w _) o0)
        have hOl0 : O < (w.alloc (.cells #[.int .i64 0, .string ⟨#[]⟩, .slice none 0 0, .slice none 0 0] 26)).heap.size := by rw [World.size_alloc]; omega
        have hRO : O ≠ R := by omega
        have hRl := HS.out.1.lt
        have hwN : w.heap.size ≠ R := by omega
        generalize hw0 : w.alloc (.cells #[.int .i64 0, .string ⟨#[]⟩, .slice none 0 0, .slice none 0 0] 26) = w0 at *
        refine (HT.out _ HRS.out).mono ?_
        rintro e w1 ⟨rfl, hr, hf1⟩
        have HA1 : Hid (JZ w1 w.heap.size) := Lib.hid (HA0.out.keep (hf1.block _ (by have := (jz_cells HA0.out).2.2.2.2.2.2.2.2; exact this) hwN))
        have HF1 := Lib.hid ((Fr.of_below (X := (· = R)) HB0.out).trans hf1)
        have p0 : w1.cell? ⟨O, 0, none⟩ = some (.pointer (some ⟨R, 0, none⟩)) := by rw [cell_block (hf1.block O hOl0 hRO)]; exact HO0.out
        have hOl1 : O < w1.heap.size := Nat.lt_of_lt_of_le hOl0 hf1.size
        have HR1 := Lib.hid (hr.below (alloc_below w1 (.cells #[.int .i64 ((4 : Nat) : Int), .string (txt x), .int .i64 (a : Int), .int .i64 (b : Int)] 61)))
        clear hr hf1 o0 hOl0
        go_wp2_with fail
        refine (HK.out _ HR1.out).mono ?_
        rintro e w2 ⟨rfl, hbl⟩
        have HA2 : Hid (JZ w2 w.heap.size) := Lib.hid (heap_keep hbl (heap_alloc_old HA1.out))
        have HF2 := Lib.hid ((HF1.out.alloc (.cells #[.int .i64 ((4 : Nat) : Int), .string (txt x), .int .i64 (a : Int), .int .i64 (b : Int)] 61)).trans (Fr.of_below hbl))
        obtain ⟨c0, c1, c2, c3, f0, f1, f2, f3, hN⟩ := jz_cells HA2.out
        clear hbl
        go_wp2_with fail
        rw [HN.out]
        refine ret_no rfl _ rfl rfl (jz_set4 HA2.out _ _ _ _) ?_ (ok1_keep HS.out (HF2.out.set4 (Nat.le_refl _) _ _ _ _))
        exact (HF2.out.mono (fun k _ hk => .inl hk)).set4 (Nat.le_refl _) _ _ _ _
    · have hq4 : ((q : Int) != 4) = true := by simp; omega
      have HN : Hid (po f true ks ((q, x, a, b) :: ts) tw = none) := Lib.hid (by rw [HPE.out, if_neg (fun hh => hq hh.1)])
      clear h hO hown hM hi hz0 hz1 hz2 HPE
      go_enter Tryd.func50, Tryd.ntmps50
      go_wp2_with fail
      have HRS := Lib.hid (HS.out.1.below (alloc_below w (.cells #[.int .i64 0, .string ⟨#[]⟩, .slice none 0 0, .slice none 0 0] 26)))
      have HA0 := Lib.hid (jz_new w)
      have HB0 := Lib.hid (alloc_below w (.cells #[.int .i64 0, .string ⟨#[]⟩, .slice none 0 0, .slice none 0 0] 26))
      have hRl := HS.out.1.lt
      have hwN : w.heap.size ≠ R := by omega
      generalize w.alloc (.cells #[.int .i64 0, .string ⟨#[]⟩, .slice none 0 0, .slice none 0 0] 26) = w0 at *
      refine (HT.out _ HRS.out).mono ?_
      rintro e w1 ⟨rfl, hr, hf1⟩
      have HA1 : Hid (JZ w1 w.heap.size) := Lib.hid (HA0.out.keep (hf1.block _ (by have := (jz_cells HA0.out).2.2.2.2.2.2.2.2; exact this) hwN))
      have HF1 := Lib.hid ((Fr.of_below (X := (· = R)) HB0.out).trans hf1)
      obtain ⟨c0, c1, c2, c3, f0, f1, f2, f3, hN⟩ := jz_cells HA1.out
      clear hr hf1
      go_wp2_with fail
      rw [HN.out]
      refine ret_no rfl _ rfl rfl (heap_alloc_old (jz_set4 HA1.out _ _ _ _)) ?_ (ok1_keep HS.out ((HF1.out.set4 (Nat.le_refl _) _ _ _ _).alloc _))
      exact ((HF1.out.mono (fun k _ hk => .inl hk)).set4 (Nat.le_refl _) _ _ _ _).alloc _
end Go.Proofs.YtmkjoonbjmieoaaDoor
