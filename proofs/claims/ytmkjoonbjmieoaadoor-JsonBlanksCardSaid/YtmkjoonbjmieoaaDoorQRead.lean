/-
  json's isMark, take, takeMark, kindOf, of a reader that lies in memory (RSt): what they return, what is left to read; nothing that was there turns but the reader's block. No condition but the reader's.
-/
import Derived.Test.YtmkjoonbjmieoaaDoorQJ
import Derived.Test.YtmkjoonbjmieoaaDoorQRefNext
import Derived.Deep.DeepCutAuto
import Derived.Laws.Rows
namespace Go.Proofs.YtmkjoonbjmieoaaDoor
open Go.RowKit

def tokA (t : Tok) : Value := .agg #[.int .i64 (t.1 : Int), .string (txt t.2.1), .int .i64 (t.2.2.1 : Int), .int .i64 (t.2.2.2 : Int)]
def isMB (m : ByteArray) (t : Tok) : Bool := ((t.1 : Int) == 1) && ((txt t.2.1).toList == m.toList)
set_option maxRecDepth 100000 in
theorem isMark_any (t : Tok) (m : ByteArray) (w : World) : Calls Tryd.prog 27 #[tokA t, .string m] w fun e w' => e = .returned (.bool (isMB m t)) ∧ Below w.heap.size w w' := by
  obtain ⟨q, x, a, b⟩ := t
  unfold isMB tokA
  simp only
  by_cases h : ((q : Int) == 1) = true
  · rw [h, Bool.true_and]
    generalize (txt x) = X at *
    go_enter Tryd.func27, Tryd.ntmps27
    go_wp2
    go_ret
    exact ⟨rfl, alloc_below _ _⟩
  · have h2 : ((q : Int) == 1) = false := by simpa using h
    rw [h2, Bool.false_and]
    generalize (txt x) = X at *
    go_enter Tryd.func27, Tryd.ntmps27
    go_wp2
    go_ret
    exact ⟨rfl, alloc_below _ _⟩
theorem isMB_one (c : UInt8) (m : ByteArray) (hm : m = ⟨#[c]⟩) (t : Tok) (ts : List Tok) : isMB m t = isMk c (t :: ts) := by
  subst hm
  unfold isMB isMk
  rw [txt_list, Lib.toList_data]
  congr 1
  rw [Bool.eq_iff_iff, beq_iff_eq, beq_iff_eq]
  omega
/-- Where the tokens that are left lie. -/
def TAt (W : World) (R : Nat) (A : Option Addr) (ts : List Tok) : Prop :=
  0 < ts.length → ∃ g o, A = some ⟨g, o, none⟩ ∧ g < R ∧ ∀ i t, ts[i]? = some t → W.cell? ⟨g, o + i * 4, none⟩ = some (.int .i64 (t.1 : Int)) ∧ W.cell? ⟨g, o + i * 4 + 1, none⟩ = some (.string (txt t.2.1)) ∧ W.cell? ⟨g, o + i * 4 + 2, none⟩ = some (.int .i64 (t.2.2.1 : Int)) ∧ W.cell? ⟨g, o + i * 4 + 3, none⟩ = some (.int .i64 (t.2.2.2 : Int))
/-- Tokens that are not too many, none of them too long. -/
def TB (ts : List Tok) : Prop := ts.length ≤ 1000000 ∧ ∀ t ∈ ts, t.2.1.length ≤ 4000000
theorem TB.tail {t : Tok} {ts : List Tok} (h : TB (t :: ts)) : TB ts := ⟨by have := h.1; rw [List.length_cons] at this; omega, fun u hu => h.2 u (List.mem_cons_of_mem _ hu)⟩
/-- A reader: the tokens that are left, and whether a key stood twice. -/
def RSt (W : World) (R : Nat) (ts : List Tok) (tw : Bool) : Prop :=
  ∃ A c, W.heap[R]? = some (.cells #[.slice A ts.length c, .bool tw] 46 (0, 0)) ∧ ts.length ≤ c ∧ c ≤ maxLen ∧ TAt W R A ts ∧ TB ts
/-- Nothing that was there has turned but blocks of a kind. -/
structure Fr (X : Nat → Prop) (w w' : World) : Prop where
  os : w'.os = w.os
  tape : w'.tape = w.tape
  output : w'.output = w.output
  size : w.heap.size ≤ w'.heap.size
  block : ∀ k, k < w.heap.size → ¬ X k → w'.heap[k]? = w.heap[k]?
theorem Fr.refl (X : Nat → Prop) (w : World) : Fr X w w := ⟨rfl, rfl, rfl, Nat.le_refl _, fun _ _ _ => rfl⟩
theorem Fr.trans {X : Nat → Prop} {a b c : World} (h : Fr X a b) (k : Fr X b c) : Fr X a c :=
  ⟨k.os.trans h.os, k.tape.trans h.tape, k.output.trans h.output, Nat.le_trans h.size k.size, fun i hi hx => (k.block i (Nat.lt_of_lt_of_le hi h.size) hx).trans (h.block i hi hx)⟩
theorem Fr.mono {X Y : Nat → Prop} {a b : World} (h : Fr X a b) (hxy : ∀ k, k < a.heap.size → X k → Y k) : Fr Y a b :=
  ⟨h.os, h.tape, h.output, h.size, fun k hk hy => h.block k hk (fun hx => hy (hxy k hk hx))⟩
theorem Fr.of_below {X : Nat → Prop} {a b : World} (h : Below a.heap.size a b) : Fr X a b := ⟨h.os, h.tape, h.output, h.size, fun k hk _ => h.block k hk⟩
theorem Fr.to_below {X : Nat → Prop} {B : Nat} {a b : World} (h : Fr X a b) (hB : B ≤ a.heap.size) (hx : ∀ k, X k → B ≤ k) : Below B a b :=
  ⟨h.os, h.tape, h.output, h.size, fun k hk => h.block k (by omega) (fun hh => by have := hx k hh; omega)⟩
theorem Fr.setCell {X : Nat → Prop} {a b : World} (h : Fr X a b) {R i : Nat} (hR : X R ∨ a.heap.size ≤ R) (v : Value) : Fr X a (b.setCell ⟨R, i, none⟩ v) := by
  have hs : (b.setCell ⟨R, i, none⟩ v).heap.size = b.heap.size := World.size_setCell ..
  refine ⟨h.os, h.tape, h.output, by rw [hs]; exact h.size, fun k hk hx => ?_⟩
  have hne : R ≠ k := by
    rintro rfl
    rcases hR with hR | hR
    · exact hx hR
    · omega
  rw [heap_setCell_other b ⟨R, i, none⟩ k v (Ne.symm hne)]
  exact h.block k hk hx
theorem Fr.alloc {X : Nat → Prop} {a b : World} (h : Fr X a b) (o : Obj) : Fr X a (b.alloc o) :=
  h.trans (Fr.of_below (alloc_below b o))
theorem TAt.keep {W W' : World} {R : Nat} {A : Option Addr} {ts : List Tok} (h : TAt W R A ts) (hs : ∀ k, k < R → k < W.heap.size → W'.heap[k]? = W.heap[k]?) : TAt W' R A ts := by
  intro hp
  obtain ⟨g, o, hA, hg, hc⟩ := h hp
  refine ⟨g, o, hA, hg, fun i t ht => ?_⟩
  obtain ⟨h0, h1, h2, h3⟩ := hc i t ht
  exact ⟨cell_blk (hs g hg) h0, cell_blk (hs g hg) h1, cell_blk (hs g hg) h2, cell_blk (hs g hg) h3⟩
theorem RSt.lt {W : World} {R : Nat} {ts : List Tok} {tw : Bool} (h : RSt W R ts tw) : R < W.heap.size := by
  obtain ⟨A, c, hR, _⟩ := h
  exact (Array.getElem?_eq_some_iff.1 hR).1
theorem RSt.keep {W W' : World} {R : Nat} {ts : List Tok} {tw : Bool} (h : RSt W R ts tw) (hs : ∀ k, k ≤ R → W'.heap[k]? = W.heap[k]?) : RSt W' R ts tw := by
  obtain ⟨A, c, hR, h1, h2, h3, h4⟩ := h
  exact ⟨A, c, (hs R (Nat.le_refl _)).trans hR, h1, h2, h3.keep (fun k hk _ => hs k (Nat.le_of_lt hk)), h4⟩
theorem RSt.tb {W : World} {R : Nat} {ts : List Tok} {tw : Bool} (h : RSt W R ts tw) : TB ts := by
  obtain ⟨_, _, _, _, _, _, h4⟩ := h
  exact h4
theorem RSt.below {W W' : World} {R : Nat} {ts : List Tok} {tw : Bool} (h : RSt W R ts tw) (hb : Below W.heap.size W W') : RSt W' R ts tw :=
  h.keep (fun k hk => hb.block k (by have := h.lt; omega))
/-- One token taken: where the rest lies. -/
theorem TAt.tail {W : World} {R : Nat} {A : Option Addr} {t : Tok} {ts : List Tok} (h : TAt W R A (t :: ts)) (c : Nat) (hc : (t :: ts).length ≤ c) : TAt W R (if c = 1 then A else A.map (·.add (1 * 4))) ts := by
  intro hp
  obtain ⟨g, o, rfl, hg, hcell⟩ := h (by simp)
  rw [List.length_cons] at hc
  rw [if_neg (by omega)]
  refine ⟨g, o + 4, by simp [Addr.add], hg, fun i t' ht => ?_⟩
  have := hcell (i + 1) t' (by simpa using ht)
  have e : o + (i + 1) * 4 = o + 4 + i * 4 := by omega
  rw [e] at this
  exact this
theorem load_tok {wq : World} {N : Nat} {a b c d : Value} {T : TypeId} (hg : wq.heap[N]? = some (.cells #[a, b, c, d] T (0, 0))) : (loadVar 61 ⟨N, 0, none⟩).run Tryd.prog wq = .ok (.agg #[a, b, c, d]) wq :=
  run_loadVar_row (P := Tryd.prog) wq N T 61 #[a, b, c, d] (0, 0) _ hg Tryd.underlying61 rfl (by kernel_rfl)
theorem load_jv {wq : World} {N : Nat} {a b c d : Value} {T : TypeId} (hg : wq.heap[N]? = some (.cells #[a, b, c, d] T (0, 0))) : (loadVar 26 ⟨N, 0, none⟩).run Tryd.prog wq = .ok (.agg #[a, b, c, d]) wq :=
  run_loadVar_row (P := Tryd.prog) wq N T 26 #[a, b, c, d] (0, 0) _ hg Tryd.underlying26 rfl (by kernel_rfl)
theorem ret_cell1 {fn : Func} {p : Tmp} {ty : TypeId} (hr : fn.results = #[.cell p ty]) {N : Nat} {wq : World} {Q : Ending → World → Prop} (tmps : Array Value) (hp : tmps.getD p undef = .pointer (some ⟨N, 0, none⟩)) (v : Value)
    (hl : (loadVar ty ⟨N, 0, none⟩).run Tryd.prog wq = .ok v wq) (hq : Q (.returned v) wq) : bodyPost Tryd.prog fn Q Exit.ret ⟨tmps, []⟩ wq := by
  refine bodyPost_ret (v := v) ?_ rfl hq
  rw [results_cell_one hr, hp]
  simp [asAddr, Result.andThen, hl]
theorem ret_cell2 {fn : Func} {p u : Tmp} {ty : TypeId} (hr : fn.results = #[.cell p ty, .tmp u]) {N : Nat} {wq : World} {Q : Ending → World → Prop} (tmps : Array Value) (hp : tmps.getD p undef = .pointer (some ⟨N, 0, none⟩)) (v : Value)
    (hl : (loadVar ty ⟨N, 0, none⟩).run Tryd.prog wq = .ok v wq) (hq : Q (.returned (.tuple #[v, tmps.getD u undef])) wq) : bodyPost Tryd.prog fn Q Exit.ret ⟨tmps, []⟩ wq := by
  refine bodyPost_ret (v := .tuple #[v, tmps.getD u undef]) ?_ rfl hq
  rw [results_cell_tmp hr, hp]
  simp [asAddr, Result.andThen, hl]
theorem heap_alloc_old {w : World} {k : Nat} {o x : Obj} (h : w.heap[k]? = some x) : (w.alloc o).heap[k]? = some x := heap_keep (alloc_below w o) h
theorem two_allocs (w : World) (a b : Array Value) (S T : TypeId) : ((w.alloc (.cells a S)).alloc (.cells b T)).heap[w.heap.size]? = some (.cells a S (0, 0)) := heap_alloc_old (alloc_top w a S)
/-- A reader that has taken a token. -/
theorem RSt.take {w : World} {R c : Nat} {A A' : Option Addr} {t : Tok} {ts : List Tok} {tw : Bool} (hR : w.heap[R]? = some (.cells #[.slice A (t :: ts).length c, .bool tw] 46 (0, 0))) (hc1 : (t :: ts).length ≤ c) (hc2 : c ≤ maxLen) (hT : TAt w R A' ts) (hB : TB ts) (o1 o2 : Obj) :
    RSt (((w.setCell ⟨R, 0, none⟩ (.slice A' ts.length (c - 1))).alloc o1).alloc o2) R ts tw ∧ Fr (· = R) w (((w.setCell ⟨R, 0, none⟩ (.slice A' ts.length (c - 1))).alloc o1).alloc o2) := by
  have hlt := (Array.getElem?_eq_some_iff.1 hR).1
  have hF : Fr (· = R) w (((w.setCell ⟨R, 0, none⟩ (.slice A' ts.length (c - 1))).alloc o1).alloc o2) := (((Fr.refl (fun x => x = R) w).setCell (.inl rfl) _).alloc o1).alloc o2
  rw [List.length_cons] at hc1
  refine ⟨⟨A', c - 1, ?_, by omega, by omega, hT.keep (fun k hk hk2 => hF.block k hk2 (by show ¬ k = R; omega)), hB⟩, hF⟩
  exact heap_alloc_old (heap_alloc_old (heap_setCell_same w R 0 _ _ _ hR))
set_option maxRecDepth 100000 in
set_option maxHeartbeats 1000000 in
theorem take_some (R : Nat) (t : Tok) (ts : List Tok) (tw : Bool) (w : World) (h : RSt w R (t :: ts) tw) : Calls Tryd.prog 28 #[.pointer (some ⟨R, 0, none⟩)] w fun e w' => e = .returned (tokA t) ∧ RSt w' R ts tw ∧ Fr (· = R) w w' := by
  have hlt := h.lt
  obtain ⟨A, c, hR, hc1, hc2, hT, hB⟩ := h
  have HT2 := Lib.hid (hT.tail c hc1)
  obtain ⟨g, o, rfl, hg, hcell⟩ := hT (by simp)
  obtain ⟨a0, a1, a2, a3⟩ := hcell 0 t rfl
  simp only [Nat.zero_mul, Nat.add_zero] at a0 a1 a2 a3
  have r0 : w.cell? ⟨R, 0, none⟩ = some (.slice (some ⟨g, o, none⟩) (t :: ts).length c) := by rw [cell_at hR]; rfl
  have f0 : w.frozen? ⟨R, 0, none⟩ = false := by unfold World.frozen?; simp only [hR]; rfl
  obtain ⟨q, x, a, b⟩ := t
  unfold tokA
  simp only at a0 a1 a2 a3 ⊢
  have hl : ((q, x, a, b) :: ts).length = ts.length + 1 := rfl
  rw [hl] at r0 hc1
  have hne : (((ts.length : Nat) : Int) + 1 == 0) = false := by simp only [beq_eq_false_iff_ne, ne_eq]; omega
  have hgs : g < w.heap.size := by omega
  have hgR : g ≠ R := by omega
  have HR := Lib.hid hR
  have HG := Lib.hid hg
  have HI := Lib.hid (fun A' hT o1 o2 => RSt.take (A' := A') hR (by rw [hl]; exact hc1) hc2 hT hB.tail o1 o2)
  have hsz : ∀ v, (w.setCell ⟨R, 0, none⟩ v).heap.size = w.heap.size := fun v => World.size_setCell ..
  clear hR hT hcell hB
  by_cases h1 : c = 1
  · subst h1
    obtain rfl : ts = [] := List.eq_nil_of_length_eq_zero (by omega)
    have HT3 := HT2.out
    rw [if_pos rfl] at HT3
    have HT4 := Lib.hid HT3
    clear HT2 HT3
    go_enter Tryd.func28, Tryd.ntmps28
    go_wp2
    refine ret_cell1 (p := 2) (ty := 61) rfl _ rfl (.agg #[.int .i64 (q : Int), .string (txt x), .int .i64 (a : Int), .int .i64 (b : Int)]) (load_tok (T := 61) ?_) ⟨rfl, ?_⟩
    · rw [← hsz]; exact two_allocs _ _ _ _ _
    · exact HI.out _ HT4.out _ _
  · have HT3 := HT2.out
    rw [if_neg h1] at HT3
    have HT4 : Hid (TAt w R (some ⟨g, o + 4, none⟩) ts) := Lib.hid HT3
    clear HT2 HT3
    go_enter Tryd.func28, Tryd.ntmps28
    go_wp2
    refine ret_cell1 (p := 2) (ty := 61) rfl _ rfl (.agg #[.int .i64 (q : Int), .string (txt x), .int .i64 (a : Int), .int .i64 (b : Int)]) (load_tok (T := 61) ?_) ⟨rfl, ?_⟩
    · rw [← hsz]; exact two_allocs _ _ _ _ _
    · exact HI.out _ HT4.out _ _
def zeroT : Tok := (0, [], 0, 0)
set_option maxRecDepth 100000 in
set_option maxHeartbeats 1000000 in
theorem take_none (R : Nat) (tw : Bool) (w : World) (h : RSt w R [] tw) : Calls Tryd.prog 28 #[.pointer (some ⟨R, 0, none⟩)] w fun e w' => e = .returned (tokA zeroT) ∧ Below w.heap.size w w' := by
  have hlt := h.lt
  obtain ⟨A, c, hR, _, _, _⟩ := h
  have r0 : w.cell? ⟨R, 0, none⟩ = some (.slice A 0 c) := by rw [cell_at hR]; rfl
  clear hR
  go_enter Tryd.func28, Tryd.ntmps28
  go_wp2
  refine ret_cell1 (p := 2) (ty := 61) rfl _ rfl (.agg #[.int .i64 0, .string ⟨#[]⟩, .int .i64 0, .int .i64 0]) (load_tok (T := 61) ?_) ⟨rfl, ?_⟩
  · exact alloc_top _ _ _
  · exact alloc_below _ _
set_option maxRecDepth 100000 in
set_option maxHeartbeats 1000000 in
/-- The mark taken, where it stands. -/
theorem takeMark_yes (R : Nat) (c : UInt8) (m : ByteArray) (hm : m = ⟨#[c]⟩) (ts : List Tok) (tw : Bool) (hk : isMk c ts = true) (w : World) (h : RSt w R ts tw) : Calls Tryd.prog 65 #[.pointer (some ⟨R, 0, none⟩), .string m] w fun e w' => e = .returned (.bool true) ∧ RSt w' R ts.tail tw ∧ Fr (· = R) w w' := by
  cases ts with
  | nil => cases hk
  | cons t ts =>
    have hlt := h.lt
    have HTK := Lib.hid (fun w h => take_some R t ts tw w h)
    have HH := Lib.hid h
    obtain ⟨A, cap, hR, hc1, hc2, hT, _⟩ := h
    obtain ⟨g, o, rfl, hg, hcell⟩ := hT (by simp)
    obtain ⟨a0, a1, a2, a3⟩ := hcell 0 t rfl
    simp only [Nat.zero_mul, Nat.add_zero] at a0 a1 a2 a3
    have r0 : w.cell? ⟨R, 0, none⟩ = some (.slice (some ⟨g, o, none⟩) (t :: ts).length cap) := by rw [cell_at hR]; rfl
    have HM := Lib.hid (fun w => isMark_any t m w)
    rw [isMB_one c m hm t ts, hk] at HM
    unfold tokA at HM
    have hl : (t :: ts).length = ts.length + 1 := rfl
    rw [hl] at r0
    have hne : (((ts.length : Nat) : Int) + 1 == 0) = false := by simp only [beq_eq_false_iff_ne, ne_eq]; omega
    have hgs : g < w.heap.size := by omega
    clear hR hT hcell hc1 hk hm
    go_enter Tryd.func65, Tryd.ntmps65
    go_wp2_with fail
    refine (HM.out _).mono ?_
    rintro e w1 ⟨rfl, hb⟩
    have HB1 := Lib.hid hb
    have HH1 := Lib.hid (HH.out.below hb)
    clear hb
    go_wp2_with fail
    refine (HTK.out _ HH1.out).mono ?_
    rintro e w2 ⟨rfl, hr, hf⟩
    have HR2 := Lib.hid hr
    have HF2 := Lib.hid ((Fr.of_below HB1.out).trans hf)
    clear hr hf
    go_wp2_with fail
    go_ret
    exact ⟨rfl, HR2.out, HF2.out⟩
set_option maxRecDepth 100000 in
set_option maxHeartbeats 1000000 in
/-- No mark taken, where it does not stand. -/
theorem takeMark_no (R : Nat) (c : UInt8) (m : ByteArray) (hm : m = ⟨#[c]⟩) (ts : List Tok) (tw : Bool) (hk : isMk c ts = false) (w : World) (h : RSt w R ts tw) : Calls Tryd.prog 65 #[.pointer (some ⟨R, 0, none⟩), .string m] w fun e w' => e = .returned (.bool false) ∧ Below w.heap.size w w' := by
  cases ts with
  | nil =>
    have hlt := h.lt
    obtain ⟨A, c, hR, _, _, _⟩ := h
    have r0 : w.cell? ⟨R, 0, none⟩ = some (.slice A 0 c) := by rw [cell_at hR]; rfl
    clear hR hm
    go_enter Tryd.func65, Tryd.ntmps65
    go_wp2_with fail
    go_ret
    exact ⟨rfl, Below.refl _ _⟩
  | cons t ts =>
    have hlt := h.lt
    obtain ⟨A, cap, hR, hc1, hc2, hT, _⟩ := h
    obtain ⟨g, o, rfl, hg, hcell⟩ := hT (by simp)
    obtain ⟨a0, a1, a2, a3⟩ := hcell 0 t rfl
    simp only [Nat.zero_mul, Nat.add_zero] at a0 a1 a2 a3
    have r0 : w.cell? ⟨R, 0, none⟩ = some (.slice (some ⟨g, o, none⟩) (t :: ts).length cap) := by rw [cell_at hR]; rfl
    have HM := Lib.hid (fun w => isMark_any t m w)
    rw [isMB_one c m hm t ts, hk] at HM
    unfold tokA at HM
    have hl : (t :: ts).length = ts.length + 1 := rfl
    rw [hl] at r0
    have hne : (((ts.length : Nat) : Int) + 1 == 0) = false := by simp only [beq_eq_false_iff_ne, ne_eq]; omega
    have hgs : g < w.heap.size := by omega
    clear hR hT hcell hc1 hk hm
    go_enter Tryd.func65, Tryd.ntmps65
    go_wp2_with fail
    refine (HM.out _).mono ?_
    rintro e w1 ⟨rfl, hb⟩
    have HB1 := Lib.hid hb
    clear hb
    go_wp2_with fail
    go_ret
    exact ⟨rfl, HB1.out⟩
theorem kindOf_any (x : List UInt8) (w : World) : Calls Tryd.prog 29 #[.string (txt x)] w fun e w' => e = .returned (.int .i64 (wordKind x)) ∧ w = w' := by
  have hl := txt_list x
  generalize txt x = X at *
  unfold wordKind
  by_cases h1 : x = [102, 97, 108, 115, 101]
  · have e1 : (X.toList == [102, 97, 108, 115, 101]) = true := by rw [hl, h1]; rfl
    rw [if_pos h1]
    clear h1 hl
    go_enter Tryd.func29, Tryd.ntmps29
    go_wp2_with fail
    go_ret
    exact ⟨rfl, rfl⟩
  · have e1 : (X.toList == [102, 97, 108, 115, 101]) = false := by rw [hl]; simpa using h1
    rw [if_neg h1]
    by_cases h2 : x = [116, 114, 117, 101]
    · have e2 : (X.toList == [116, 114, 117, 101]) = true := by rw [hl, h2]; rfl
      rw [if_pos h2]
      clear h1 h2 hl
      go_enter Tryd.func29, Tryd.ntmps29
      go_wp2_with fail
      go_ret
      exact ⟨rfl, rfl⟩
    · have e2 : (X.toList == [116, 114, 117, 101]) = false := by rw [hl]; simpa using h2
      rw [if_neg h2]
      clear h1 h2 hl
      go_enter Tryd.func29, Tryd.ntmps29
      go_wp2_with fail
      go_ret
      exact ⟨rfl, rfl⟩
end Go.Proofs.YtmkjoonbjmieoaaDoor
