/-
  json's write, writeItems, Put AT EVERY VALUE that may be, of at most 1000000 (szJ): the value's text (textJ, putJ); what was there stays. Conditions: the value's size; the variables that are read hold what their text lays (Facts).
-/
import Derived.Test.YtmkjoonbjmieoaaDoorQWriter
namespace Go.Proofs.YtmkjoonbjmieoaaDoor
open Go.RowKit

/-- Blocks of a kind stay. -/
structure Kz (Z : Nat → Prop) (w w' : World) : Prop where
  os : w'.os = w.os
  tape : w'.tape = w.tape
  output : w'.output = w.output
  size : w.heap.size ≤ w'.heap.size
  block : ∀ k, Z k → w'.heap[k]? = w.heap[k]?
theorem Kz.refl (Z : Nat → Prop) (w : World) : Kz Z w w := ⟨rfl, rfl, rfl, Nat.le_refl _, fun _ _ => rfl⟩
theorem Kz.trans {Z : Nat → Prop} {a b c : World} (h : Kz Z a b) (k : Kz Z b c) : Kz Z a c :=
  ⟨k.os.trans h.os, k.tape.trans h.tape, k.output.trans h.output, Nat.le_trans h.size k.size, fun i hi => (k.block i hi).trans (h.block i hi)⟩
theorem Kz.less {Z Y : Nat → Prop} {a b : World} (h : Kz Z a b) (hy : ∀ k, Y k → Z k) : Kz Y a b := ⟨h.os, h.tape, h.output, h.size, fun k hk => h.block k (hy k hk)⟩
/-- A builder that holds a text, apart from blocks of a kind. -/
def Sb (Z : Nat → Prop) (b : Nat) (l : List UInt8) (W : World) : Prop := ∃ X, BT X b l W ∧ (∀ k, X k → k < W.heap.size) ∧ ∀ k, Z k → k < W.heap.size ∧ ¬ X k
theorem BX.tight {X : Nat → Prop} {b : Nat} {bs : List Value} {w : World} (h : BX X b bs w) : BX (fun k => X k ∧ k < w.heap.size) b bs w := by
  refine h.imp ?_ ?_
  all_goals
    rintro ⟨h0, v, h1, h2, h3, h4⟩
    refine ⟨⟨h0, heap_lt h1⟩, v, h1, h2, h3, fun g hg => ⟨h4 g hg, ?_⟩⟩
    exact (World.ownsRow.lt h2 g hg).2
theorem Sb.less {Z Y : Nat → Prop} {b : Nat} {l : List UInt8} {W : World} (h : Sb Z b l W) (hy : ∀ k, Y k → Z k) : Sb Y b l W := by
  obtain ⟨X, h1, h2, h3⟩ := h
  exact ⟨X, h1, h2, fun k hk => h3 k (hy k hk)⟩
/-- A block more that is kept: a new one. -/
def Zn (Z : Nat → Prop) (w : World) : Nat → Prop := fun k => Z k ∨ k = w.heap.size
theorem Sb.alloc {Z : Nat → Prop} {b : Nat} {l : List UInt8} {W : World} (h : Sb Z b l W) (o : Obj) : Sb (Zn Z W) b l (W.alloc o) := by
  obtain ⟨X, h1, h2, h3⟩ := h
  have hz : (W.alloc o).heap.size = W.heap.size + 1 := World.size_alloc ..
  refine ⟨X, h1.below (alloc_below W o), fun k hk => by have := h2 k hk; omega, fun k hk => ?_⟩
  rcases hk with hk | rfl
  · have := h3 k hk; exact ⟨by omega, this.2⟩
  · exact ⟨by omega, fun hx => by have := h2 _ hx; omega⟩
theorem Sb.lt {Z : Nat → Prop} {b : Nat} {l : List UInt8} {W : World} (h : Sb Z b l W) {k : Nat} (hk : Z k) : k < W.heap.size := by
  obtain ⟨_, _, _, h3⟩ := h; exact (h3 k hk).1
theorem kz_alloc {Z : Nat → Prop} {b : Nat} {l : List UInt8} {W : World} (h : Sb Z b l W) (o : Obj) : Kz Z W (W.alloc o) :=
  have hb := alloc_below W o
  ⟨hb.os, hb.tape, hb.output, hb.size, fun k hk => hb.block k (h.lt hk)⟩
/-- What a step of the builder's gives. -/
theorem sb_step {Z X : Nat → Prop} {b : Nat} {l : List UInt8} {W W' : World} (_h2 : ∀ k, X k → k < W.heap.size) (h3 : ∀ k, Z k → k < W.heap.size ∧ ¬ X k) (h : BT (XX X W) b l W') (hf : Fr X W W') : Sb Z b l W' ∧ Kz Z W W' := by
  refine ⟨⟨_, BX.tight h, fun k hk => hk.2, fun k hk => ?_⟩, ⟨hf.os, hf.tape, hf.output, hf.size, fun k hk => hf.block k (h3 k hk).1 (h3 k hk).2⟩⟩
  obtain ⟨h4, h5⟩ := h3 k hk
  exact ⟨Nat.lt_of_lt_of_le h4 hf.size, fun hx => hx.1.elim h5 (by omega)⟩
/-- The variables that are read are among what stays. -/
def Zf (Z : Nat → Prop) : Prop := ∀ k, k ≤ 3 → Z k
theorem facts_z {Z : Nat → Prop} {w w' : World} (h : Facts w) (hZ : Zf Z) (hk : Kz Z w w') : Facts w' := by
  have hc : ∀ (k i : Nat), k ≤ 3 → w'.cell? ⟨k, i, none⟩ = w.cell? ⟨k, i, none⟩ := fun k i h3 => cell_block (hk.block k (hZ k h3)) i
  exact ⟨⟨fun c hc' => (hc _ _ (by omega)).trans (h.tabs.1 c hc'), fun i hi => ⟨(hc _ _ (by omega)).trans (h.tabs.2 i hi).1, (hc _ _ (by omega)).trans (h.tabs.2 i hi).2⟩⟩, by obtain ⟨ev, h1, h2⟩ := h.syn; exact ⟨ev, (hc _ _ (by omega)).trans h1, h2⟩⟩
theorem jin_z {Z : Nat → Prop} {w w' : World} {j : J} {v : Value} (h : JIn w Z j v) (hk : Kz Z w w') : JIn w' Z j v := JIn.keep (fun k hz _ => hk.block k hz) (fun _ hP _ => hP) j v h
theorem jin_more {Z Y : Nat → Prop} {w : World} {j : J} {v : Value} (h : JIn w Z j v) (hy : ∀ k, Z k → Y k) : JIn w Y j v := JIn.keep (fun _ _ _ => rfl) (fun k hP _ => hy k hP) j v h
theorem sText (Z : Nat → Prop) (b : Nat) (l x : List UInt8) (w : World) (h : Sb Z b l w) (hn : l.length + x.length ≤ 100000000000) :
    Calls Tryd.prog 31 #[.pointer (some ⟨b, 0, none⟩), .string (txt x)] w fun e w' => e = .returned (.tuple #[.int .i64 (txt x).size, .nilIface]) ∧ Sb Z b (l ++ x) w' ∧ Kz Z w w' := by
  obtain ⟨X, h1, h2, h3⟩ := h
  refine (wText_any X b l x w h1 hn).mono ?_
  rintro e w' ⟨rfl, h4, h5⟩
  exact ⟨rfl, sb_step h2 h3 h4 h5⟩
theorem sByte (Z : Nat → Prop) (b : Nat) (l : List UInt8) (c : UInt8) (x : Int) (hx : x = (c.toNat : Int)) (w : World) (h : Sb Z b l w) (hn : l.length + 1 ≤ 100000000000) :
    Calls Tryd.prog 33 #[.pointer (some ⟨b, 0, none⟩), .int .u8 x] w fun e w' => e = .returned .nilIface ∧ Sb Z b (l ++ [c]) w' ∧ Kz Z w w' := by
  obtain ⟨X, h1, h2, h3⟩ := h
  refine (wByte_any X b l c x hx w h1 hn).mono ?_
  rintro e w' ⟨rfl, h4, h5⟩
  exact ⟨rfl, sb_step h2 h3 h4 h5⟩
theorem sQuoted (Z : Nat → Prop) (b : Nat) (l x : List UInt8) (w : World) (h : Sb Z b l w) (hs : x.length ≤ 1000000) (hv : valid x = true) (hn : l.length + (6 * x.length + 2) ≤ 100000000000) (hF : Facts w) :
    Calls Tryd.prog 32 #[.pointer (some ⟨b, 0, none⟩), .string (txt x)] w fun e w' => e = .returned (.tuple #[]) ∧ Sb Z b (l ++ quoteL x) w' ∧ Kz Z w w' := by
  obtain ⟨X, h1, h2, h3⟩ := h
  refine (wQuoted_any X b l x w h1 hs hv hn hF).mono ?_
  rintro e w' ⟨rfl, h4, h5⟩
  exact ⟨rfl, sb_step h2 h3 h4 h5⟩
/-- The text of an array's, or an object's, items from a place on. -/
def itT (k : Int) (first : Bool) (ks : List (List UInt8)) (l : List J) : List UInt8 := if k = 6 then textK first ks l else textL first l
/-- write's contract at a value. -/
def WOk (j : J) : Prop := ∀ (Z : Nat → Prop) (b : Nat) (acc : List UInt8) (v : Value) (w : World), Sb Z b acc w → JIn w Z j v → Zf Z → Facts w → acc.length + 6 * szJ j ≤ 100000000001 →
  Calls Tryd.prog 16 #[.pointer (some ⟨b, 0, none⟩), v] w fun e w' => e = .returned (.tuple #[]) ∧ Sb Z b (acc ++ textJ j) w' ∧ Kz Z w w'
/-- A round's state of writeItems: the value's block, the text so far. -/
structure WR (Z : Nat → Prop) (b N : Nat) (k : Int) (s : List UInt8) (ka ia : Option Addr) (kn kc ln ic : Nat) (w : World) (acc : List UInt8) (W : World) : Prop where
  st : Sb (fun i => Z i ∨ i = N) b acc W
  kz : Kz Z w W
  cells : W.heap[N]? = some (.cells #[.int .i64 k, .string (txt s), .slice ka kn kc, .slice ia ln ic] 26 (0, 0))
theorem WR.step {Z : Nat → Prop} {b N : Nat} {k : Int} {s : List UInt8} {ka ia : Option Addr} {kn kc ln ic : Nat} {w : World} {acc acc' : List UInt8} {W W' : World} (h : WR Z b N k s ka ia kn kc ln ic w acc W)
    (h1 : Sb (fun i => Z i ∨ i = N) b acc' W') (h2 : Kz (fun i => Z i ∨ i = N) W W') : WR Z b N k s ka ia kn kc ln ic w acc' W' :=
  ⟨h1, h.kz.trans (h2.less (fun _ h => .inl h)), (h2.block N (.inr rfl)).trans h.cells⟩
theorem itT_cons5 {first : Bool} {ks : List (List UInt8)} {j : J} {l : List J} : itT 5 first ks (j :: l) = (if first then [] else [44]) ++ (textJ j ++ itT 5 false ks l) := by
  unfold itT
  simp only [show ¬ ((5 : Int) = 6) by decide, if_false]
  rw [textL, List.append_assoc]
theorem itT_cons6 {first : Bool} {key : List UInt8} {ks : List (List UInt8)} {j : J} {l : List J} : itT 6 first (key :: ks) (j :: l) = (if first then [] else [44]) ++ (quoteL key ++ ([58] ++ (textJ j ++ itT 6 false ks l))) := by
  unfold itT
  rw [if_pos rfl, if_pos rfl, textK]; simp
theorem SJ.z {Z : Nat → Prop} {w w' : World} {l : List J} {A : Option Addr} (h : SJ w Z l A) (hk : Kz Z w w') : SJ w' Z l A := by
  intro hp
  obtain ⟨b, o, h1, h2, h3⟩ := h hp
  exact ⟨b, o, h1, h2, LIn.keep (fun k hz _ => hk.block k hz) (fun _ hP _ => hP) b h2 l o h3⟩
theorem KIn.z {Z : Nat → Prop} {w w' : World} {ks : List (List UInt8)} {A : Option Addr} (h : KIn w Z A ks) (hk : Kz Z w w') : KIn w' Z A ks := h.keep (fun k hz _ => hk.block k hz) (fun _ hP _ => hP)
theorem itT_nil (k : Int) (first : Bool) (ks : List (List UInt8)) : itT k first ks [] = [] := by
  unfold itT
  split
  · rw [textK]
  · rw [textL]
theorem szL_drop : ∀ (l : List J) (i : Nat), szL (l.drop i) ≤ szL l
  | l, 0 => Nat.le_refl _
  | [], i + 1 => Nat.le_refl _
  | j :: l, i + 1 => by rw [List.drop_succ_cons, szL]; have := szL_drop l i; omega
theorem szL_at {l : List J} {i : Nat} (h : i < l.length) : szJ l[i] + szL (l.drop (i + 1)) = szL (l.drop i) := by
  rw [List.drop_eq_getElem_cons h, szL]
theorem szK_at {l : List (List UInt8)} {i : Nat} (h : i < l.length) : 3 + l[i].length + szK (l.drop (i + 1)) = szK (l.drop i) := by
  rw [List.drop_eq_getElem_cons h, szK]
theorem faultL_at : ∀ {l : List J} (i : Nat), faultL l = 0 → (h : i < l.length) → faultJ l[i] = 0
  | j :: l, 0, h, _ => (faultL_cons h).1
  | j :: l, i + 1, h, hi => faultL_at (l := l) i (faultL_cons h).2 (by simpa using hi)
theorem faultK_at : ∀ {met ks : List (List UInt8)} {l : List J} (i : Nat), faultK met ks l = 0 → (h : i < l.length) → (h2 : i < ks.length) → faultJ l[i] = 0 ∧ valid ks[i] = true
  | met, key :: ks, j :: l, 0, h, _, _ => by have := faultK_cons h; exact ⟨this.2.2.1, this.1⟩
  | met, key :: ks, j :: l, i + 1, h, hi, h2 => faultK_at (l := l) i (faultK_cons h).2.2.2 (by simpa using hi) (by simpa using h2)
set_option maxRecDepth 100000 in
set_option maxHeartbeats 4000000 in
theorem items5_any (l : List J) (hsz : szL l ≤ 1000000) (hok : ∀ j ∈ l, WOk j) (Z : Nat → Prop) (b : Nat) (acc : List UInt8) (v : Value) (w : World) (hs : Sb Z b acc w) (hj : JIn w Z (.mk 5 [] [] l) v) (hZ : Zf Z) (hF : Facts w) (hn : acc.length + 6 * szL l ≤ 100000000000) :
    Calls Tryd.prog 34 #[.pointer (some ⟨b, 0, none⟩), v] w fun e w' => e = .returned (.tuple #[]) ∧ Sb Z b (acc ++ itT 5 true [] l) w' ∧ Kz Z w w' := by
  obtain ⟨RES, hRES⟩ : ∃ r, r = acc ++ itT 5 true [] l := ⟨_, rfl⟩
  rw [← hRES]
  obtain ⟨ka, kc, ia, ic, rfl, hk, hl⟩ := hj.open
  have hll := szL_len l
  have HL := Lib.hid hl
  have HF := Lib.hid hF
  have HZ := Lib.hid hZ
  have HOK := Lib.hid hok
  have HSZ := Lib.hid hsz
  have HR : Hid (∃ a, a.length + 6 * szL (l.drop 0) ≤ 100000000000 ∧ RES = a ++ itT 5 (decide (0 = 0)) [] (l.drop 0) ∧ WR Z b w.heap.size 5 [] ka ia 0 kc l.length ic w a (w.alloc (.cells #[.int .i64 5, .string (txt []), .slice ka 0 kc, .slice ia l.length ic] 26))) :=
    Lib.hid ⟨acc, by simpa using hn, hRES, hs.alloc _, kz_alloc hs _, alloc_top w _ _⟩
  have hc := HR.out.choose_spec.2.2.cells
  obtain ⟨x0, x1, x2, x3⟩ := tok_cells hc
  have hz0 : ([] : List (List UInt8)).length = 0 := rfl
  generalize hln : l.length = ln at *
  have HLN := Lib.hid hln
  have hlnb : ln ≤ 1000000 := by omega
  clear hj hk hl hF hZ hok hsz hn hs hRES hc hln hll
  go_enter Tryd.func34, Tryd.ntmps34
  go_wp2_with fail
  go_loopw [4, 5, 9] (fun _ _ vi wr => ∃ i : Nat, i ≤ ln ∧ vi = .int .i64 i ∧ Hid (∃ a, a.length + 6 * szL (l.drop i) ≤ 100000000000 ∧ RES = a ++ itT 5 (decide (i = 0)) [] (l.drop i) ∧ WR Z b w.heap.size 5 [] ka ia 0 kc ln ic w a wr)) (fun _ _ vi _ => ln - (intOf vi).toNat)
  case atStart => exact ⟨0, Nat.zero_le _, rfl, HR⟩
  case round =>
    clear HR x0 x1 x2 x3
    obtain ⟨i, hi, rfl, hst⟩ := hrel
    obtain ⟨a, ha, hre, hwr⟩ := hst.out
    clear hst
    by_cases hlt : i < ln
    · have hltz : (i : Int) < (ln : Int) := by omega
      have hil : i < l.length := by rw [HLN.out]; exact hlt
      obtain ⟨j, hjj⟩ : ∃ j, j = l[i] := ⟨_, rfl⟩
      have hji : l[i]? = some j := by rw [hjj]; exact List.getElem?_eq_getElem hil
      have HJM : Hid (j ∈ l) := Lib.hid (by rw [hjj]; exact List.getElem_mem hil)
      have hza := szL_at hil
      have htl := textJ_len j
      rw [← hjj] at hza
      rw [List.drop_eq_getElem_cons hil, ← hjj, itT_cons5] at hre
      obtain ⟨ib, io, rfl, hZb, hrow⟩ := (HL.out.z hwr.kz) (by omega)
      obtain ⟨v0, v1, v2, v3, d0, d1, d2, d3, hj⟩ := hrow.at hji
      obtain ⟨k1, s1, A1, n1, c1, B1, m1, e1, rfl, rfl, rfl, rfl⟩ := jin_shape hj
      have HS0 := Lib.hid (hwr.st.alloc (.cells #[.int .i64 k1, .string s1, .slice A1 n1 c1, .slice B1 m1 e1] 26))
      have HK0 : Hid (Kz (Zn (fun i => Z i ∨ i = w.heap.size) wr) (wr.alloc (.cells #[.int .i64 k1, .string s1, .slice A1 n1 c1, .slice B1 m1 e1] 26)) (wr.alloc (.cells #[.int .i64 k1, .string s1, .slice A1 n1 c1, .slice B1 m1 e1] 26))) := Lib.hid (Kz.refl _ _)
      have HKA := Lib.hid (kz_alloc hwr.st (.cells #[.int .i64 k1, .string s1, .slice A1 n1 c1, .slice B1 m1 e1] 26))
      have HTI := Lib.hid (alloc_top wr #[.int .i64 k1, .string s1, .slice A1 n1 c1, .slice B1 m1 e1] 26)
      have HTN := Lib.hid ((HKA.out.block w.heap.size (.inr rfl)).trans hwr.cells)
      have HJ := Lib.hid (jin_z hj (HKA.out.less (fun _ h => .inl h)))
      have HA := Lib.hid (And.intro ha (And.intro hza htl))
      have HRE := Lib.hid hre
      have HWR := Lib.hid hwr
      have HF0 := Lib.hid (facts_z (facts_z HF.out HZ.out hwr.kz) HZ.out (HKA.out.less (fun _ h => .inl h)))
      clear hrow hj hre hwr ha hza htl hjj hji hil hZb
      by_cases hi0 : i = 0
      · have HI0 := Lib.hid hi0
        have hgt : ¬ (0 : Int) < (i : Int) := by omega
        clear hi0
        obtain ⟨y0, y1, y2, y3⟩ := tok_cells HTN.out
        obtain ⟨z0, z1, z2, z3⟩ := tok_cells HTI.out
        go_wp2_with fail
        refine (HOK.out j HJM.out _ b a _ _ HS0.out (jin_z (jin_more HJ.out (fun _ h => .inl (.inl h))) HK0.out) (fun k hk => .inl (.inl (HZ.out k hk))) (facts_z HF0.out (fun k hk => .inl (.inl (HZ.out k hk))) HK0.out) (by have := HA.out; (try simp only [List.length_append, List.length_cons, List.length_nil]); omega)).mono ?_
        rintro e w1 ⟨rfl, hs, hk⟩
        have HS1 := Lib.hid hs
        have HK1 := Lib.hid (HK0.out.trans hk)
        clear hs hk
        have HW := Lib.hid (HWR.out.step (HS1.out.less (fun _ h => .inl h)) (HKA.out.trans (HK1.out.less (fun _ h => .inl h))))
        have HRE2 : Hid (RES = (a ++ textJ j) ++ itT 5 false [] (l.drop (i + 1))) := Lib.hid (by have := HRE.out; have h0 := HI0.out; rw [this, show decide (i = 0) = true by simp; omega]; simp [List.append_assoc])
        have HA2 : Hid ((a ++ textJ j).length + 6 * szL (l.drop (i + 1)) ≤ 100000000000) := Lib.hid (by have := HA.out; (try simp only [List.length_append]); omega)
        clear HRE HA
        go_wp2_with fail
        go_roundw
        case rel => exact ⟨i + 1, by omega, by go_num, Lib.hid ⟨_, HA2.out, by rw [show decide (i + 1 = 0) = false by simp]; exact HRE2.out, HW.out⟩⟩
        case measure => simp [intOf]; omega
      · have HI0 := Lib.hid hi0
        have hgt : (0 : Int) < (i : Int) := by omega
        clear hi0
        obtain ⟨y0, y1, y2, y3⟩ := tok_cells HTN.out
        obtain ⟨z0, z1, z2, z3⟩ := tok_cells HTI.out
        go_wp2_with fail
        refine (sByte _ b a 44 44 (by decide) _ HS0.out (by have := HA.out; (try simp only [List.length_append, List.length_cons, List.length_nil]); omega)).mono ?_
        rintro e w1 ⟨rfl, hs, hk⟩
        have HS1 := Lib.hid hs
        have HK1 := Lib.hid (HK0.out.trans hk)
        clear hs hk
        obtain ⟨y0, y1, y2, y3⟩ := tok_cells ((HK1.out.block w.heap.size (.inl (.inr rfl))).trans HTN.out)
        obtain ⟨z0, z1, z2, z3⟩ := tok_cells ((HK1.out.block wr.heap.size (.inr rfl)).trans HTI.out)
        go_wp2_with fail
        refine (HOK.out j HJM.out _ b (a ++ [44]) _ _ HS1.out (jin_z (jin_more HJ.out (fun _ h => .inl (.inl h))) HK1.out) (fun k hk => .inl (.inl (HZ.out k hk))) (facts_z HF0.out (fun k hk => .inl (.inl (HZ.out k hk))) HK1.out) (by have := HA.out; (try simp only [List.length_append, List.length_cons, List.length_nil]); omega)).mono ?_
        rintro e w2 ⟨rfl, hs, hk⟩
        have HS2 := Lib.hid hs
        have HK2 := Lib.hid (HK1.out.trans hk)
        clear hs hk y0 y1 y2 y3 z0 z1 z2 z3
        have HW := Lib.hid (HWR.out.step (HS2.out.less (fun _ h => .inl h)) (HKA.out.trans (HK2.out.less (fun _ h => .inl h))))
        have HRE2 : Hid (RES = ((a ++ [44]) ++ textJ j) ++ itT 5 false [] (l.drop (i + 1))) := Lib.hid (by have := HRE.out; have h0 := HI0.out; rw [this, show decide (i = 0) = false by simp; omega]; simp [List.append_assoc])
        have HA2 : Hid (((a ++ [44]) ++ textJ j).length + 6 * szL (l.drop (i + 1)) ≤ 100000000000) := Lib.hid (by have := HA.out; (try simp only [List.length_append, List.length_cons, List.length_nil]); omega)
        clear HRE HA
        go_wp2_with fail
        go_roundw
        case rel => exact ⟨i + 1, by omega, by go_num, Lib.hid ⟨_, HA2.out, by rw [show decide (i + 1 = 0) = false by simp]; exact HRE2.out, HW.out⟩⟩
        case measure => simp [intOf]; omega
    · have hltz : ¬ (i : Int) < (ln : Int) := by omega
      have HRE : Hid (RES = a) := Lib.hid (by rw [hre, show l.drop i = [] from List.drop_of_length_le (by have := HLN.out; omega), itT_nil, List.append_nil])
      have HW := Lib.hid hwr
      clear hre hwr ha
      go_wp2_with fail
      go_end0
      exact ⟨rfl, by rw [HRE.out]; exact HW.out.st.less (fun _ h => .inl h), HW.out.kz⟩
set_option maxRecDepth 100000 in
set_option maxHeartbeats 4000000 in
theorem items6_any (ks : List (List UInt8)) (l : List J) (hlen : ks.length = l.length) (hsz : szK ks + szL l ≤ 1000000) (hok : ∀ j ∈ l, WOk j) (hv : ∀ x ∈ ks, valid x = true) (Z : Nat → Prop) (b : Nat) (acc : List UInt8) (v : Value) (w : World) (hs : Sb Z b acc w) (hj : JIn w Z (.mk 6 [] ks l) v) (hZ : Zf Z) (hF : Facts w) (hn : acc.length + 6 * (szK ks + szL l) ≤ 100000000000) :
    Calls Tryd.prog 34 #[.pointer (some ⟨b, 0, none⟩), v] w fun e w' => e = .returned (.tuple #[]) ∧ Sb Z b (acc ++ itT 6 true ks l) w' ∧ Kz Z w w' := by
  obtain ⟨RES, hRES⟩ : ∃ r, r = acc ++ itT 6 true ks l := ⟨_, rfl⟩
  rw [← hRES]
  obtain ⟨ka, kc, ia, ic, rfl, hk, hl⟩ := hj.open
  have hll := szL_len l
  have HL := Lib.hid hl
  have HF := Lib.hid hF
  have HZ := Lib.hid hZ
  have HOK := Lib.hid hok
  have HSZ := Lib.hid hsz
  have HK := Lib.hid hk
  have HV := Lib.hid hv
  have HLEN := Lib.hid hlen
  have HR : Hid (∃ a, a.length + 6 * (szK (ks.drop 0) + szL (l.drop 0)) ≤ 100000000000 ∧ RES = a ++ itT 6 (decide (0 = 0)) (ks.drop 0) (l.drop 0) ∧ WR Z b w.heap.size 6 [] ka ia ks.length kc l.length ic w a (w.alloc (.cells #[.int .i64 6, .string (txt []), .slice ka ks.length kc, .slice ia l.length ic] 26))) :=
    Lib.hid ⟨acc, by simpa using hn, hRES, hs.alloc _, kz_alloc hs _, alloc_top w _ _⟩
  have hc := HR.out.choose_spec.2.2.cells
  obtain ⟨x0, x1, x2, x3⟩ := tok_cells hc
  generalize hkn : ks.length = kn at *
  have HKN := Lib.hid hkn
  generalize hln : l.length = ln at *
  have HLN := Lib.hid hln
  have hlnb : ln ≤ 1000000 := by omega
  clear hj hk hl hF hZ hok hsz hn hs hRES hc hln hll hkn hlen hv
  go_enter Tryd.func34, Tryd.ntmps34
  go_wp2_with fail
  go_loopw [4, 5, 9] (fun _ _ vi wr => ∃ i : Nat, i ≤ ln ∧ vi = .int .i64 i ∧ Hid (∃ a, a.length + 6 * (szK (ks.drop i) + szL (l.drop i)) ≤ 100000000000 ∧ RES = a ++ itT 6 (decide (i = 0)) (ks.drop i) (l.drop i) ∧ WR Z b w.heap.size 6 [] ka ia kn kc ln ic w a wr)) (fun _ _ vi _ => ln - (intOf vi).toNat)
  case atStart => exact ⟨0, Nat.zero_le _, rfl, HR⟩
  case round =>
    clear HR x0 x1 x2 x3
    obtain ⟨i, hi, rfl, hst⟩ := hrel
    obtain ⟨a, ha, hre, hwr⟩ := hst.out
    clear hst
    by_cases hlt : i < ln
    · have hltz : (i : Int) < (ln : Int) := by omega
      have hil : i < l.length := by rw [HLN.out]; exact hlt
      obtain ⟨j, hjj⟩ : ∃ j, j = l[i] := ⟨_, rfl⟩
      have hji : l[i]? = some j := by rw [hjj]; exact List.getElem?_eq_getElem hil
      have HJM : Hid (j ∈ l) := Lib.hid (by rw [hjj]; exact List.getElem_mem hil)
      have hza := szL_at hil
      have htl := textJ_len j
      rw [← hjj] at hza
      have hik : i < ks.length := by rw [HKN.out, HLEN.out]; exact hlt
      have hikn : i < kn := by rw [HLEN.out]; exact hlt
      obtain ⟨x, hx⟩ : ∃ x, x = ks[i] := ⟨_, rfl⟩
      have hzk := szK_at hik
      have hql := quoteL_len x
      have hxv : valid x = true := HV.out x (by rw [hx]; exact List.getElem_mem hik)
      have hxs : x.length ≤ 1000000 := by have := szK_mem (List.getElem_mem hik); have := HSZ.out; rw [← hx] at *; omega
      rw [← hx] at hzk
      rw [List.drop_eq_getElem_cons hil, List.drop_eq_getElem_cons hik, ← hjj, ← hx, itT_cons6] at hre
      obtain ⟨kb, ko, rfl, hZk, hkc⟩ := (HK.out.z hwr.kz) (by omega)
      have a0 := hkc i _ (List.getElem?_eq_getElem hik)
      rw [← hx] at a0
      obtain ⟨ib, io, rfl, hZb, hrow⟩ := (HL.out.z hwr.kz) (by omega)
      obtain ⟨v0, v1, v2, v3, d0, d1, d2, d3, hj⟩ := hrow.at hji
      obtain ⟨k1, s1, A1, n1, c1, B1, m1, e1, rfl, rfl, rfl, rfl⟩ := jin_shape hj
      have HS0 := Lib.hid (hwr.st.alloc (.cells #[.int .i64 k1, .string s1, .slice A1 n1 c1, .slice B1 m1 e1] 26))
      have HK0 : Hid (Kz (Zn (fun i => Z i ∨ i = w.heap.size) wr) (wr.alloc (.cells #[.int .i64 k1, .string s1, .slice A1 n1 c1, .slice B1 m1 e1] 26)) (wr.alloc (.cells #[.int .i64 k1, .string s1, .slice A1 n1 c1, .slice B1 m1 e1] 26))) := Lib.hid (Kz.refl _ _)
      have HKA := Lib.hid (kz_alloc hwr.st (.cells #[.int .i64 k1, .string s1, .slice A1 n1 c1, .slice B1 m1 e1] 26))
      have HTI := Lib.hid (alloc_top wr #[.int .i64 k1, .string s1, .slice A1 n1 c1, .slice B1 m1 e1] 26)
      have HTN := Lib.hid ((HKA.out.block w.heap.size (.inr rfl)).trans hwr.cells)
      have HJ := Lib.hid (jin_z hj (HKA.out.less (fun _ h => .inl h)))
      have HA := Lib.hid (And.intro ha (And.intro hza (And.intro htl (And.intro hzk hql))))
      have HRE := Lib.hid hre
      have HWR := Lib.hid hwr
      have HF0 := Lib.hid (facts_z (facts_z HF.out HZ.out hwr.kz) HZ.out (HKA.out.less (fun _ h => .inl h)))
      have HKC := Lib.hid (cell_block ((HKA.out.block kb (.inl hZk))) (ko + i) |>.trans a0)
      have HZK := Lib.hid hZk
      clear hkc hik hzk hql hx
      clear hrow hj hre hwr ha hza htl hjj hji hil hZb
      by_cases hi0 : i = 0
      · have HI0 := Lib.hid hi0
        have hgt : ¬ (0 : Int) < (i : Int) := by omega
        clear hi0
        obtain ⟨y0, y1, y2, y3⟩ := tok_cells HTN.out
        obtain ⟨z0, z1, z2, z3⟩ := tok_cells HTI.out
        have a1 := HKC.out
        go_wp2_with fail
        refine (sQuoted _ b a x _ HS0.out hxs hxv (by have := HA.out; (try simp only [List.length_append, List.length_cons, List.length_nil]); omega) (facts_z HF0.out (fun k hk => .inl (.inl (HZ.out k hk))) HK0.out)).mono ?_
        rintro e w1 ⟨rfl, hs, hk⟩
        have HS1 := Lib.hid hs
        have HK1 := Lib.hid (HK0.out.trans hk)
        clear hs hk
        obtain ⟨y0, y1, y2, y3⟩ := tok_cells ((HK1.out.block w.heap.size (.inl (.inr rfl))).trans HTN.out)
        obtain ⟨z0, z1, z2, z3⟩ := tok_cells ((HK1.out.block wr.heap.size (.inr rfl)).trans HTI.out)
        have a1 := (cell_block (HK1.out.block kb (.inl (.inl HZK.out))) (ko + i)).trans HKC.out
        go_wp2_with fail
        refine (sByte _ b (a ++ quoteL x) 58 58 (by decide) _ HS1.out (by have := HA.out; (try simp only [List.length_append]); omega)).mono ?_
        rintro e w2 ⟨rfl, hs, hk⟩
        have HS2 := Lib.hid hs
        have HK2 := Lib.hid (HK1.out.trans hk)
        clear hs hk y0 y1 y2 y3 z0 z1 z2 z3 a1
        obtain ⟨y0, y1, y2, y3⟩ := tok_cells ((HK2.out.block w.heap.size (.inl (.inr rfl))).trans HTN.out)
        obtain ⟨z0, z1, z2, z3⟩ := tok_cells ((HK2.out.block wr.heap.size (.inr rfl)).trans HTI.out)
        have a1 := (cell_block (HK2.out.block kb (.inl (.inl HZK.out))) (ko + i)).trans HKC.out
        go_wp2_with fail
        refine (HOK.out j HJM.out _ b ((a ++ quoteL x) ++ [58]) _ _ HS2.out (jin_z (jin_more HJ.out (fun _ h => .inl (.inl h))) HK2.out) (fun k hk => .inl (.inl (HZ.out k hk))) (facts_z HF0.out (fun k hk => .inl (.inl (HZ.out k hk))) HK2.out) (by have := HA.out; (try simp only [List.length_append, List.length_cons, List.length_nil]); omega)).mono ?_
        rintro e w3 ⟨rfl, hs, hk⟩
        have HS3 := Lib.hid hs
        have HK3 := Lib.hid (HK2.out.trans hk)
        clear hs hk y0 y1 y2 y3 z0 z1 z2 z3 a1
        have HW := Lib.hid (HWR.out.step (HS3.out.less (fun _ h => .inl h)) (HKA.out.trans (HK3.out.less (fun _ h => .inl h))))
        have HRE2 : Hid (RES = (((a ++ quoteL x) ++ [58]) ++ textJ j) ++ itT 6 false (ks.drop (i + 1)) (l.drop (i + 1))) := Lib.hid (by have := HRE.out; have h0 := HI0.out; rw [this, show decide (i = 0) = true by simp; omega]; simp [List.append_assoc])
        have HA2 : Hid ((((a ++ quoteL x) ++ [58]) ++ textJ j).length + 6 * (szK (ks.drop (i + 1)) + szL (l.drop (i + 1))) ≤ 100000000000) := Lib.hid (by have := HA.out; (try simp only [List.length_append, List.length_cons, List.length_nil]); omega)
        clear HRE HA
        go_wp2_with fail
        go_roundw
        case rel => exact ⟨i + 1, by omega, by go_num, Lib.hid ⟨_, HA2.out, by rw [show decide (i + 1 = 0) = false by simp]; exact HRE2.out, HW.out⟩⟩
        case measure => simp [intOf]; omega
      · have HI0 := Lib.hid hi0
        have hgt : (0 : Int) < (i : Int) := by omega
        clear hi0
        obtain ⟨y0, y1, y2, y3⟩ := tok_cells HTN.out
        obtain ⟨z0, z1, z2, z3⟩ := tok_cells HTI.out
        have a1 := HKC.out
        go_wp2_with fail
        refine (sByte _ b a 44 44 (by decide) _ HS0.out (by have := HA.out; (try simp only [List.length_append, List.length_cons, List.length_nil]); omega)).mono ?_
        rintro e w1 ⟨rfl, hs, hk⟩
        have HS1 := Lib.hid hs
        have HK1 := Lib.hid (HK0.out.trans hk)
        clear hs hk
        obtain ⟨y0, y1, y2, y3⟩ := tok_cells ((HK1.out.block w.heap.size (.inl (.inr rfl))).trans HTN.out)
        obtain ⟨z0, z1, z2, z3⟩ := tok_cells ((HK1.out.block wr.heap.size (.inr rfl)).trans HTI.out)
        have a1 := (cell_block (HK1.out.block kb (.inl (.inl HZK.out))) (ko + i)).trans HKC.out
        go_wp2_with fail
        refine (sQuoted _ b (a ++ [44]) x _ HS1.out hxs hxv (by have := HA.out; (try simp only [List.length_append, List.length_cons, List.length_nil]); omega) (facts_z HF0.out (fun k hk => .inl (.inl (HZ.out k hk))) HK1.out)).mono ?_
        rintro e w2 ⟨rfl, hs, hk⟩
        have HS2 := Lib.hid hs
        have HK2 := Lib.hid (HK1.out.trans hk)
        clear hs hk y0 y1 y2 y3 z0 z1 z2 z3 a1
        obtain ⟨y0, y1, y2, y3⟩ := tok_cells ((HK2.out.block w.heap.size (.inl (.inr rfl))).trans HTN.out)
        obtain ⟨z0, z1, z2, z3⟩ := tok_cells ((HK2.out.block wr.heap.size (.inr rfl)).trans HTI.out)
        have a1 := (cell_block (HK2.out.block kb (.inl (.inl HZK.out))) (ko + i)).trans HKC.out
        go_wp2_with fail
        refine (sByte _ b ((a ++ [44]) ++ quoteL x) 58 58 (by decide) _ HS2.out (by have := HA.out; (try simp only [List.length_append, List.length_cons, List.length_nil]); omega)).mono ?_
        rintro e w3 ⟨rfl, hs, hk⟩
        have HS3 := Lib.hid hs
        have HK3 := Lib.hid (HK2.out.trans hk)
        clear hs hk y0 y1 y2 y3 z0 z1 z2 z3 a1
        obtain ⟨y0, y1, y2, y3⟩ := tok_cells ((HK3.out.block w.heap.size (.inl (.inr rfl))).trans HTN.out)
        obtain ⟨z0, z1, z2, z3⟩ := tok_cells ((HK3.out.block wr.heap.size (.inr rfl)).trans HTI.out)
        have a1 := (cell_block (HK3.out.block kb (.inl (.inl HZK.out))) (ko + i)).trans HKC.out
        go_wp2_with fail
        refine (HOK.out j HJM.out _ b (((a ++ [44]) ++ quoteL x) ++ [58]) _ _ HS3.out (jin_z (jin_more HJ.out (fun _ h => .inl (.inl h))) HK3.out) (fun k hk => .inl (.inl (HZ.out k hk))) (facts_z HF0.out (fun k hk => .inl (.inl (HZ.out k hk))) HK3.out) (by have := HA.out; (try simp only [List.length_append, List.length_cons, List.length_nil]); omega)).mono ?_
        rintro e w4 ⟨rfl, hs, hk⟩
        have HS4 := Lib.hid hs
        have HK4 := Lib.hid (HK3.out.trans hk)
        clear hs hk y0 y1 y2 y3 z0 z1 z2 z3 a1
        have HW := Lib.hid (HWR.out.step (HS4.out.less (fun _ h => .inl h)) (HKA.out.trans (HK4.out.less (fun _ h => .inl h))))
        have HRE2 : Hid (RES = ((((a ++ [44]) ++ quoteL x) ++ [58]) ++ textJ j) ++ itT 6 false (ks.drop (i + 1)) (l.drop (i + 1))) := Lib.hid (by have := HRE.out; have h0 := HI0.out; rw [this, show decide (i = 0) = false by simp; omega]; simp [List.append_assoc])
        have HA2 : Hid (((((a ++ [44]) ++ quoteL x) ++ [58]) ++ textJ j).length + 6 * (szK (ks.drop (i + 1)) + szL (l.drop (i + 1))) ≤ 100000000000) := Lib.hid (by have := HA.out; (try simp only [List.length_append, List.length_cons, List.length_nil]); omega)
        clear HRE HA
        go_wp2_with fail
        go_roundw
        case rel => exact ⟨i + 1, by omega, by go_num, Lib.hid ⟨_, HA2.out, by rw [show decide (i + 1 = 0) = false by simp]; exact HRE2.out, HW.out⟩⟩
        case measure => simp [intOf]; omega
    · have hltz : ¬ (i : Int) < (ln : Int) := by omega
      have HRE : Hid (RES = a) := Lib.hid (by rw [hre, show l.drop i = [] from List.drop_of_length_le (by have := HLN.out; omega), itT_nil, List.append_nil])
      have HW := Lib.hid hwr
      clear hre hwr ha
      go_wp2_with fail
      go_end0
      exact ⟨rfl, by rw [HRE.out]; exact HW.out.st.less (fun _ h => .inl h), HW.out.kz⟩
end Go.Proofs.YtmkjoonbjmieoaaDoor
