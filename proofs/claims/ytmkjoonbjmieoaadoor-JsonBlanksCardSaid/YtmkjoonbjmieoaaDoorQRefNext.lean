/-
  emendref03's is, digit, numbered, hex AT EVERY TEXT of at most 1000000 bytes: what they return; the world is as it was. Condition: the text's length.
  emendref03.hex AT EVERY TEXT of at most 1000000 bytes: the number of a u and four hex digits, or -1; the world is as it was. Condition: the text's length.
  emendref03.numbered AT EVERY TEXT of at most 1000000 bytes, from every place of it: where the number ends that begins there; the world is as it was. Condition: the text's length.
  emendref03.point AT EVERY POINT: its bytes as a text; no memory that was there turns. Condition: the number is a point.
  emendref03.escape AT EVERY TEXT of at most 1000000 bytes, from every place of it: what stands for an escape, and where it ends; no memory that was there turns. Condition: the text's length.
  emendref03.escape and quoted AT EVERY TEXT of at most 1000000 bytes, from every place of it: what they return; no memory that was there turns. Condition: the text's length.
  emendref03.Next AT EVERY TEXT of at most 1000000 bytes, from every place of it from which on it is valid: what it returns; no memory that was there turns. Conditions: the text's length, the text's validity from the place on.
-/
import Derived.Test.YtmkjoonbjmieoaaDoorQScan
import Derived.Deep.DeepCutAuto
import Derived.Test.YtmkjoonbjmieoaaDoorQStr
import Derived.Laws.NewBlocks
import Derived.Test.YtmkjoonbjmieoaaDoorQPlain5
import Derived.Test.YtmkjoonbjmieoaaDoorQPlain6
import Derived.Test.YtmkjoonbjmieoaaDoorQToks
import Derived.Deep.CutBlock
namespace Go.Proofs.YtmkjoonbjmieoaaDoor
open Go.RowKit

theorem is1_eq (d c : UInt8) : is1 d c = decide (c.toNat = d.toNat) := by
  unfold is1
  simp only [List.contains_cons, List.contains_nil, Bool.or_false]
  rw [Bool.eq_iff_iff, beq_iff_eq, decide_eq_true_eq]
  exact ⟨fun h => by rw [h], fun h => UInt8.toNat_inj.1 h⟩
theorem isD_eq (c : UInt8) : isD c = (decide (48 ≤ c.toNat) && decide (c.toNat ≤ 57)) := by
  have : ∀ k : Fin 256, isD (UInt8.ofNat k.val) = (decide (48 ≤ k.val) && decide (k.val ≤ 57)) := by decide +kernel
  have h := this ⟨c.toNat, c.toNat_lt⟩
  simpa using h
end Go.Proofs.YtmkjoonbjmieoaaDoor
namespace Go.Proofs.YtmkjoonbjmieoaaDoor
open Go.RowKit

/-- What hex hands back. -/
def hexV : Option Nat → Int
  | some n => (n : Int)
  | none => -1
theorem hexN_cons_some2 {c : UInt8} {d : Nat} (h : hexD c = some d) (n : Nat) (l : List UInt8) : hexN n (c :: l) = hexN (16 * n + d) l := by rw [hexN, h]
theorem hexN_cons_none2 {c : UInt8} (h : hexD c = none) (n : Nat) (l : List UInt8) : hexN n (c :: l) = none := by rw [hexN, h]
end Go.Proofs.YtmkjoonbjmieoaaDoor
namespace Go.Proofs.YtmkjoonbjmieoaaDoor
open Go.RowKit

theorem digit48 (l : List UInt8) (h : fst (is1 48) l = true) : fst isD l = true := by
  cases l with
  | nil => cases h
  | cons c l =>
    have h2 : is1 48 c = true := h
    show isD c = true
    rw [is1_eq, decide_eq_true_eq] at h2
    rw [isD_eq, h2]; decide
theorem isE_two (l : List UInt8) : fst isE l = (fst (is1 101) l || fst (is1 69) l) := by
  cases l with
  | nil => rfl
  | cons c l =>
    show isE c = (is1 101 c || is1 69 c)
    simp [isE, is1]
theorem isS_two (l : List UInt8) : fst isS l = (fst (is1 43) l || fst (is1 45) l) := by
  cases l with
  | nil => rfl
  | cons c l =>
    show isS c = (is1 43 c || is1 45 c)
    simp [isS, is1]
theorem whole_zero (l : List UInt8) (h : fst isD l = false) : wholeLen l = 0 := by
  unfold wholeLen
  rw [if_neg (fun h2 => by rw [digit48 l h2] at h; cases h)]
  exact run_no _ _ h
end Go.Proofs.YtmkjoonbjmieoaaDoor
namespace Go.Proofs.YtmkjoonbjmieoaaDoor
open Go.RowKit

theorem row_new (w : World) (l : List UInt8) (hl : l.length ≤ 100) : (w.alloc (.cells (bcells l).toArray 5)).ownsRow w.heap.size 5 1 (.slice (some ⟨w.heap.size, 0, none⟩) l.length l.length) l.length (bcells l) := by
  refine ⟨by rw [bcells_len, Nat.mul_one], .inr ⟨w.heap.size, l.length, (bcells l).toArray, rfl, Nat.le_refl _, ?_, Nat.le_refl _, by unfold maxLen; omega, by rw [List.size_toArray, bcells_len, Nat.mul_one], by rw [Nat.mul_one, ← bcells_len l, List.take_length]⟩⟩
  unfold World.alloc
  exact Array.getElem?_push_size
theorem conv_new (w : World) (l : List UInt8) (hl : l.length ≤ 100) (cs : Array Value) (hc : cs = (bcells l).toArray) (k : Nat) (hk : k = l.length) : (convert 35 9 (.slice (some ⟨w.heap.size, 0, none⟩) k k)).run Tryd.prog (w.alloc (.cells cs 5)) = .ok (.string ⟨l.toArray⟩) (w.alloc (.cells cs 5)) := by
  subst hc hk
  exact str_conv (row_new w l hl)
theorem byte_cell (n : Nat) (h : n < 256) (z : Int) (hz : z = (n : Int)) : Value.int .u8 z = Value.int .u8 ((UInt8.ofNat n).toNat : Int) := by
  rw [ofNat_toNat n h, hz]
end Go.Proofs.YtmkjoonbjmieoaaDoor
namespace Go.Proofs.YtmkjoonbjmieoaaDoor
open Go.RowKit

/-- What escape hands back. -/
def escS (i : Nat) : Option (Nat × Nat) → Value
  | some (p, k) => .tuple #[.string ⟨(encL p).toArray⟩, .int .i64 ((i + k : Nat) : Int)]
  | none => .tuple #[.string ⟨#[]⟩, .int .i64 0]
theorem escP_letter (s : ByteArray) (i : Nat) (h : i < s.size) (x p : Nat) (hx : s[i].toNat = x) (hp : short x = some p) : escP (rest s i) = some (p, 1) := by
  unfold escP
  rw [if_neg (rest_ne s i h), nth_rest s i h, hx, hp]
theorem one_byte (s : ByteArray) (i : Nat) (h : i < s.size) (x : Nat) (hx : s[i].toNat = x) (h128 : x < 128) : s.extract i (i + 1) = ⟨(encL x).toArray⟩ := by
  apply ByteArray.ext
  have e := extract_take s i 1
  rw [rest_cons s i h] at e
  have e2 : encL x = [s[i]] := by
    unfold encL encN
    rw [if_pos h128]
    show [UInt8.ofNat x] = _
    rw [show UInt8.ofNat x = s[i] from UInt8.toNat_inj.1 (by rw [← hx]; simp)]
  rw [e2]
  show (s.extract i (i + 1)).data = _
  have e3 : (s.extract i (i + 1)).data.toList = [s[i]] := by rw [e]; rfl
  rw [← e3]
end Go.Proofs.YtmkjoonbjmieoaaDoor
namespace Go.Proofs.YtmkjoonbjmieoaaDoor
open Go.RowKit

theorem short_none (x : Nat) (h : x ≠ 34 ∧ x ≠ 92 ∧ x ≠ 47 ∧ x ≠ 98 ∧ x ≠ 102 ∧ x ≠ 110 ∧ x ≠ 114 ∧ x ≠ 116) : short x = none := by
  unfold short
  simp only [h.1, h.2.1, h.2.2.1, h.2.2.2.1, h.2.2.2.2.1, h.2.2.2.2.2.1, h.2.2.2.2.2.2.1, h.2.2.2.2.2.2.2, if_false]
/-- What quoted hands back. -/
def strS (i : Nat) : Option (List UInt8 × Nat) → Value
  | some (x, n) => .tuple #[.string ⟨x.toArray⟩, .int .i64 ((i + n : Nat) : Int)]
  | none => .tuple #[.string ⟨#[]⟩, .int .i64 0]
theorem cat_bytes (a : List UInt8) (b : List UInt8) : (⟨a.toArray⟩ : ByteArray) ++ ⟨b.toArray⟩ = ⟨(a ++ b).toArray⟩ := by
  apply ByteArray.ext
  simp [ByteArray.data_append]
theorem one_ext (s : ByteArray) (i : Nat) (h : i < s.size) : s.extract i (i + 1) = ⟨[s[i]].toArray⟩ := by
  apply ByteArray.ext
  have e := extract_take s i 1
  rw [rest_cons s i h] at e
  have e3 : (s.extract i (i + 1)).data.toList = [s[i]] := by rw [e]; rfl
  show (s.extract i (i + 1)).data = _
  rw [← e3]
end Go.Proofs.YtmkjoonbjmieoaaDoor
namespace Go.Proofs.YtmkjoonbjmieoaaDoor
open Go.RowKit

/-- What Next hands back. -/
def NextIs (i : Nat) (o : Option Tk) (e : Ending) : Prop :=
  match o with
  | some (q, x, n) => e = .returned (.agg #[.int .i64 (q : Int), .string (txt x), .int .i64 (i : Int), .int .i64 ((i + n : Nat) : Int)])
  | none => ∃ q x f, e = .returned (.agg #[.int .i64 q, .string x, .int .i64 f, .int .i64 0])
def otherO (l : List UInt8) : Option Tk := if wordLen l ≠ 0 then some (2, l.take (wordLen l), wordLen l) else if numLen l ≠ 0 then some (3, l.take (numLen l), numLen l) else none
theorem results_cell_one {fn : Func} {p : Tmp} {ty : TypeId} (h : fn.results = #[.cell p ty]) (tmps : Array Value) (P : Program) (w : World) :
    (results fn tmps).run P w = ((asAddr (tmps.getD p undef)).run P w).andThen fun a w₁ => (loadVar ty a).run P w₁ := by
  simp only [results, h]
  simp [Sem.run_bind, Result.andThen]
theorem alloc_top (w : World) (o : Array Value) (t : TypeId) : (w.alloc (.cells o t)).heap[w.heap.size]? = some (.cells o t (0, 0)) := by
  unfold World.alloc
  exact Array.getElem?_push_size
theorem alloc_below (w : World) (o : Obj) : Below w.heap.size w (w.alloc o) := (Below.refl _ _).alloc (Nat.le_refl _) _
def zeroR : Array Value := #[.int .i64 0, .string ⟨#[]⟩, .int .i64 0, .int .i64 0]
theorem mark_at (s : ByteArray) (i : Nat) (h : i < s.size) : markLen (rest s i) = if isM s[i] then 1 else 0 := by
  unfold markLen; rw [fst_at _ s i h]
theorem isM_eq (c : UInt8) : isM c = true ↔ (c.toNat = 123 ∨ c.toNat = 125 ∨ c.toNat = 91 ∨ c.toNat = 93 ∨ c.toNat = 58 ∨ c.toNat = 44) := by
  have : ∀ k : Fin 256, isM (UInt8.ofNat k.val) = decide (k.val = 123 ∨ k.val = 125 ∨ k.val = 91 ∨ k.val = 93 ∨ k.val = 58 ∨ k.val = 44) := by decide +kernel
  have h := this ⟨c.toNat, c.toNat_lt⟩
  simp only [UInt8.ofNat_toNat] at h
  rw [h, decide_eq_true_eq]
end Go.Proofs.YtmkjoonbjmieoaaDoor
