/-
  THE WALK OF emendlaw07.EditsLong: at every two numbers it returns true; no memory that was there turns. Condition: what can be read at all.
-/
import Derived.Test.YtlgjlfljohapfaaEMovesLaw
import Derived.Test.YtlgjlfljohapfaaEFlat
namespace Go.Proofs.Ytlgjlfljohapfaa
open Go.RowKit Go.Lib

def zeroT (n : Nat) : ByteArray := textOf (List.replicate n 0)
theorem zeroT_size (n : Nat) : (zeroT n).size = n := by unfold zeroT; rw [textOf_size, List.length_replicate]
theorem made_zero (n : Nat) : (byteCells (bdl n [])).toArray = (byteCells (List.replicate n 0)).toArray := by unfold bdl; simp
theorem long1 (a b : Nat) : fits a [⟨0, 0, zeroT b⟩] = true := by
  unfold fits
  rw [fitsF_yes (by simp) (by simp) (by simp)]
  simp [fitsF]
theorem long2 (a b : Nat) : fits a [⟨0, (a : Int), zeroT b⟩] = true := by
  unfold fits
  rw [fitsF_yes (by simp) (by simp) (by simp)]
  simp [fitsF]
theorem len1 (a b : Nat) : (madeL (zeroT a) [⟨0, 0, zeroT b⟩]).length = a + b := by
  unfold madeL
  rw [cat_pcs_cons, cat_pcs_nil]
  simp only [Int.toNat_zero, Nat.sub_self, List.take_zero, List.nil_append, List.drop_zero, List.length_append, size_bytes, zeroT_size]
  omega
theorem len2 (a b : Nat) : (madeL (zeroT a) [⟨0, (a : Int), zeroT b⟩]).length = b := by
  unfold madeL
  rw [cat_pcs_cons, cat_pcs_nil]
  simp only [Int.toNat_zero, Int.toNat_natCast, Nat.sub_self, List.take_zero, List.nil_append, List.length_append, size_bytes, zeroT_size, List.length_drop]
  omega
def prts (a b : Nat) : List Prt := [⟨0, (a : Int), ⟨#[]⟩, false⟩, ⟨0, 0, zeroT b, true⟩]
theorem len3 (a b : Nat) : partsE (zeroT a) (prts a b) = if 65536 < a + b then 3 else 0 := by
  have h1 : (prts a b).all (prtOk (zeroT a)) = true := by
    simp [prts, prtOk, isCp, inT, zeroT_size]
  have h2 : tot (means (zeroT a) (prts a b)) = a + b := by
    have e : means (zeroT a) (prts a b) = [(zeroT a).extract 0 a, zeroT b] := rfl
    rw [e]
    unfold tot
    rw [cat_cons, cat_cons, cat_nil, List.append_nil, List.length_append, size_bytes, size_bytes, ByteArray.size_extract, zeroT_size, zeroT_size]
    omega
  unfold partsE
  rw [if_pos h1, h2]
def zrow (n : Nat) : Array Value := (byteCells (List.replicate n 0)).toArray
theorem zrow_conv (n : Nat) {W : World} {g : Nat} (h : W.heap[g]? = some (.cells (zrow n) 5 (0, 0))) : (convert 73 9 (.slice (some ⟨g, 0, none⟩) n n)).run Try.prog W = .ok (.string (zeroT n)) W := by
  have := str_conv (cap := n) h
  rw [List.length_replicate] at this
  exact this
theorem zrow_make (n : Nat) (h : n ≤ 200000) (W : World) : (Instr.makeSlice 73 (.int .i64 (n : Int)) (.int .i64 (n : Int))).run Try.prog W = .ok (.slice (some ⟨W.heap.size, 0, none⟩) n n) (W.alloc (.cells (zrow n) 5)) := by
  obtain ⟨i0, hi0, hz0, hz1, hz2⟩ := info_parts u8Info
  have h := run_make (P := Try.prog) W 73 5 i0 (.int .u8 0) Try.underlying73 hi0 hz0 .i64 .i64 (n : Int) (n : Int) (by omega) (by omega) (by rw [hz2]; omega) (by omega)
  rw [hz1, Int.toNat_natCast, made_bdl, made_zero] at h
  exact h
def cutc (a b : Nat) : List Ct := [⟨0, 0, prts a b⟩]
theorem lim_cut {a b : Nat} (ha : a ≤ 200000) (hb : b ≤ 200000) : LimC (zeroT a) (cutc a b) := by
  refine ⟨by rw [zeroT_size]; omega, by simp [cutc], fun x hx => ?_⟩
  obtain rfl : x = ⟨0, 0, prts a b⟩ := by simpa [cutc] using hx
  refine ⟨by rw [zeroT_size]; omega, by simp [prts], fun y hy => ?_⟩
  simp only [prts, List.mem_cons, List.not_mem_nil, or_false] at hy
  rcases hy with rfl | rfl
  · exact Nat.zero_le _
  · simp only; rw [zeroT_size]; omega
theorem flat_long (a b : Nat) : flatE (zeroT a) (cutc a b) = if 65536 < a + b then 3 else 0 := by
  have h3 := len3 a b
  have hf : fits (zeroT a).size (spl0 (cutc a b)) = true := by
    rw [zeroT_size]
    exact long1 a 0
  unfold flatE cutsE cutc
  by_cases h : 65536 < a + b
  · rw [if_pos h] at h3 ⊢
    simp only [h3]
    rfl
  · rw [if_neg h] at h3 ⊢
    have hf2 : fits (zeroT a).size (spl0 [⟨0, 0, prts a b⟩]) = true := hf
    simp only [h3, cutsE, if_true, hf2]
    rfl
theorem sr_one {W : World} {g : Nat} {x : Spl} (h : W.heap[g]? = some (.cells #[.int .i64 x.f, .int .i64 x.t, .string x.s] 62 (0, 0))) : SR W (some ⟨g, 0, none⟩) [x] := fun _ => by
  refine ⟨g, 0, rfl, fun j y hy => ?_⟩
  match j, hy with
  | 0, hy =>
    obtain rfl : x = y := by simpa using hy
    exact ⟨cell_at h, cell_at h, cell_at h⟩
  | j + 1, hy => simp at hy
theorem pr_two {W : World} {g : Nat} {x y : Prt} (h : W.heap[g]? = some (.cells #[.int .i64 x.f, .int .i64 x.t, .string x.s, .bool x.n, .int .i64 y.f, .int .i64 y.t, .string y.s, .bool y.n] 67 (0, 0))) : PR W (some ⟨g, 0, none⟩) [x, y] := fun _ => by
  refine ⟨g, 0, rfl, fun j z hz => ?_⟩
  match j, hz with
  | 0, hz =>
    obtain rfl : x = z := by simpa using hz
    exact ⟨cell_at h, cell_at h, cell_at h, cell_at h⟩
  | 1, hz =>
    obtain rfl : y = z := by simpa using hz
    exact ⟨cell_at h, cell_at h, cell_at h, cell_at h⟩
  | j + 2, hz => simp at hz
theorem cr_one {W : World} {g g2 : Nat} {a b : Nat} (h : W.heap[g]? = some (.cells #[.int .i64 0, .int .i64 0, .slice (some ⟨g2, 0, none⟩) 2 2] 70 (0, 0))) (h2 : PR W (some ⟨g2, 0, none⟩) (prts a b)) : CR W (some ⟨g, 0, none⟩) (cutc a b) := fun _ => by
  refine ⟨g, 0, rfl, fun j z hz => ?_⟩
  match j, hz with
  | 0, hz =>
    obtain rfl : (⟨0, 0, prts a b⟩ : Ct) = z := by simpa [cutc] using hz
    exact ⟨cell_at h, cell_at h, _, 2, cell_at h, h2⟩
  | j + 1, hz => simp [cutc] at hz
theorem fault1 (a b : Nat) : faultV (zeroT a) [⟨0, 0, zeroT b⟩] = if 65536 < a + b then 3 else 0 := by
  unfold faultV
  rw [zeroT_size, if_pos (long1 a b), len1]
theorem fault2 (a b : Nat) : faultV (zeroT a) [⟨0, (a : Int), zeroT b⟩] = if 65536 < b then 3 else 0 := by
  unfold faultV
  rw [zeroT_size, if_pos (long2 a b), len2]
theorem size1 (a b : Nat) (h : ¬ 65536 < a + b) : (applyS (zeroT a) [⟨0, 0, zeroT b⟩]).size = a + b := by
  unfold applyS
  rw [fault1, if_neg h, if_pos rfl, textOf_size, len1]
theorem size2 (a b : Nat) (h : ¬ 65536 < b) : (applyS (zeroT a) [⟨0, (a : Int), zeroT b⟩]).size = b := by
  unfold applyS
  rw [fault2, if_neg h, if_pos rfl, textOf_size, len2]
theorem lim_one {a b : Nat} (x y : Int) (ha : a ≤ 200000) (hb : b ≤ 200000) : Lim (zeroT a) [⟨x, y, zeroT b⟩] := by
  refine ⟨by rw [zeroT_size]; omega, by simp, fun z hz => ?_⟩
  obtain rfl : z = ⟨x, y, zeroT b⟩ := by simpa using hz
  simp only
  rw [zeroT_size]
  omega
set_option maxRecDepth 100000 in
set_option maxHeartbeats 8000000 in
theorem editsLong_walk (n m : Int) (w : World) (n0 : 0 ≤ n) (n1 : n ≤ 4294967295) (m0 : 0 ≤ m) (m1 : m ≤ 4294967295) :
    Calls Try.prog 10 #[.int .u32 n, .int .u32 m] w fun e w' => e = .returned (.bool true) ∧ Below w.heap.size w w' := by
  obtain ⟨a, ha⟩ : ∃ a : Nat, n % 131072 = a := ⟨(n % 131072).toNat, by omega⟩
  obtain ⟨b, hb⟩ : ∃ b : Nat, m % 131072 = b := ⟨(m % 131072).toNat, by omega⟩
  have ha2 : a ≤ 131071 := by omega
  have hb2 : b ≤ 131071 := by omega
  obtain ⟨W1, hW1⟩ : ∃ W1, W1 = w.alloc (.cells (zrow a) 5) := ⟨_, rfl⟩
  obtain ⟨W2, hW2⟩ : ∃ W2, W2 = W1.alloc (.cells (zrow b) 5) := ⟨_, rfl⟩
  have k1 := zrow_make a (by omega) w
  rw [← hW1, ← ha] at k1
  have hb1 := alloc_below w (.cells (zrow a) 5)
  have ht1 := alloc_top w (zrow a) 5
  rw [← hW1] at hb1 ht1
  have k2 := zrow_conv a ht1
  have k3 := zrow_make b (by omega) W1
  have ht2 := alloc_top W1 (zrow b) 5
  have hb2' := alloc_below W1 (.cells (zrow b) 5)
  rw [← hW2, ← hb] at k3
  rw [← hW2] at ht2 hb2'
  have k4 := zrow_conv b ht2
  have HB2 := Lib.hid (hb1.trans (hb2'.mono hb1.size))
  have HAA := Lib.hid ha
  have HBB := Lib.hid hb
  clear hW1 hW2 hb1 ht1 ht2 hb2' ha hb
  have HA1 : Hid (∀ (A : Option Addr) (W : World), SR W A [⟨0, 0, zeroT b⟩] → Calls Try.prog 14 #[.string (zeroT a), .slice A 1 1] W fun e w' => e = .returned (.tuple #[.string (applyS (zeroT a) [⟨0, 0, zeroT b⟩]), .int .i64 (faultV (zeroT a) [⟨0, 0, zeroT b⟩])]) ∧ Below W.heap.size W w') := Lib.hid (fun A W h => apply_any _ A _ 1 (lim_one _ _ (by omega) (by omega)) W h)
  have HA2 : Hid (∀ (A : Option Addr) (W : World), SR W A [⟨0, (a : Int), zeroT b⟩] → Calls Try.prog 14 #[.string (zeroT a), .slice A 1 1] W fun e w' => e = .returned (.tuple #[.string (applyS (zeroT a) [⟨0, (a : Int), zeroT b⟩]), .int .i64 (faultV (zeroT a) [⟨0, (a : Int), zeroT b⟩])]) ∧ Below W.heap.size W w') := Lib.hid (fun A W h => apply_any _ A _ 1 (lim_one _ _ (by omega) (by omega)) W h)
  have HFL : Hid (∀ (A : Option Addr) (W : World), CR W A (cutc a b) → Calls Try.prog 26 #[.string (zeroT a), .slice A 1 1] W (fun e w' => ∃ v, e = .returned (.tuple #[v, .int .i64 (flatE (zeroT a) (cutc a b))]) ∧ Below W.heap.size W w')) := Lib.hid (fun A W h => (flat_any _ A _ 1 (lim_cut (by omega) (by omega)) W h).mono fun e w' ⟨v, h1, h2, _⟩ => ⟨v, h1, h2⟩)
  have HW := Lib.hid awake_any
  have hz1 := size1 a b
  have hz2 := size2 a b
  rw [fault1] at HA1
  rw [fault2] at HA2
  rw [flat_long] at HFL
  generalize applyS (zeroT a) [⟨0, 0, zeroT b⟩] = S1 at *
  generalize applyS (zeroT a) [⟨0, (a : Int), zeroT b⟩] = S2 at *
  obtain ⟨Z, hZ⟩ : ∃ Z, zeroT b = Z := ⟨_, rfl⟩
  have HPZ : Hid (prts a b = [⟨0, (a : Int), ⟨#[]⟩, false⟩, ⟨0, 0, Z, true⟩]) := Lib.hid (by rw [← hZ]; rfl)
  rw [hZ] at HA1 HA2 k4
  clear hZ
  have HZ1 := Lib.hid hz1
  have HZ2 := Lib.hid hz2
  clear hz1 hz2
  rcases (show (a + b ≤ 65536 ∧ b ≤ 65536) ∨ (65536 < a + b ∧ b ≤ 65536) ∨ (65536 < a + b ∧ 65536 < b) by omega) with ⟨h1, h2⟩ | ⟨h1, h2⟩ | ⟨h1, h2⟩
  all_goals
    first | rw [if_pos h1] at HA1 HFL | rw [if_neg (by omega)] at HA1 HFL
    first | rw [if_pos h2] at HA2 | rw [if_neg (by omega)] at HA2
    go_enter Try.func10, Try.ntmps10
    go_wp2_with fail
    clear k1 k2 k3 k4
    rw [HAA.out, HBB.out]
    refine (of_any _ _ _ _).mono ?_
    rintro e w3 ⟨rfl, rfl⟩
    have hb3 := alloc_below W2 (.cells #[.int .i64 0, .int .i64 0, .string Z] 62)
    have hb4 := alloc_below (W2.alloc (.cells #[.int .i64 0, .int .i64 0, .string Z] 62)) (.cells #[.int .i64 0, .int .i64 0, .string Z] 62)
    have ht4 := alloc_top (W2.alloc (.cells #[.int .i64 0, .int .i64 0, .string Z] 62)) #[.int .i64 0, .int .i64 0, .string Z] 62
    rw [World.size_alloc] at ht4
    have HS4 := Lib.hid (sr_one (x := ⟨0, 0, Z⟩) ht4)
    have HB4 := Lib.hid (HB2.out.trans ((hb3.trans (hb4.mono hb3.size)).mono HB2.out.size))
    clear hb3 hb4 ht4 HB2
    go_wp2_with fail
    refine (HA1.out _ _ HS4.out).mono ?_
    rintro e w5 ⟨rfl, hb5⟩
    have HB5 := Lib.hid (HB4.out.trans (hb5.mono HB4.out.size))
    clear hb5 HB4 HS4 HA1
    go_wp2_with fail
    refine (of_any _ _ _ _).mono ?_
    rintro e w6 ⟨rfl, rfl⟩
    have hb3 := alloc_below w5 (.cells #[.int .i64 0, .int .i64 (a : Int), .string Z] 62)
    have hb4 := alloc_below (w5.alloc (.cells #[.int .i64 0, .int .i64 (a : Int), .string Z] 62)) (.cells #[.int .i64 0, .int .i64 (a : Int), .string Z] 62)
    have ht4 := alloc_top (w5.alloc (.cells #[.int .i64 0, .int .i64 (a : Int), .string Z] 62)) #[.int .i64 0, .int .i64 (a : Int), .string Z] 62
    rw [World.size_alloc] at ht4
    have HS6 := Lib.hid (sr_one (x := ⟨0, (a : Int), Z⟩) ht4)
    have HB6 := Lib.hid (HB5.out.trans ((hb3.trans (hb4.mono hb3.size)).mono HB5.out.size))
    clear hb3 hb4 ht4 HB5
    go_wp2_with fail
    refine (HA2.out _ _ HS6.out).mono ?_
    rintro e w7 ⟨rfl, hb7⟩
    have HB7 := Lib.hid (HB6.out.trans (hb7.mono HB6.out.size))
    clear hb7 HB6 HS6 HA2
    go_wp2_with fail
    have hb3 := alloc_below w7 (.cells #[.int .i64 0, .int .i64 (a : Int), .string ⟨#[]⟩, .bool false, .int .i64 0, .int .i64 0, .string Z, .bool true] 67)
    have hb4 := alloc_below (w7.alloc (.cells #[.int .i64 0, .int .i64 (a : Int), .string ⟨#[]⟩, .bool false, .int .i64 0, .int .i64 0, .string Z, .bool true] 67)) (.cells #[.int .i64 0, .int .i64 0, .slice (some ⟨w7.heap.size, 0, none⟩) 2 2] 70)
    have ht3 := heap_keep hb4 (alloc_top w7 #[.int .i64 0, .int .i64 (a : Int), .string ⟨#[]⟩, .bool false, .int .i64 0, .int .i64 0, .string Z, .bool true] 67)
    have ht4 := alloc_top (w7.alloc (.cells #[.int .i64 0, .int .i64 (a : Int), .string ⟨#[]⟩, .bool false, .int .i64 0, .int .i64 0, .string Z, .bool true] 67)) #[.int .i64 0, .int .i64 0, .slice (some ⟨w7.heap.size, 0, none⟩) 2 2] 70
    rw [World.size_alloc] at ht4
    have hp := pr_two (x := ⟨0, (a : Int), ⟨#[]⟩, false⟩) (y := ⟨0, 0, Z, true⟩) ht3
    rw [← HPZ.out] at hp
    have HS8 := Lib.hid (cr_one ht4 hp)
    have HB8 := Lib.hid (HB7.out.trans ((hb3.trans (hb4.mono hb3.size)).mono HB7.out.size))
    clear hb3 hb4 ht3 ht4 hp HB7
    refine (HFL.out _ _ HS8.out).mono ?_
    rintro e w9 ⟨v9, rfl, hb9⟩
    have HB9 := Lib.hid (HB8.out.trans (hb9.mono HB8.out.size))
    clear hb9 HB8 HS8 HFL
    try have z1 := HZ1.out (by omega)
    try have z2 := HZ2.out (by omega)
    try have y1 : ((S1.size : Int) == (a : Int) + (b : Int)) = true := by rw [beq_iff_eq]; omega
    try have y2 : ((S2.size : Int) == (b : Int)) = true := by rw [beq_iff_eq]; omega
    try clear z1
    try clear z2
    try have x1 : decide ((a : Int) + (b : Int) ≤ 65536) = true := by simp; omega
    try have x1 : decide ((a : Int) + (b : Int) ≤ 65536) = false := by simp; omega
    try have x2 : decide ((b : Int) ≤ 65536) = true := by simp; omega
    try have x2 : decide ((b : Int) ≤ 65536) = false := by simp; omega
    go_wp2_with fail
    refine (HW.out _).mono ?_
    rintro e w10 ⟨rfl, hb10⟩
    have HB10 := Lib.hid (HB9.out.trans (hb10.mono HB9.out.size))
    clear hb10
    go_wp2_with fail
    go_ret
    exact ⟨rfl, HB10.out⟩
end Go.Proofs.Ytlgjlfljohapfaa
