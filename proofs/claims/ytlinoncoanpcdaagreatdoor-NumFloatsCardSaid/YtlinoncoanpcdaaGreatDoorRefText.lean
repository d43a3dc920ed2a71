/-
  THE DOCUMENT's TEXTS OF NUMBERS (emendref01.Size, Text, Show): at every int64 and every word the same texts as num's; new memory alone is made. No condition but the numbers' bounds.
-/
import Derived.Test.YtlinoncoanpcdaaGreatDoorIntBack
import Derived.Test.YtlinoncoanpcdaaGreatDoorFloat
import Derived.Lib.ItoaLen
namespace Go.Proofs.YtlinoncoanpcdaaGreatDoor
open Go.RowKit Go.Lib

theorem size_neg (n : Int) (h0 : -9223372036854775808 ≤ n) (hn : n < 0) : IntKind.u64.wrap (-IntKind.u64.wrap n) = (n.natAbs : Int) := by
  unfold IntKind.wrap
  simp [IntKind.signed, IntKind.bits]
  omega
theorem ret_u64 {a b : Int} (h : a = b) : Ending.returned (.int .u64 a) = .returned (.int .u64 b) := by rw [h]
theorem size_any (n : Int) (h0 : -9223372036854775808 ≤ n) (h1 : n ≤ 9223372036854775807) (w : World) : Calls Tryz.prog 63 #[.int .i64 n] w fun e w' => e = .returned (.int .u64 (n.natAbs : Int)) ∧ w = w' := by
  rcases (by omega : n < 0 ∨ 0 ≤ n) with hn | hn
  · go_enter Tryz.func63, Tryz.ntmps63
    go_wp2
    go_ret
    exact ⟨ret_u64 (size_neg n h0 hn), rfl⟩
  · go_enter Tryz.func63, Tryz.ntmps63
    go_wp2
    go_ret
    exact ⟨ret_u64 (by omega), rfl⟩
/-- A number's last digit. -/
def dg10 (v : Int) : UInt8 := UInt8.ofNat (48 + v.toNat % 10)
theorem one_conv (c : UInt8) (z : Int) (hz : z = (c.toNat : Int)) (wr : World) : (convert 77 9 (.slice (some ⟨wr.heap.size, 0, none⟩) 1 1)).run Tryz.prog (wr.alloc (.cells #[.int .u8 z] 5)) = .ok (.string ⟨#[c]⟩) (wr.alloc (.cells #[.int .u8 z] 5)) := by
  subst hz
  exact run_convert_bytes_back (P := Tryz.prog) (wr.alloc (.cells #[.int .u8 (c.toNat : Int)] 5)) 77 9 5 ⟨wr.heap.size, 0, none⟩ 1 [c] Tryz.underlying77 Tryz.underlying5 Tryz.underlying9 (fun j hj => by
    have hj0 : j = 0 := by simpa using hj
    subst hj0
    rw [Lib.add_plain, World.cell?_alloc_at _ _ _ _ rfl]
    rfl)
theorem cons_conc (c : UInt8) (l : List UInt8) (h : l.length ≤ 1000) (W : World) : (Op.stringOp .add ⟨#[c]⟩ ⟨l.toArray⟩).run Tryz.prog W = .ok (.string ⟨(c :: l).toArray⟩) W := by
  have e : (⟨#[c]⟩ ++ ⟨l.toArray⟩ : ByteArray) = ⟨(c :: l).toArray⟩ := by
    ext1
    simp
  rw [← e]
  exact run_string_add_sum _ _ _ (by show 1 + l.toArray.size ≤ _; rw [List.size_toArray]; omega)
theorem dg10_nat (v : Int) (h : 0 ≤ v) : 48 + v % 10 = ((dg10 v).toNat : Int) := by
  unfold dg10
  rw [digit_dig _ (by omega)]
  omega
theorem ret_str {a b : List UInt8} (h : a = b) : Ending.returned (.string ⟨a.toArray⟩) = .returned (.string ⟨b.toArray⟩) := by rw [h]
theorem udiv10 (v : Int) (h0 : 0 ≤ v) (h1 : v ≤ 18446744073709551615) : IntKind.u64.wrap (v.tdiv 10) = v / 10 := by
  rw [Int.tdiv_eq_ediv_of_nonneg h0]
  unfold IntKind.wrap
  simp [IntKind.signed, IntKind.bits]
  omega
theorem dec_small (v : Int) (_h0 : 0 ≤ v) (h : v < 10) : decDigits v.toNat = [dg10 v] := by
  rw [decDigits, dif_pos (by omega)]
  unfold dg10
  rw [Nat.mod_eq_of_lt (by omega)]
theorem dec_big (v : Int) (_h0 : 0 ≤ v) (h : ¬ v < 10) : decDigits v.toNat = decDigits (v / 10).toNat ++ [dg10 v] := by
  rw [decDigits, dif_neg (by omega)]
  unfold dg10
  rw [show (v / 10).toNat = v.toNat / 10 from by omega]
set_option maxRecDepth 100000 in
set_option maxHeartbeats 1000000 in
theorem text_walk (n : Int) (h0 : -9223372036854775808 ≤ n) (h1 : n ≤ 9223372036854775807) (w : World) : Calls Tryz.prog 20 #[.int .i64 n] w fun e w' => e = .returned (.string ⟨(Lib.itoa n).toArray⟩) ∧ Below w.heap.size w w' := by
  have HS := Lib.hid (size_any n h0 h1 w)
  have H0 := Lib.hid h0
  have H1 := Lib.hid h1
  clear h0 h1
  go_enter Tryz.func20, Tryz.ntmps20
  go_wp2_with fail
  refine HS.out.mono ?_
  rintro e w' ⟨rfl, rfl⟩
  go_wp2_with fail
  go_loopw [3, 4] (fun u s wr => ∃ (v : Int) (l : List UInt8), 0 ≤ v ∧ Hid (v ≤ 18446744073709551615) ∧ u = .int .u64 v ∧ s = .string ⟨l.toArray⟩ ∧ Hid (decDigits v.toNat ++ l = decDigits n.natAbs) ∧ Below w.heap.size w wr) (fun u _ _ => (RowKit.intOf u).toNat)
  case atStart => exact ⟨n.natAbs, [], by omega, Lib.hid (by have := H0.out; have := H1.out; omega), rfl, rfl, Lib.hid (by simp), Below.refl _ _⟩
  case round =>
    obtain ⟨v, l, v0, v1, rfl, rfl, hd, hb⟩ := hrel
    have hq := udiv10 v v0 v1.out
    have HB := Lib.hid hb
    clear hb
    have hlen : l.length ≤ 21 := by
      have h1 := congrArg List.length hd.out
      have h2 := Lib.itoa_length_le n H0.out H1.out
      have h3 : (decDigits n.natAbs).length ≤ (Lib.itoa n).length := by
        unfold Lib.itoa
        split
        · simp
        · rw [show n.natAbs = n.toNat from by omega]; exact Nat.le_refl _
      rw [List.length_append] at h1
      omega
    have hcv := one_conv (dg10 v) (48 + v % 10) (dg10_nat v v0) wr
    have hadd := fun W => cons_conc (dg10 v) l (by omega) W
    have HL := Lib.hid hlen
    clear hlen
    by_cases hv : v < 10
    · have hz : (v / 10 == 0) = true := by simp only [beq_iff_eq]; omega
      rcases (by omega : n < 0 ∨ 0 ≤ n) with hn | hn
      · have hadd2 := fun W => cons_conc 45 (dg10 v :: l) (by have := HL.out; simp only [List.length_cons]; omega) W
        go_wp2
        go_ret
        refine ⟨ret_str ?_, HB.out.alloc HB.out.size _⟩
        unfold Lib.itoa
        rw [if_pos hn, ← hd.out, dec_small v v0 hv]
        rfl
      · go_wp2
        go_ret
        refine ⟨ret_str ?_, HB.out.alloc HB.out.size _⟩
        unfold Lib.itoa
        rw [if_neg (by omega), show n.toNat = n.natAbs from by omega, ← hd.out, dec_small v v0 hv]
        rfl
    · have hz : (v / 10 == 0) = false := by simp only [beq_eq_false_iff_ne, ne_eq]; omega
      go_wp2
      refine ⟨⟨v / 10, dg10 v :: l, by omega, Lib.hid (by have := v1.out; omega), rfl, rfl, Lib.hid ?_, HB.out.alloc HB.out.size _⟩, ?_⟩
      · rw [← hd.out, dec_big v v0 hv]
        simp
      · simp [RowKit.intOf]
        omega
set_option maxRecDepth 100000 in
theorem refNan_any (f : Nat) (w : World) : Calls Tryz.prog 67 #[.int .u64 (f : Int)] w fun e w' => e = .returned (.bool (nanB f)) ∧ w = w' := by
  obtain ⟨a, ha⟩ : ∃ a : Int, a = (f : Int) := ⟨_, rfl⟩
  have h0 : 0 ≤ a := by omega
  have hn : nanB f = decide (9218868437227405312 < a % 9223372036854775808) := by
    rw [nanB_eq, ha, Bool.eq_iff_iff]
    simp only [decide_eq_true_eq]
    omega
  rw [hn, ← ha]
  clear hn ha
  go_enter Tryz.func67, Tryz.ntmps67
  go_wp2
  go_ret
  exact ⟨rfl, rfl⟩
theorem lit16 (d : Nat) (h : d < (⟨#[48, 49, 50, 51, 52, 53, 54, 55, 56, 57, 97, 98, 99, 100, 101, 102]⟩ : ByteArray).size) : (⟨#[48, 49, 50, 51, 52, 53, 54, 55, 56, 57, 97, 98, 99, 100, 101, 102]⟩ : ByteArray)[d] = hexc d := by
  have hd : d < 16 := h
  have : ∀ d : Fin 16, (⟨#[48, 49, 50, 51, 52, 53, 54, 55, 56, 57, 97, 98, 99, 100, 101, 102]⟩ : ByteArray)[d.1]'d.2 = hexc d.1 := by decide
  exact this ⟨d, hd⟩
theorem conv16 (v : Int) (wr : World) (hs : (v % 16).toNat < (⟨#[48, 49, 50, 51, 52, 53, 54, 55, 56, 57, 97, 98, 99, 100, 101, 102]⟩ : ByteArray).size) :
    (convert 77 9 (.slice (some ⟨wr.heap.size, 0, none⟩) 1 1)).run Tryz.prog (wr.alloc (.cells #[.int .u8 ((⟨#[48, 49, 50, 51, 52, 53, 54, 55, 56, 57, 97, 98, 99, 100, 101, 102]⟩ : ByteArray)[(v % 16).toNat].toNat : Int)] 5)) = .ok (.string ⟨#[hexc (v % 16).toNat]⟩) (wr.alloc (.cells #[.int .u8 ((⟨#[48, 49, 50, 51, 52, 53, 54, 55, 56, 57, 97, 98, 99, 100, 101, 102]⟩ : ByteArray)[(v % 16).toNat].toNat : Int)] 5)) :=
  one_conv _ _ (by rw [lit16]) wr
theorem udiv16 (v : Int) (h0 : 0 ≤ v) (h1 : v ≤ 18446744073709551615) : IntKind.u64.wrap (v.tdiv 16) = v / 16 := by
  rw [Int.tdiv_eq_ediv_of_nonneg h0]
  unfold IntKind.wrap
  simp [IntKind.signed, IntKind.bits]
  omega
set_option maxRecDepth 100000 in
set_option maxHeartbeats 1000000 in
theorem refShow_num (f : Nat) (hf : f < 18446744073709551616) (hn : nanB f = false) (w : World) : Calls Tryz.prog 23 #[.int .u64 (f : Int)] w fun e w' => e = .returned (.string ⟨(digs f 16).toArray⟩) ∧ Below w.heap.size w w' := by
  have HN := Lib.hid (refNan_any f w)
  obtain ⟨a, ha⟩ : ∃ a : Int, a = (f : Int) := ⟨_, rfl⟩
  have HA := Lib.hid ha
  have h0 : 0 ≤ a := by omega
  have HF := Lib.hid hf
  rw [← ha] at HN ⊢
  clear ha hf
  go_enter Tryz.func23, Tryz.ntmps23
  go_wp2_with fail
  refine HN.out.mono ?_
  rintro e w' ⟨rfl, rfl⟩
  rw [hn]
  go_wp2_with fail
  go_loopw [0, 4, 5] (fun u s i wr => ∃ (v : Int) (k : Nat), 0 ≤ v ∧ k ≤ 16 ∧ Hid (v.toNat = f / 16 ^ k ∧ v ≤ 18446744073709551615) ∧ u = .int .u64 v ∧ s = .string ⟨(digs f k).toArray⟩ ∧ i = .int .i64 (k : Int) ∧ Below w.heap.size w wr) (fun _ _ i _ => 16 - (RowKit.intOf i).toNat)
  case atStart => exact ⟨a, 0, h0, by omega, Lib.hid (by have := HA.out; have := HF.out; simp; omega), rfl, rfl, rfl, Below.refl _ _⟩
  case round =>
    obtain ⟨v, k, v0, hk, hv, rfl, rfl, rfl, hb⟩ := hrel
    have HB := Lib.hid hb
    clear hb
    by_cases hlt : k < 16
    · have hcv := conv16 v wr
      have hadd := fun W => cons_conc (hexc (v % 16).toNat) (digs f k) (by rw [digs_length]; omega) W
      have hq := udiv16 v v0 hv.out.2
      go_wp2
      refine ⟨⟨v / 16, k + 1, by omega, by omega, Lib.hid ⟨?_, ?_⟩, rfl, ?_, by go_num, HB.out.alloc HB.out.size _⟩, ?_⟩
      · rw [show (v / 16).toNat = v.toNat / 16 from by omega, hv.out.1, Nat.div_div_eq_div_mul, ← Nat.pow_succ]
      · have := hv.out.2; omega
      · rw [digs, ← hv.out.1, show v.toNat % 16 = (v % 16).toNat from by omega]
      · simp [RowKit.intOf]; omega
    · obtain rfl : k = 16 := by omega
      go_wp2
      go_ret
      exact ⟨rfl, HB.out⟩
set_option maxRecDepth 100000 in
set_option maxHeartbeats 1000000 in
theorem refShow_nan (f : Nat) (hn : nanB f = true) (w : World) : Calls Tryz.prog 23 #[.int .u64 (f : Int)] w fun e w' => e = .returned (.string ⟨nanText.toArray⟩) ∧ Below w.heap.size w w' := by
  have HN := Lib.hid (refNan_any f w)
  obtain ⟨c, hc⟩ : ∃ c : Nat, c = 9221120237041090561 := ⟨_, rfl⟩
  have he : nanText = digs c 16 := by rw [hc]; decide
  have HC := Lib.hid hc
  rw [he]
  clear he hc
  obtain ⟨a, ha⟩ : ∃ a : Int, a = (f : Int) := ⟨_, rfl⟩
  rw [← ha] at HN ⊢
  clear ha
  go_enter Tryz.func23, Tryz.ntmps23
  go_wp2_with fail
  refine HN.out.mono ?_
  rintro e w' ⟨rfl, rfl⟩
  rw [hn]
  go_wp2_with fail
  go_loopw [0, 4, 5] (fun u s i wr => ∃ (v : Int) (k : Nat), 0 ≤ v ∧ k ≤ 16 ∧ Hid (v.toNat = c / 16 ^ k ∧ v ≤ 18446744073709551615) ∧ u = .int .u64 v ∧ s = .string ⟨(digs c k).toArray⟩ ∧ i = .int .i64 (k : Int) ∧ Below w.heap.size w wr) (fun _ _ i _ => 16 - (RowKit.intOf i).toNat)
  case atStart => exact ⟨9221120237041090561, 0, by omega, by omega, Lib.hid (by have := HC.out; simp; omega), rfl, rfl, rfl, Below.refl _ _⟩
  case round =>
    obtain ⟨v, k, v0, hk, hv, rfl, rfl, rfl, hb⟩ := hrel
    have HB := Lib.hid hb
    clear hb
    by_cases hlt : k < 16
    · have hcv := conv16 v wr
      have hadd := fun W => cons_conc (hexc (v % 16).toNat) (digs c k) (by rw [digs_length]; omega) W
      have hq := udiv16 v v0 hv.out.2
      go_wp2
      refine ⟨⟨v / 16, k + 1, by omega, by omega, Lib.hid ⟨?_, ?_⟩, rfl, ?_, by go_num, HB.out.alloc HB.out.size _⟩, ?_⟩
      · rw [show (v / 16).toNat = v.toNat / 16 from by omega, hv.out.1, Nat.div_div_eq_div_mul, ← Nat.pow_succ]
      · have := hv.out.2; omega
      · rw [digs, ← hv.out.1, show v.toNat % 16 = (v % 16).toNat from by omega]
      · simp [RowKit.intOf]; omega
    · obtain rfl : k = 16 := by omega
      go_wp2
      go_ret
      exact ⟨rfl, HB.out⟩
theorem refShow_any (f : Nat) (hf : f < 18446744073709551616) (w : World) : Calls Tryz.prog 23 #[.int .u64 (f : Int)] w fun e w' => e = .returned (.string ⟨(showL f).toArray⟩) ∧ Below w.heap.size w w' := by
  unfold showL
  by_cases hn : nanB f = true
  · rw [if_pos hn]
    exact refShow_nan f hn w
  · rw [if_neg hn]
    exact refShow_num f hf (by simpa using hn) w
end Go.Proofs.YtlinoncoanpcdaaGreatDoor
