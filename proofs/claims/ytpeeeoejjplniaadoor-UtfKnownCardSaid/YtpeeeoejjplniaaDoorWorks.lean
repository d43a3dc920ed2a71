/-
  THE CLOSED PART THAT EVERY LAW OF THIS SEAT ASKS (emendlaw02.works), and its helpers long, smile, is, no: what they return; no memory that was there turns. Condition of works and is: unicode/utf8's two tables are as their text lays them (Utf8Tabs).
-/
import Derived.Test.YtpeeeoejjplniaaDoorDec
import Derived.KernelRfl
namespace Go.Proofs.YtpeeeoejjplniaaDoor
open Go.RowKit

def unitsF : Nat → List UInt8 → Nat
  | 0, _ => 0
  | f + 1, l => if l = [] then 0 else un l + unitsF f (l.drop (wd l))
def validF : Nat → List UInt8 → Bool
  | 0, _ => true
  | f + 1, l => if l = [] then true else decide (0 ≤ pt l) && validF f (l.drop (wd l))
def byteF : Nat → List UInt8 → Int → Nat
  | 0, _, _ => 0
  | f + 1, l, u => if l = [] then 0 else if u < un l then 0 else wd l + byteF f (l.drop (wd l)) (u - un l)
def unitsAtF : Nat → List UInt8 → Int → Nat
  | 0, _, _ => 0
  | f + 1, l, a => if l = [] then 0 else if a < wd l then 0 else un l + unitsAtF f (l.drop (wd l)) (a - wd l)
theorem nil_of_zero {l : List UInt8} (h : l.length ≤ 0) : l = [] := List.eq_nil_of_length_eq_zero (by omega)
theorem unitsF_eq : ∀ (f : Nat) (l : List UInt8), l.length ≤ f → units l = unitsF f l
  | 0, l, h => by rw [nil_of_zero h, units_nil]; rfl
  | f + 1, l, h => by
    by_cases hl : l = []
    · rw [hl, units_nil]; rfl
    · rw [units_cons l hl, unitsF, if_neg hl, unitsF_eq f _ (by have := drop_lt l hl; omega)]
theorem validF_eq : ∀ (f : Nat) (l : List UInt8), l.length ≤ f → valid l = validF f l
  | 0, l, h => by rw [nil_of_zero h, valid_nil]; rfl
  | f + 1, l, h => by
    by_cases hl : l = []
    · rw [hl, valid_nil]; rfl
    · rw [valid_cons l hl, validF, if_neg hl, validF_eq f _ (by have := drop_lt l hl; omega)]
theorem byteF_eq : ∀ (f : Nat) (l : List UInt8) (u : Int), l.length ≤ f → byteAt l u = byteF f l u
  | 0, l, u, h => by rw [nil_of_zero h, byteAt_nil]; rfl
  | f + 1, l, u, h => by
    by_cases hl : l = []
    · rw [hl, byteAt_nil]; rfl
    · rw [byteF, if_neg hl]
      by_cases hu : u < un l
      · rw [byteAt_lt l u hl hu, if_pos hu]
      · rw [byteAt_ge l u hl hu, if_neg hu, byteF_eq f _ _ (by have := drop_lt l hl; omega)]
theorem unitsAtF_eq : ∀ (f : Nat) (l : List UInt8) (u : Int), l.length ≤ f → unitsAt l u = unitsAtF f l u
  | 0, l, u, h => by rw [nil_of_zero h, unitsAt_nil]; rfl
  | f + 1, l, u, h => by
    by_cases hl : l = []
    · rw [hl, unitsAt_nil]; rfl
    · rw [unitsAtF, if_neg hl]
      by_cases hu : u < wd l
      · rw [unitsAt_lt l u hl hu, if_pos hu]
      · rw [unitsAt_ge l u hl hu, if_neg hu, unitsAtF_eq f _ _ (by have := drop_lt l hl; omega)]

theorem long_no (s : ByteArray) (h : s.size ≤ 5000) (w : World) : Calls Tryd.prog 10 #[.string s] w fun e w' => e = .returned (.bool false) ∧ w = w' := by
  have d : decide (5000 < (s.size : Int)) = false := by simp; omega
  go_enter Tryd.func10, Tryd.ntmps10
  go_wp2_with fail
  go_ret
  exact ⟨by simp, rfl⟩
theorem long_yes (s : ByteArray) (h : 5000 < s.size) (w : World) : Calls Tryd.prog 10 #[.string s] w fun e w' => e = .returned (.bool true) ∧ w = w' := by
  have d : decide (5000 < (s.size : Int)) = true := by simp; omega
  go_enter Tryd.func10, Tryd.ntmps10
  go_wp2_with fail
  go_ret
  exact ⟨by simp, rfl⟩
theorem smile_any (w : World) : Calls Tryd.prog 27 #[] w fun e w' => e = .returned (.string ⟨#[97, 240, 159, 152, 128, 195, 169]⟩) ∧ w = w' := by
  go_enter Tryd.func27, Tryd.ntmps27
  go_wp2_with fail
  go_ret
  exact ⟨rfl, rfl⟩
theorem smile_dec (w : World) (hT : Lib.Utf8Tabs 0 1 w) : Calls Tryd.prog 12 #[.string ⟨#[97, 240, 159, 152, 128, 195, 169]⟩, .int .i64 1] w fun e w' => e = .returned (.tuple #[.int .i64 128512, .int .i64 4]) ∧ Below w.heap.size w w' := by
  have h := decode_any ⟨#[97, 240, 159, 152, 128, 195, 169]⟩ 1 w hT
  rw [show decP ⟨#[97, 240, 159, 152, 128, 195, 169]⟩ 1 = 128512 by kernel_rfl, show decW ⟨#[97, 240, 159, 152, 128, 195, 169]⟩ 1 = 4 by kernel_rfl] at h
  exact h
theorem euro_enc (w : World) : Calls Tryd.prog 16 #[.int .i64 8364] w fun e w' => e = .returned (.tuple #[.string ⟨#[226, 130, 172]⟩, .int .i64 0]) ∧ w = w' := by
  have h := enc_yes 8364 (by kernel_rfl) w
  rw [show (⟨(encL (Int.toNat 8364)).toArray⟩ : ByteArray) = ⟨#[226, 130, 172]⟩ by kernel_rfl] at h
  exact h
theorem smile_units (w : World) : Calls Tryd.prog 18 #[.string ⟨#[97, 240, 159, 152, 128, 195, 169]⟩] w fun e w' => e = .returned (.int .i64 4) ∧ Below w.heap.size w w' := by
  have h := units_any ⟨#[97, 240, 159, 152, 128, 195, 169]⟩ (by decide) w
  rw [unitsF_eq 7 _ (by decide), show unitsF 7 (⟨#[97, 240, 159, 152, 128, 195, 169]⟩ : ByteArray).data.toList = 4 by kernel_rfl] at h
  exact h
theorem smile_byte (u : Int) (k : Nat) (hk : byteF 7 [97, 240, 159, 152, 128, 195, 169] u = k) (w : World) : Calls Tryd.prog 20 #[.string ⟨#[97, 240, 159, 152, 128, 195, 169]⟩, .int .i64 u] w fun e w' => e = .returned (.int .i64 k) ∧ Below w.heap.size w w' := by
  have h := byte_any ⟨#[97, 240, 159, 152, 128, 195, 169]⟩ u (by decide) w
  rw [byteF_eq 7 _ _ (by decide), show byteF 7 (⟨#[97, 240, 159, 152, 128, 195, 169]⟩ : ByteArray).data.toList u = k from hk] at h
  exact h
theorem smile_unitsAt (u : Int) (k : Nat) (hk : unitsAtF 7 [97, 240, 159, 152, 128, 195, 169] u = k) (w : World) : Calls Tryd.prog 22 #[.string ⟨#[97, 240, 159, 152, 128, 195, 169]⟩, .int .i64 u] w fun e w' => e = .returned (.int .i64 k) ∧ Below w.heap.size w w' := by
  have h := unitsAt_any ⟨#[97, 240, 159, 152, 128, 195, 169]⟩ u (by decide) w
  rw [unitsAtF_eq 7 _ _ (by decide), show unitsAtF 7 (⟨#[97, 240, 159, 152, 128, 195, 169]⟩ : ByteArray).data.toList u = k from hk] at h
  exact h
set_option maxRecDepth 100000 in
set_option maxHeartbeats 1000000 in
theorem works_any (w : World) (hT : Lib.Utf8Tabs 0 1 w) : Calls Tryd.prog 11 #[] w fun e w' => e = .returned (.bool true) ∧ Below w.heap.size w w' := by
  have HT := Lib.hid hT
  clear hT
  go_enter Tryd.func11, Tryd.ntmps11
  go_wp2_with fail
  refine (smile_any _).mono ?_
  rintro e w' ⟨rfl, rfl⟩
  go_wp2_with fail
  refine (smile_dec _ HT.out).mono ?_
  rintro e w1 ⟨rfl, k1⟩
  have B1 := Lib.hid k1
  clear k1
  go_wp2_with fail
  refine (euro_enc _).mono ?_
  rintro e w' ⟨rfl, rfl⟩
  go_wp2_with fail
  refine (smile_any _).mono ?_
  rintro e w' ⟨rfl, rfl⟩
  go_wp2_with fail
  refine (smile_units _).mono ?_
  rintro e w2 ⟨rfl, k2⟩
  have B2 := Lib.hid (B1.out.trans (k2.mono B1.out.size))
  clear k2 B1
  go_wp2_with fail
  refine (smile_any _).mono ?_
  rintro e w' ⟨rfl, rfl⟩
  go_wp2_with fail
  refine (smile_byte 2 1 (by kernel_rfl) _).mono ?_
  rintro e w3 ⟨rfl, k3⟩
  have B3 := Lib.hid (B2.out.trans (k3.mono B2.out.size))
  clear k3 B2
  go_wp2_with fail
  refine (smile_any _).mono ?_
  rintro e w' ⟨rfl, rfl⟩
  go_wp2_with fail
  refine (smile_unitsAt 4 1 (by kernel_rfl) _).mono ?_
  rintro e w4 ⟨rfl, k4⟩
  have B4 := Lib.hid (B3.out.trans (k4.mono B3.out.size))
  clear k4 B3
  go_wp2_with fail
  go_ret
  exact ⟨rfl, B4.out⟩
end Go.Proofs.YtpeeeoejjplniaaDoor
