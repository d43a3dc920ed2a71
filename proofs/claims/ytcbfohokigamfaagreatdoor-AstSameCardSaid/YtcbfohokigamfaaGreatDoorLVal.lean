/-
  lexer's Value, fault AT EVERY TEXT of at most 1000000 bytes: what they return; no memory that was there turns. Conditions: the text's length; the variables that are read hold what their text lays (Facts); of fault, what num.Float says of floats (FSpec).
-/
import Derived.Test.YtcbfohokigamfaaGreatDoorLPast
namespace Go.Proofs.YtcbfohokigamfaaGreatDoor
open Go.RowKit

def valV : Except Nat (List UInt8) → Value
  | .error e => .tuple #[.string ⟨#[]⟩, .int .i64 (e : Int)]
  | .ok v => .tuple #[.string ⟨v.toArray⟩, .int .i64 0]
def valE : Except Nat (List UInt8) → Nat
  | .error e => e
  | .ok _ => 0
theorem valF_eq (x : List UInt8) : valF x = valE (valR x) := by
  unfold valF
  cases valR x <;> rfl
theorem valV_shape (o : Except Nat (List UInt8)) : ∃ x, valV o = .tuple #[.string x, .int .i64 (valE o : Int)] := by
  cases o with
  | error e => exact ⟨_, rfl⟩
  | ok v => exact ⟨_, rfl⟩
theorem ret_si {x y : ByteArray} {a b : Int} (h : x = y) (g : a = b) : Ending.returned (.tuple #[.string x, .int .i64 a]) = .returned (.tuple #[.string y, .int .i64 b]) := by rw [h, g]
set_option maxRecDepth 100000 in
set_option maxHeartbeats 1000000 in
theorem value_any (s : ByteArray) (hs : s.size ≤ 1000000) (w : World) (hF : Facts w) : Calls Tryz.prog 47 #[.string s] w fun e w' => e = .returned (valV (valR s.data.toList)) ∧ Below w.heap.size w w' := by
  have hsz : s.data.toList.length = s.size := rfl
  have HU := Lib.hid (unquoted_any s 0 (Nat.zero_le _) hs w)
  rw [rest_zero] at HU
  have HF := Lib.hid hF
  have HP := Lib.hid (fun (w : World) (h : Facts w) => pastUTF8_any s w h)
  have hg := good_le s.data.toList
  rw [hsz] at hg
  unfold valR
  rw [hsz]
  clear hF hsz
  cases hu : uqS s.data.toList with
  | none =>
    rw [hu] at HU
    unfold UqEnd at HU
    simp only [valV] at HU ⊢
    clear hu HP
    go_enter Tryz.func47, Tryz.ntmps47
    go_wp2_with fail
    refine HU.out.mono ?_
    rintro e w1 ⟨rfl, hb⟩
    have HB := Lib.hid hb
    clear hb
    go_wp2_with fail
    go_ret2
    exact ⟨rfl, HB.out⟩
  | some p =>
    obtain ⟨v, n⟩ := p
    have hn := uqS_len hu
    rw [hu] at HU
    unfold UqEnd at HU
    simp only [Nat.zero_add] at HU
    simp only
    obtain ⟨hn1, hn2, hn3⟩ := hn
    have hn2 : n ≤ s.size := hn2
    have q0 : (((n : Nat) : Int) == 0) = false := by simp only [beq_eq_false_iff_ne, ne_eq]; omega
    clear hu
    generalize good s.data.toList = g at *
    by_cases h1 : n < s.size
    · rw [if_pos (.inl h1)]
      have q1 : decide ((n : Int) < (s.size : Int)) = true := by rw [decide_eq_true_eq]; omega
      simp only [valV]
      clear HP
      go_enter Tryz.func47, Tryz.ntmps47
      go_wp2_with fail
      refine HU.out.mono ?_
      rintro e w1 ⟨v1, rfl, hown, hb⟩
      obtain ⟨A, cp, rfl⟩ := slice_form hown
      have HB := Lib.hid hb
      clear hb hown
      go_wp2_with fail
      go_ret2
      exact ⟨rfl, HB.out⟩
    · have q1 : decide ((n : Int) < (s.size : Int)) = false := by rw [decide_eq_false_iff_not]; omega
      by_cases h2 : g < s.size
      · rw [if_pos (.inr h2)]
        have q2 : decide ((g : Int) < (s.size : Int)) = true := by rw [decide_eq_true_eq]; omega
        simp only [valV]
        go_enter Tryz.func47, Tryz.ntmps47
        go_wp2_with fail
        refine HU.out.mono ?_
        rintro e w1 ⟨v1, rfl, hown, hb⟩
        obtain ⟨A, cp, rfl⟩ := slice_form hown
        have HB := Lib.hid hb
        clear hb hown
        go_wp2_with fail
        refine (HP.out _ (HF.out.below HB.out)).mono ?_
        rintro e w2 ⟨rfl, hb2⟩
        have HB2 := Lib.hid (HB.out.trans (hb2.mono HB.out.size))
        clear hb2
        go_wp2_with fail
        go_ret2
        exact ⟨rfl, HB2.out⟩
      · rw [if_neg (by omega)]
        have q2 : decide ((g : Int) < (s.size : Int)) = false := by rw [decide_eq_false_iff_not]; omega
        by_cases h3 : 4096 < v.length
        · rw [if_pos h3]
          have q3 : decide (4096 < (v.length : Int)) = true := by rw [decide_eq_true_eq]; omega
          simp only [valV]
          go_enter Tryz.func47, Tryz.ntmps47
          go_wp2_with fail
          refine HU.out.mono ?_
          rintro e w1 ⟨v1, rfl, hown, hb⟩
          obtain ⟨A, cp, rfl⟩ := slice_form hown
          have HB := Lib.hid hb
          clear hb hown
          go_wp2_with fail
          refine (HP.out _ (HF.out.below HB.out)).mono ?_
          rintro e w2 ⟨rfl, hb2⟩
          have HB2 := Lib.hid (HB.out.trans (hb2.mono HB.out.size))
          clear hb2
          go_wp2_with fail
          go_ret2
          exact ⟨rfl, HB2.out⟩
        · rw [if_neg h3]
          have q3 : decide (4096 < (v.length : Int)) = false := by rw [decide_eq_false_iff_not]; omega
          simp only [valV]
          go_enter Tryz.func47, Tryz.ntmps47
          go_wp2_with fail
          refine HU.out.mono ?_
          rintro e w1 ⟨v1, rfl, hown, hb⟩
          obtain ⟨A, cp, rfl⟩ := slice_form hown
          have HB := Lib.hid hb
          have HO := Lib.hid hown
          clear hb hown
          go_wp2_with fail
          refine (HP.out _ (HF.out.below HB.out)).mono ?_
          rintro e w2 ⟨rfl, hb2⟩
          have hcv := str_conv (ownsRow_below HO.out hb2)
          have HB2 := Lib.hid (HB.out.trans (hb2.mono HB.out.size))
          clear hb2
          go_wp2_with fail
          go_ret2
          exact ⟨rfl, HB2.out⟩
/-- What num.Float says of some floats, in worlds of a kind. -/
structure FSpec (FW : World → Prop) (ff : List UInt8 → Nat) (OK : List UInt8 → Prop) : Prop where
  keep : ∀ w w', FW w → Below w.heap.size w w' → FW w'
  ask : ∀ x : ByteArray, OK x.data.toList → ∀ w, FW w → Calls Tryz.prog 131 #[.string x] w fun e w' => ∃ v : Value, e = .returned (.tuple #[v, .int .i64 (ff x.data.toList : Int)]) ∧ Below w.heap.size w w'
set_option maxRecDepth 100000 in
set_option maxHeartbeats 1000000 in
theorem fault_any {FW : World → Prop} {ff : List UInt8 → Nat} {OK : List UInt8 → Prop} (hS : FSpec FW ff OK) (q : Nat) (h1 : 1 ≤ q) (h7 : q ≤ 7) (s : ByteArray) (hs : s.size ≤ 1000000) (hO : q = 4 → OK s.data.toList) (w : World) (hF : Facts w) (hW : FW w) : Calls Tryz.prog 101 #[.int .i64 (q : Int), .string s] w fun e w' => e = .returned (.int .i64 (faultF ff q s.data.toList : Int)) ∧ Below w.heap.size w w' := by
  unfold faultF
  have hc : q = 1 ∨ q = 3 ∨ q = 4 ∨ q = 5 ∨ q = 2 ∨ q = 6 ∨ q = 7 := by omega
  clear h1 h7
  rcases hc with rfl | rfl | rfl | rfl | hc
  · rw [if_pos rfl]
    have HN := Lib.hid (fun w => nameFault_any s w)
    generalize nameF s.data.toList = z at *
    go_enter Tryz.func101, Tryz.ntmps101
    go_wp2_with fail
    refine (HN.out _).mono ?_
    rintro e w1 ⟨rfl, rfl⟩
    go_wp2_with fail
    go_ret
    exact ⟨rfl, Below.refl _ _⟩
  · rw [if_neg (by omega), if_pos rfl]
    have HN := Lib.hid (int_any s hs w hF.rng)
    generalize intF s.data.toList = z at *
    go_enter Tryz.func101, Tryz.ntmps101
    go_wp2_with fail
    refine HN.out.mono ?_
    rintro e w1 ⟨n, rfl, hb⟩
    have HB := Lib.hid hb
    clear hb
    go_wp2_with fail
    go_ret
    exact ⟨rfl, HB.out⟩
  · rw [if_neg (by omega), if_neg (by omega), if_pos rfl]
    have HN := Lib.hid (hS.ask s (hO rfl) w hW)
    generalize ff s.data.toList = z at *
    clear hS hO hW hF
    go_enter Tryz.func101, Tryz.ntmps101
    go_wp2_with fail
    refine HN.out.mono ?_
    rintro e w1 ⟨v, rfl, hb⟩
    have HB := Lib.hid hb
    clear hb
    go_wp2_with fail
    go_ret
    exact ⟨rfl, HB.out⟩
  · rw [if_neg (by omega), if_neg (by omega), if_neg (by omega), if_pos rfl]
    have HN := Lib.hid (value_any s hs w hF)
    rw [valF_eq]
    obtain ⟨x, hx⟩ := valV_shape (valR s.data.toList)
    rw [hx] at HN
    generalize valE (valR s.data.toList) = z at *
    clear hx hF hW hS hO
    go_enter Tryz.func101, Tryz.ntmps101
    go_wp2_with fail
    refine HN.out.mono ?_
    rintro e w1 ⟨rfl, hb⟩
    have HB := Lib.hid hb
    clear hb
    go_wp2_with fail
    go_ret
    exact ⟨rfl, HB.out⟩
  · rw [if_neg (by omega), if_neg (by omega), if_neg (by omega), if_neg (by omega)]
    clear hS hO hW hF
    rcases hc with rfl | rfl | rfl
    all_goals
      go_enter Tryz.func101, Tryz.ntmps101
      go_wp2_with fail
      go_ret
      exact ⟨rfl, Below.refl _ _⟩
end Go.Proofs.YtcbfohokigamfaaGreatDoor
