/-
  emendlaw09's told, fails AT EVERY TEXT of at most 100000 bytes: what they return; no memory that was there turns. Conditions: the text's length; the variables that are read hold what their text lays (Facts); FSpec.
-/
import Derived.Test.YtfjdhnfghdnmoaaGreatDoorLAwake
namespace Go.Proofs.YtfjdhnfghdnmoaaGreatDoor
open Go.RowKit

variable {FW : World → Prop} {ff : List UInt8 → Nat} {OK : List UInt8 → Prop}
def told1 (t : Tok) : List UInt8 := if t.1 = 7 ∧ t.2.1 = [] then [35, 32] else t.2.1 ++ [32]
def toldL : Except (Nat × Nat) (List Tok) → List UInt8
  | .error _ => [101, 114, 114, 111, 114]
  | .ok ts => ts.flatMap told1
theorem told1_len (t : Tok) : (told1 t).length ≤ t.2.1.length + 2 := by
  unfold told1; split <;> simp
theorem take_flat {α : Type} (f : α → List UInt8) (l : List α) (i : Nat) (t : α) (h : l[i]? = some t) : (l.take (i + 1)).flatMap f = (l.take i).flatMap f ++ f t := by
  obtain ⟨h', e⟩ := List.getElem?_eq_some_iff.1 h
  rw [List.take_succ_eq_append_getElem h', List.flatMap_append, e]; simp
theorem sum_take (l : List Tok) (i : Nat) (t : Tok) (h : l[i]? = some t) : sumX (l.take (i + 1)) = sumX (l.take i) + t.2.1.length := by
  obtain ⟨h', e⟩ := List.getElem?_eq_some_iff.1 h
  rw [List.take_succ_eq_append_getElem h', e]
  generalize l.take i = m
  induction m with
  | nil => simp [sumX]
  | cons a m ih => simp only [List.cons_append, sumX, ih]; omega
theorem sum_le (l : List Tok) (i : Nat) : sumX (l.take i) ≤ sumX l := by
  induction l generalizing i with
  | nil => simp [sumX]
  | cons a m ih =>
    cases i with
    | zero => simp [sumX]
    | succ i => simp only [List.take_succ_cons, sumX]; have := ih i; omega
theorem count_le (ff : List UInt8 → Nat) (l : List UInt8) (ts : List Tok) (h : tokensL ff l = .ok ts) : ts.length ≤ 3 * l.length := by
  have h1 := again_len ff l ts h
  have h2 : ts.length ≤ (agn ts).length := by
    clear h h1
    induction ts with
    | nil => exact Nat.zero_le _
    | cons t us ih =>
      show _ ≤ (agn1 t ++ agn us).length
      have : 1 ≤ (agn1 t).length := by unfold agn1; split <;> simp
      rw [List.length_append, List.length_cons]
      omega
  omega
theorem txt_size (l : List UInt8) : (txt l).size = l.length := rfl
theorem txt_app (a b : List UInt8) : txt a ++ txt b = txt (a ++ b) := by
  apply ByteArray.ext
  rw [ByteArray.data_append]
  simp [txt]
set_option maxRecDepth 100000 in
set_option maxHeartbeats 1000000 in
theorem told_any (hS : FSpec FW ff OK) (s : ByteArray) (hs : s.size ≤ 100000) (hO : floatsOk OK s) (w : World) (hF : Facts w) (hW : FW w) : Calls Tryz.prog 21 #[.string s] w fun e w' => e = .returned (.string (txt (toldL (tokensL ff s.data.toList)))) ∧ Below w.heap.size w w' := by
  obtain ⟨R, hR⟩ : ∃ R, R = tokensL ff s.data.toList := ⟨_, rfl⟩
  rw [← hR]
  cases R with
  | error x =>
    obtain ⟨k, e0⟩ := x
    have HT := Lib.hid (tokens_no hS s (by omega) hO k e0 hR.symm w hF hW)
    have he : e0 ≠ 0 := by
      have := hR.symm
      unfold tokensL at this
      split at this
      · injection this with this; injection this with _ e2; omega
      · split at this
        · injection this with this; injection this with _ e2; omega
        · exact (lexF_place ff _ _ (Nat.lt_succ_self _) [] 0 k e0 this).2.2
    have q1 : (((e0 : Nat) : Int) == 0) = false := by simp only [beq_eq_false_iff_ne, ne_eq]; omega
    have q2 : (((e0 : Nat) : Int) != 0) = true := by simp only [bne_iff_ne, ne_eq]; omega
    clear hR hS hF hW hO he
    go_enter Tryz.func21, Tryz.ntmps21
    go_wp2_with fail
    refine HT.out.mono ?_
    rintro e w1 ⟨A, cap, rfl, hb⟩
    have HB := Lib.hid hb
    clear hb
    go_wp2_with fail
    go_ret
    exact ⟨rfl, HB.out⟩
  | ok ts =>
    have HT := Lib.hid (tokens_ok hS s (by omega) hO ts hR.symm w hF hW)
    have hsum := (tokens_WF ff _ ts hR.symm).2
    have hcnt := count_le ff _ ts hR.symm
    have hsz : s.data.toList.length = s.size := rfl
    rw [hsz] at hsum hcnt
    have HSUM := Lib.hid (fun i => sum_le ts i)
    obtain ⟨N, hN⟩ : ∃ N, ts.length = N := ⟨_, rfl⟩
    have HN := Lib.hid hN
    rw [hN] at HT hcnt
    clear hR hS hF hW hO hsz hN
    have HSS := Lib.hid hsum
    clear hsum
    go_enter Tryz.func21, Tryz.ntmps21
    go_wp2_with fail
    refine HT.out.mono ?_
    rintro e w1 ⟨A, cap, rfl, hr, hb⟩
    have HB := Lib.hid hb
    have HRD := Lib.hid hr
    clear hb hr
    go_wp2_with fail
    go_loop [6, 7] (fun o u => ∃ (i : Nat) (b : ByteArray), i ≤ N ∧ u = .int .i64 i ∧ o = .string b ∧ Hid (b = txt ((ts.take i).flatMap told1)) ∧ Hid (b.size ≤ sumX (ts.take i) + 2 * i)) (fun _ u => N - (intOf u).toNat)
    case atStart => exact ⟨0, ⟨#[]⟩, Nat.zero_le _, rfl, rfl, Lib.hid rfl, Lib.hid (Nat.zero_le _)⟩
    case round =>
      obtain ⟨i, b, hi, rfl, rfl, hbt, hbs⟩ := hrel
      by_cases hlt : i < N
      · obtain ⟨t, ht⟩ : ∃ t, ts[i]? = some t := ⟨_, List.getElem?_eq_getElem (by have := HN.out; omega)⟩
        obtain ⟨g, rfl, hc⟩ := HRD.out (by have := HN.out; omega)
        obtain ⟨c0, c1, c2, c3⟩ := hc i t ht
        have hst := sum_take ts i t ht
        have hle := HSUM.out (i + 1)
        rw [hst] at hle
        have hb1 : b.size ≤ 800000 := by have := hbs.out; have := HSS.out; omega
        have hx1 : t.2.1.length ≤ 100000 := by have := HSS.out; omega
        have hfl := take_flat told1 ts i t ht
        have HFL := Lib.hid hfl
        have HST := Lib.hid hst
        clear hc c2 c3 hle hst hfl ht
        obtain ⟨q, x, a, d⟩ := t
        simp only at c0 c1 hx1
        have hxs : (txt x).size ≤ 100000 := hx1
        clear hx1
        have hemp : (txt x).toList.isEmpty = x.isEmpty := by rw [txt_list]
        by_cases hsemi : q = 7 ∧ x = []
        · obtain ⟨rfl, rfl⟩ := hsemi
          have HB2 : Hid (b ++ ⟨#[35, 32]⟩ = txt ((ts.take (i + 1)).flatMap told1)) := Lib.hid (by
            rw [HFL.out, ← txt_app, hbt.out]; rfl)
          have HS2 : Hid ((b ++ ⟨#[35, 32]⟩ : ByteArray).size ≤ sumX (ts.take (i + 1)) + 2 * (i + 1)) := Lib.hid (by
            rw [HST.out, ByteArray.size_append]
            have := hbs.out
            have e2 : (⟨#[35, 32]⟩ : ByteArray).size = 2 := rfl
            rw [e2]; simp only [List.length_nil]; omega)
          have e1 : txt [] = ⟨#[]⟩ := rfl
          rw [e1] at c1
          clear hemp hxs e1
          go_wp2_with fail
          refine ⟨⟨i + 1, _, by omega, by go_num, rfl, HB2, HS2⟩, ?_⟩
          simp [RowKit.intOf]; omega
        · have hx0 : ∀ h7 : q = 7, x.isEmpty = false := fun h7 => by
            cases x with
            | nil => exact absurd ⟨h7, rfl⟩ hsemi
            | cons _ _ => rfl
          have HB2 : Hid (b ++ txt x ++ ⟨#[32]⟩ = txt ((ts.take (i + 1)).flatMap told1)) := Lib.hid (by
            have e1 : told1 (q, x, a, d) = x ++ [32] := by unfold told1; rw [if_neg hsemi]
            rw [HFL.out, ← txt_app, hbt.out, e1, ← txt_app, ByteArray.append_assoc]; rfl)
          have HS2 : Hid ((b ++ txt x ++ ⟨#[32]⟩ : ByteArray).size ≤ sumX (ts.take (i + 1)) + 2 * (i + 1)) := Lib.hid (by
            rw [HST.out, ByteArray.size_append, ByteArray.size_append, txt_size]
            simp only
            have := hbs.out
            have e2 : (⟨#[32]⟩ : ByteArray).size = 1 := rfl
            rw [e2]; omega)
          by_cases h7 : q = 7
          · have hx0 := hx0 h7
            rw [hx0] at hemp
            have q7 : (((q : Nat) : Int) == 7) = true := by simp only [beq_iff_eq]; omega
            clear hsemi h7 hx0
            generalize txt x = xb at *
            go_wp2_with fail
            refine ⟨⟨i + 1, _, by omega, by go_num, rfl, HB2, HS2⟩, ?_⟩
            simp [RowKit.intOf]; omega
          · have q7 : (((q : Nat) : Int) == 7) = false := by simp only [beq_eq_false_iff_ne, ne_eq]; omega
            clear hsemi h7 hx0 hemp
            generalize txt x = xb at *
            go_wp2_with fail
            refine ⟨⟨i + 1, _, by omega, by go_num, rfl, HB2, HS2⟩, ?_⟩
            simp [RowKit.intOf]; omega
      · have HV : Hid (b = txt (toldL (.ok ts))) := Lib.hid (by
          rw [hbt.out, List.take_of_length_le (by have := HN.out; omega)]; rfl)
        clear hbt hbs
        go_wp2_with fail
        go_ret
        rw [HV.out]
        exact ⟨rfl, HB.out⟩
set_option maxRecDepth 100000 in
set_option maxHeartbeats 1000000 in
/-- A text that has an error, at a place. -/
theorem fails_any (hS : FSpec FW ff OK) (s : ByteArray) (hs : s.size ≤ 1000000) (hO : floatsOk OK s) (k e0 : Nat) (h : tokensL ff s.data.toList = .error (k, e0)) (w : World) (hF : Facts w) (hW : FW w) : Calls Tryz.prog 22 #[.string s, .int .i64 (k : Int), .int .i64 (e0 : Int)] w fun e w' => e = .returned (.bool true) ∧ Below w.heap.size w w' := by
  have HT := Lib.hid (tokens_no hS s hs hO k e0 h w hF hW)
  have qk : (((k : Nat) : Int) == ((k : Nat) : Int)) = true := by simp
  have qe : (((e0 : Nat) : Int) == ((e0 : Nat) : Int)) = true := by simp
  clear h hS hF hW hO
  go_enter Tryz.func22, Tryz.ntmps22
  go_wp2_with fail
  refine HT.out.mono ?_
  rintro e w1 ⟨A, cap, rfl, hb⟩
  have HB := Lib.hid hb
  clear hb
  go_wp2_with fail
  go_ret
  exact ⟨rfl, HB.out⟩
end Go.Proofs.YtfjdhnfghdnmoaaGreatDoor
