/-
  frame's lengthOf AT EVERY TEXT. No memory that was there turns. Conditions: the text's length; what the variables that are read hold (Facts).
-/
import Derived.Test.YtmaihiklcdidbaaDoorFold
import Derived.Shelf.Strings.SlTrimAscii
namespace Go.Proofs.YtmaihiklcdidbaaDoor
open Go.RowKit

theorem decA_ge : ∀ (l : List UInt8) (a : Nat), a ≤ decA a l
  | [], a => Nat.le_refl _
  | c :: l, a => by
    rw [decA_cons]
    have := decA_ge l (a * 10 + (c.toNat - 48))
    omega
theorem parse_dec : ∀ (l : List UInt8) (a : Nat), l.all isDig = true → (a + 1) * 10 ^ l.length ≤ 10 ^ 18 → Lib.parseUintM (2 ^ 64 - 1) a l = .ok (decA a l) ∧ decA a l + 1 ≤ 10 ^ 18
  | [], a, _, h => by
    rw [Lib.parseUintM, decA_nil]
    exact ⟨rfl, by simpa using h⟩
  | c :: l, a, hd, h => by
    rw [List.all_cons, Bool.and_eq_true] at hd
    have hc : 48 ≤ c.toNat ∧ c.toNat ≤ 57 := by
      have := hd.1
      unfold isDig at this
      simpa using this
    rw [List.length_cons, Nat.pow_succ] at h
    have hp : 1 ≤ 10 ^ l.length := Nat.pow_pos (by omega)
    have h2 : (a + 1) * (10 ^ l.length * 10) = (a * 10 + 10) * 10 ^ l.length := by
      rw [Nat.mul_comm (10 ^ l.length) 10, ← Nat.mul_assoc, Nat.add_mul]
    have h3 : (a * 10 + (c.toNat - 48) + 1) * 10 ^ l.length ≤ 10 ^ 18 := Nat.le_trans (Nat.mul_le_mul_right _ (show a * 10 + (c.toNat - 48) + 1 ≤ a * 10 + 10 by omega)) (by rw [← h2]; exact h)
    have ha : a * 10 + (c.toNat - 48) + 1 ≤ 10 ^ 18 := Nat.le_trans (by have := Nat.mul_le_mul_left (a * 10 + (c.toNat - 48) + 1) hp; rw [Nat.mul_one] at this; exact this) h3
    rw [Lib.parseUintM, if_pos hc, if_neg (by omega), if_neg (by omega), decA_cons]
    exact parse_dec l _ hd.2 h3
theorem parse_int (l : List UInt8) (h0 : l ≠ []) (hd : l.all isDig = true) (hl : l.length ≤ 18) : Lib.parseIntB 64 l = .ok (decA 0 l : Nat) := by
  cases l with
  | nil => exact absurd rfl h0
  | cons c r =>
    have hc : 48 ≤ c.toNat ∧ c.toNat ≤ 57 := by
      rw [List.all_cons, Bool.and_eq_true] at hd
      have := hd.1
      unfold isDig at this
      simpa using this
    have hp : 10 ^ (c :: r).length ≤ 10 ^ 18 := Nat.pow_le_pow_right (by omega) hl
    obtain ⟨h1, h2⟩ := parse_dec (c :: r) 0 hd (by rw [Nat.zero_add, Nat.one_mul]; exact hp)
    rw [Lib.parseIntB]
    rw [if_neg (by omega), Lib.parseUintB, if_neg (by simp), h1]
    simp only
    have hn : ¬ c.toNat = 45 := by omega
    rw [if_neg (by omega), if_neg (by omega), if_neg hn]
theorem dropWhile_all {p : UInt8 → Bool} {l : List UInt8} : l.dropWhile p = [] ↔ l.all p = true := by
  induction l with
  | nil => simp
  | cons c l ih =>
    rw [List.dropWhile_cons, List.all_cons]
    cases p c with
    | true => simpa using ih
    | false => simp
theorem dig_in (c : UInt8) : ([48, 49, 50, 51, 52, 53, 54, 55, 56, 57] : List UInt8).contains c = isDig c := by
  have : ∀ c : Fin 256, ([48, 49, 50, 51, 52, 53, 54, 55, 56, 57] : List UInt8).contains (UInt8.ofNat c.val) = isDig (UInt8.ofNat c.val) := by decide +kernel
  have h := this ⟨c.toNat, c.toNat_lt⟩
  rwa [show UInt8.ofNat c.toNat = c from UInt8.ofNat_toNat] at h
def digSet : ByteArray := ⟨#[48, 49, 50, 51, 52, 53, 54, 55, 56, 57]⟩
theorem set_info : (Tryd.prog.info? 101).map (fun i => (i.zero, i.size)) = some (some (.agg (Array.replicate 256 (.bool false))), 256) := by kernel_rfl
theorem trimDig_any (s : ByteArray) (w : World) : Calls Tryd.prog 48 #[.string s, .string digSet] w fun e w' => e = .returned (.string ⟨(Lib.trimLeftS s.data.toList digSet.data.toList).toArray⟩) ∧ Below w.heap.size w w' :=
  Any.strings_TrimLeft_laid Tryd.lays161 set_info s digSet w (by decide) (fun j b h => by
    have : ∀ c ∈ digSet.data.toList, c.toNat < 128 := by decide
    exact this b (List.mem_of_getElem? h))
/-- What lengthOf hands back. -/
def numV (o : Option Nat) : Value := .tuple #[.int .i64 ((o.getD 0 : Nat) : Int), .bool o.isSome]
theorem isEmpty_of (l : List UInt8) : (⟨l.toArray⟩ : ByteArray).toList.isEmpty = l.isEmpty := by rw [Lib.toList_data]
set_option maxRecDepth 100000 in
set_option maxHeartbeats 1000000 in
theorem lengthOf_any (s : ByteArray) (w : World) (hF : Facts w) :
    Calls Tryd.prog 39 #[.string s] w fun e w' => e = .returned (numV (numP s.data.toList)) ∧ Below w.heap.size w w' := by
  have HF := Lib.hid hF
  clear hF
  obtain ⟨d, hd⟩ : ∃ d, d = Lib.trimLeftB s.data.toList 32 := ⟨_, rfl⟩
  have HT : Hid (∀ w, Calls Tryd.prog 48 #[.string s, .string ⟨#[32]⟩] w fun e w' => e = .returned (.string ⟨d.toArray⟩) ∧ w = w') := Lib.hid (fun w => by
    have := Tryd.strings_TrimLeft_one s 32 (by decide) w
    rw [← hd] at this
    exact this.mono fun e w' ⟨h1, h2⟩ => ⟨h1, h2.symm⟩)
  have hn : numP s.data.toList = if d.length ≤ 18 ∧ d ≠ [] ∧ d.all isDig = true then some (decA 0 d) else none := by rw [hd]; rfl
  have hdl : d.length ≤ s.size := by
    rw [hd, Lib.size_eq]
    exact (List.dropWhile_sublist _).length_le
  have hds : (⟨d.toArray⟩ : ByteArray).size = d.length := by show d.toArray.size = _; simp
  have HU : Hid (∀ w, Calls Tryd.prog 48 #[.string ⟨d.toArray⟩, .string digSet] w fun e w' => e = .returned (.string ⟨(d.dropWhile isDig).toArray⟩) ∧ Below w.heap.size w w') := Lib.hid (fun w => by
    have := trimDig_any ⟨d.toArray⟩ w
    have e : Lib.trimLeftS (⟨d.toArray⟩ : ByteArray).data.toList digSet.data.toList = d.dropWhile isDig := by
      show List.dropWhile _ d = _
      congr 1
      funext c
      exact dig_in c
    rw [e] at this
    exact this)
  have hemp := isEmpty_of (d.dropWhile isDig)
  rw [hn]
  clear hn hd
  by_cases h18 : d.length ≤ 18
  · have i18 : ¬ ((18 : Int) < (d.length : Int)) := by omega
    by_cases ha : d.all isDig = true
    · have he : (d.dropWhile isDig).isEmpty = true := by rw [dropWhile_all.2 ha]; rfl
      rw [he] at hemp
      by_cases h0 : d = []
      · subst h0
        obtain ⟨ev, hev, hev2⟩ := HF.out.syn
        have HP : Hid (∀ w w1, Below w.heap.size w w1 → w.cell? ⟨5, 0, none⟩ = some ev → Calls Tryd.prog 49 #[.string ⟨#[]⟩, .int .i64 10, .int .i64 64] w1 fun e w' => (∃ N, e = .returned (.tuple #[.int .i64 0, .iface 121 (.pointer (some ⟨N, 0, none⟩))])) ∧ Below w1.heap.size w1 w') := Lib.hid (fun w w1 hb hv => (Tryd.strconv_ParseInt_10_at64_syntax ⟨#[]⟩ (by decide) rfl ev w1 (cell_keep hb hv) hev2).mono fun e w' ⟨N, h1, _, _, h2⟩ => ⟨⟨N, h1⟩, h2⟩)
        rw [if_neg (by simp)]
        clear hev2
        go_enter Tryd.func39, Tryd.ntmps39
        go_wp2_with fail
        refine (HT.out _).mono ?_
        rintro e w1 ⟨rfl, rfl⟩
        go_wp2_with fail
        refine (HU.out _).mono ?_
        rintro e w2 ⟨rfl, hb2⟩
        have HB2 := Lib.hid hb2
        clear hb2
        go_wp2_with fail
        refine (HP.out _ _ HB2.out hev).mono ?_
        rintro e w3 ⟨⟨N, rfl⟩, hb3⟩
        have HB3 := Lib.hid (HB2.out.trans (hb3.mono HB2.out.size))
        clear hb3
        go_wp2_with fail
        go_quiet (fail)
        go_wp2
        go_ret2
        exact ⟨rfl, drewN_below HB3.out _⟩
      · have hpi := parse_int d h0 ha h18
        have HP : Hid (∀ w, Calls Tryd.prog 49 #[.string ⟨d.toArray⟩, .int .i64 10, .int .i64 64] w fun e w' => e = .returned (.tuple #[.int .i64 (decA 0 d : Nat), .nilIface]) ∧ Below w.heap.size w w') := Lib.hid (fun w => (Tryd.strconv_ParseInt_10_at64_ok ⟨d.toArray⟩ (by rw [hds]; omega) _ hpi w).mono fun e w' ⟨h1, h2⟩ => ⟨h1, by
          rcases h2 with rfl | ⟨t, rfl⟩
          · exact Below.refl _ _
          · exact Lib.bytesWorld_below _ _ _⟩)
        rw [if_pos ⟨h18, h0, ha⟩]
        clear hpi
        generalize decA 0 d = m at *
        go_enter Tryd.func39, Tryd.ntmps39
        go_wp2_with fail
        refine (HT.out _).mono ?_
        rintro e w1 ⟨rfl, rfl⟩
        go_wp2_with fail
        refine (HU.out _).mono ?_
        rintro e w2 ⟨rfl, hb2⟩
        have HB2 := Lib.hid hb2
        clear hb2
        go_wp2_with fail
        refine (HP.out _).mono ?_
        rintro e w3 ⟨rfl, hb3⟩
        have HB3 := Lib.hid (HB2.out.trans (hb3.mono HB2.out.size))
        clear hb3
        go_wp2_with fail
        go_quiet (fail)
        go_wp2
        go_ret2
        exact ⟨rfl, drewN_below HB3.out _⟩
    · have he : (d.dropWhile isDig).isEmpty = false := by
        cases hx : d.dropWhile isDig with
        | nil => exact absurd (dropWhile_all.1 hx) ha
        | cons _ _ => rfl
      rw [he] at hemp
      rw [if_neg (fun h => ha h.2.2)]
      go_enter Tryd.func39, Tryd.ntmps39
      go_wp2_with fail
      refine (HT.out _).mono ?_
      rintro e w1 ⟨rfl, rfl⟩
      go_wp2_with fail
      refine (HU.out _).mono ?_
      rintro e w2 ⟨rfl, hb2⟩
      have HB2 := Lib.hid hb2
      clear hb2
      go_wp2_with fail
      go_ret2
      exact ⟨rfl, HB2.out⟩
  · have i18 : (18 : Int) < (d.length : Int) := by omega
    rw [if_neg (fun h => h18 h.1)]
    go_enter Tryd.func39, Tryd.ntmps39
    go_wp2_with fail
    refine (HT.out _).mono ?_
    rintro e w1 ⟨rfl, rfl⟩
    go_wp2_with fail
    go_ret2
    exact ⟨rfl, Below.refl _ _⟩
end Go.Proofs.YtmaihiklcdidbaaDoor
