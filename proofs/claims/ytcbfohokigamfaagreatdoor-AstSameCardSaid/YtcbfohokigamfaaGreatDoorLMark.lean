/-
  lexer's pastMark AT EVERY TEXT of at most 1000000 bytes: the longest mark that stands at a place; the world is as it was. Conditions: the text's length; the variable marks holds what its text lays.
-/
import Derived.Test.YtcbfohokigamfaaGreatDoorLStr
import Derived.WalkMore
import Derived.Deep.MidRow
namespace Go.Proofs.YtcbfohokigamfaaGreatDoor
open Go.RowKit

def markB : List (List UInt8) := [[43], [45], [42], [47], [37], [61, 61], [33, 61], [60], [60, 61], [62], [62, 61], [38, 38], [124, 124], [33], [58, 61], [61], [40], [41], [123], [125], [44], [46], [58]]
/-- What the variable marks holds. -/
def MarksIn (W : World) : Prop := ∀ (j : Nat) (m : List UInt8), markB[j]? = some m → W.cell? ⟨2, j, none⟩ = some (.string ⟨m.toArray⟩)
def missed (l : List UInt8) (j n : Nat) : Prop := ∀ m ∈ markB.take j, m.length = n → Lib.hasPrefix l m = false
theorem missed_zero (l : List UInt8) (n : Nat) : missed l 0 n := fun m hm => by cases hm
theorem missed_next {l : List UInt8} {j n : Nat} (h : missed l j n) (m : List UInt8) (hj : markB[j]? = some m) (hm : m.length = n → Lib.hasPrefix l m = false) : missed l (j + 1) n := by
  intro x hx hn
  obtain ⟨hlt, e⟩ := List.getElem?_eq_some_iff.1 hj
  rw [List.take_succ_eq_append_getElem hlt, e] at hx
  rcases List.mem_append.1 hx with hx | hx
  · exact h x hx hn
  · obtain rfl : x = m := by simpa using hx
    exact hm hn
theorem pre_take (l m : List UInt8) : Lib.hasPrefix l m = true ↔ m.length ≤ l.length ∧ l.take m.length = m := by
  rw [← Lib.hasPrefix_of_take]
  simp
theorem hit2 {l m : List UInt8} (hm : m ∈ markB) (h2 : m.length = 2) (h : Lib.hasPrefix l m = true) : markL l = 2 := by
  have ht := ((pre_take l m).1 h).2
  rw [h2] at ht
  have : ∀ m ∈ markB, m.length = 2 → ([[61, 61], [33, 61], [60, 61], [62, 61], [38, 38], [124, 124], [58, 61]] : List (List UInt8)).contains m = true := by decide
  unfold markL mk2
  rw [ht, if_pos (this m hm h2)]
theorem no2 {l : List UInt8} (h : missed l 23 2) : mk2 l = false := by
  rw [Bool.eq_false_iff]
  intro hc
  have hl := mk2_len l hc
  unfold mk2 at hc
  have hmem : l.take 2 ∈ ([[61, 61], [33, 61], [60, 61], [62, 61], [38, 38], [124, 124], [58, 61]] : List (List UInt8)) := by simpa using hc
  have : ∀ m ∈ ([[61, 61], [33, 61], [60, 61], [62, 61], [38, 38], [124, 124], [58, 61]] : List (List UInt8)), m ∈ markB.take 23 ∧ m.length = 2 := by decide
  obtain ⟨h1, h2⟩ := this _ hmem
  have := h _ h1 h2
  rw [Bool.eq_false_iff] at this
  exact this ((pre_take l _).2 ⟨by rw [h2]; exact hl, by rw [h2]⟩)
theorem hit1 {l m : List UInt8} (h0 : missed l 23 2) (hm : m ∈ markB) (h1 : m.length = 1) (h : Lib.hasPrefix l m = true) : markL l = 1 := by
  have ht := ((pre_take l m).1 h)
  rw [h1] at ht
  have hk : mk1 l = true := by
    cases l with
    | nil => simp at ht
    | cons c l =>
      have hc : [c] = m := ht.2
      subst hc
      have : ∀ k : Fin 256, [UInt8.ofNat k.val] ∈ markB → mk1 [UInt8.ofNat k.val] = true := by decide +kernel
      have h5 := this ⟨c.toNat, c.toNat_lt⟩
      simp only [UInt8.ofNat_toNat] at h5
      exact h5 hm
  unfold markL
  rw [no2 h0, hk]; rfl
theorem no1 {l : List UInt8} (h0 : missed l 23 2) (h : missed l 23 1) : markL l = 0 := by
  have hk : mk1 l = false := by
    rw [Bool.eq_false_iff]
    intro hc
    cases l with
    | nil => simp [mk1, fst] at hc
    | cons c l =>
      have : ∀ k : Fin 256, mk1 [UInt8.ofNat k.val] = true → [UInt8.ofNat k.val] ∈ markB.take 23 := by decide +kernel
      have h5 := this ⟨c.toNat, c.toNat_lt⟩
      simp only [UInt8.ofNat_toNat] at h5
      have := h [c] (h5 hc) rfl
      rw [Bool.eq_false_iff] at this
      exact this ((pre_take _ _).2 ⟨by simp, rfl⟩)
  unfold markL
  rw [no2 h0, hk]; rfl
theorem hasPrefix_any (s : ByteArray) (k : Nat) (hk : k ≤ s.size) (m : ByteArray) (w : World) : Calls Tryz.prog 97 #[.string (s.extract k s.size), .string m] w fun e w' => e = .returned (.bool (Lib.hasPrefix (rest s k) m.data.toList)) ∧ w = w' := by
  refine (Tryz.strings_HasPrefix (s.extract k s.size) m w).mono ?_
  rintro e w' ⟨rfl, rfl⟩
  refine ⟨ret_bool ?_, rfl⟩
  have e : s.size = k + (s.size - k) := by omega
  have : (s.extract k s.size).data.toList = rest s k := by
    conv => lhs; rw [e]
    rw [extract_take, List.take_of_length_le (by rw [rest_len]; omega)]
  rw [this]
section
variable {P : Program}
theorem wp_index {o : Oper} {a : Act} {w : World} {K : Act → World → Prop} {Q : Exit → Act → World → Prop} (t : TypeId) (x y : Operand) (ho : o.op = .index t x y) (X Y v : Value) (hx : a.eval x = X) (hy : a.eval y = Y)
    (hr : (Instr.index t X Y).run P w = .ok v w) (h : K (a.put o.dst v) w) : o.wp P a w K Q := by
  unfold Oper.wp execOp
  simp only [ho, hx, hy, Sem.run_bind, Sem.run_pure, Result.andThen_ok, hr]
  exact h
theorem wpList_index {ops : Array Oper} {rest : List Oper} {o : Oper} {a : Act} {w : World} {Q : Exit → Act → World → Prop} (hgd : o.guard = none) (t : TypeId) (x y : Operand) (ho : o.op = .index t x y) (X Y v : Value) (hx : a.eval x = X) (hy : a.eval y = Y)
    (hr : (Instr.index t X Y).run P w = .ok v w) (h : wpList P ops Q rest (a.put o.dst v) w) : wpList P ops Q (o :: rest) a w :=
  wpList_plain hgd fun _ hK => wp_index t x y ho X Y v hx hy hr (hK _ _ h)
end
def MC : List Value := markB.map fun m => .string ⟨m.toArray⟩
theorem mc_len : MC.length = 23 := rfl
theorem mc_at (j : Nat) (m : List UInt8) (h : markB[j]? = some m) : MC.toArray[j]? = some (.string ⟨m.toArray⟩) := by
  unfold MC
  rw [List.getElem?_toArray, List.getElem?_map, h]; rfl
theorem index_run (C : Array Value) (j : Nat) (v : Value) (hj : j < 23) (hC : C.size = 23) (h : C[j]? = some v) (w : World) : (Instr.index 145 (.agg C) (.int .i64 (j : Int))).run Tryz.prog w = .ok v w := by
  have hj2 : j < C.size := by omega
  have hz : C[j] = v := by
    rw [Array.getElem?_eq_getElem hj2] at h
    exact Option.some.inj h
  have h0 : 0 ≤ (j : Int) ∧ (j : Int) < 23 := by omega
  simp only [Instr.index, asIntOf, Sem.run_bind, Sem.run_pure, Result.andThen_ok, run_underlying Tryz.underlying145]
  simp [part, go_sem, hj2, hz]
  intro hh
  omega
set_option maxRecDepth 100000 in
set_option maxHeartbeats 2000000 in
theorem pastMark_any (s : ByteArray) (k : Nat) (hk : k ≤ s.size) (hs : s.size ≤ 1000000) (w : World) (hM : MarksIn w) : Calls Tryz.prog 129 #[.string s, .int .i64 k] w fun e w' => e = .returned (.int .i64 ((k + markL (rest s k) : Nat) : Int)) ∧ w = w' := by
  have HM : Hid (w.rangeAt 2 0 MC) := Lib.hid (fun j v hv => by
    unfold MC at hv
    rw [List.getElem?_map] at hv
    cases hb : markB[j]? with
    | none => rw [hb] at hv; cases hv
    | some m =>
      rw [hb] at hv
      obtain rfl : Value.string ⟨m.toArray⟩ = v := by simpa using hv
      rw [Nat.zero_add]; exact hM j m hb)
  have HP := Lib.hid (fun (m : ByteArray) (w : World) => hasPrefix_any s k hk m w)
  obtain ⟨C, hC⟩ : ∃ C, C = MC := ⟨_, rfl⟩
  rw [← hC] at HM
  have HC := Lib.hid hC
  have hi := (show (Tryz.prog.info? 145).map (·.size) = some C.length by rw [hC]; kernel_rfl)
  have HI := Lib.hid hi
  have HN : Hid (∀ j, j < 23 → ∃ m : ByteArray, C.toArray[j]? = some (.string m) ∧ markB[j]? = some m.data.toList) := Lib.hid (fun j hj => by
    obtain ⟨m, hm⟩ : ∃ m, markB[j]? = some m := ⟨markB[j]'(by simpa [markB] using hj), List.getElem?_eq_getElem _⟩
    exact ⟨⟨m.toArray⟩, by rw [hC]; exact mc_at j m hm, hm⟩)
  have HS : Hid (C.toArray.size = 23) := Lib.hid (by rw [hC]; rfl)
  generalize hR : markL (rest s k) = R
  have HR := Lib.hid hR
  generalize rest s k = l at *
  clear hM hR hC hi HC
  go_enter Tryz.func129, Tryz.ntmps129
  go_wp2_with fail
  go_step3
  go_wp2_with fail
  go_step3
  go_wp2_with fail
  go_loop [5, 6] (fun v u => v = .int .i64 (k : Int) ∧ (u = .int .i64 2 ∨ (u = .int .i64 1 ∧ Hid (missed l 23 2)) ∨ (u = .int .i64 0 ∧ Hid (missed l 23 2) ∧ Hid (missed l 23 1)))) (fun _ u => (intOf u).toNat)
  case atStart => exact ⟨rfl, .inl rfl⟩
  case round =>
    rcases hrel with ⟨rfl, rfl | ⟨rfl, h2⟩ | ⟨rfl, h2, h1⟩⟩
    · go_wp2_with (refine wpList_load_mid rfl 145 _ rfl 2 0 rfl C _ HM.out Tryz.underlying145 rfl HI.out ?_)
      go_loop [5, 15] (fun v u => v = .int .i64 (k : Int) ∧ ∃ j : Nat, j ≤ 23 ∧ u = .int .i64 j ∧ Hid (missed l j 2)) (fun _ u => 23 - (intOf u).toNat)
      case atStart => exact ⟨rfl, 0, by omega, rfl, Lib.hid (missed_zero l 2)⟩
      case round =>
        obtain ⟨rfl, j, hj, rfl, hms⟩ := hrel
        by_cases hj2 : j < 23
        · obtain ⟨m, hm1, hm2⟩ := HN.out j hj2
          have HX := Lib.hid (index_run C.toArray j _ hj2 HS.out hm1 w)
          have HB := Lib.hid hm2
          clear hm1 hm2
          by_cases hl : m.size = 2
          · have q1 : ((m.size : Int) == 2) = true := by simp only [beq_iff_eq]; omega
            have HL : Hid (m.data.toList.length = 2) := Lib.hid hl
            clear hl
            have HPP := Lib.hid (HP.out m w)
            cases hb : Lib.hasPrefix l m.data.toList with
            | false =>
              rw [hb] at HPP
              have HNN : Hid (missed l (j + 1) 2) := Lib.hid (missed_next hms.out _ HB.out (fun _ => hb))
              clear hb
              go_wp2_with (refine wpList_index rfl 145 _ _ rfl _ _ _ rfl rfl HX.out ?_)
              refine HPP.out.mono ?_
              rintro e w' ⟨rfl, rfl⟩
              go_wp2_with fail
              go_round
              case rel => exact ⟨rfl, j + 1, by omega, by go_num, HNN⟩
              case measure => simp [intOf]; omega
            | true =>
              rw [hb] at HPP
              have HV : Hid (R = 2) := Lib.hid (by rw [← HR.out]; exact hit2 (List.mem_of_getElem? HB.out) HL.out hb)
              clear hb
              go_wp2_with (refine wpList_index rfl 145 _ _ rfl _ _ _ rfl rfl HX.out ?_)
              refine HPP.out.mono ?_
              rintro e w' ⟨rfl, rfl⟩
              go_wp2_with fail
              try rw [Exit.noGoto_ret]
              go_ret
              exact ⟨ret_i64 (by have := HV.out; omega), rfl⟩
          · have q1 : ((m.size : Int) == 2) = false := by simp only [beq_eq_false_iff_ne, ne_eq]; omega
            have HNN : Hid (missed l (j + 1) 2) := Lib.hid (missed_next hms.out _ HB.out (fun hh => absurd hh hl))
            clear hl
            go_wp2_with (refine wpList_index rfl 145 _ _ rfl _ _ _ rfl rfl HX.out ?_)
            go_round
            case rel => exact ⟨rfl, j + 1, by omega, by go_num, HNN⟩
            case measure => simp [intOf]; omega
        · obtain rfl : j = 23 := by omega
          go_wp2_with fail
          go_round
          case rel => exact ⟨rfl, .inr (.inl ⟨rfl, hms⟩)⟩
          case measure => simp [intOf]
    · go_wp2_with (refine wpList_load_mid rfl 145 _ rfl 2 0 rfl C _ HM.out Tryz.underlying145 rfl HI.out ?_)
      go_loop [5, 15] (fun v u => v = .int .i64 (k : Int) ∧ ∃ j : Nat, j ≤ 23 ∧ u = .int .i64 j ∧ Hid (missed l j 1)) (fun _ u => 23 - (intOf u).toNat)
      case atStart => exact ⟨rfl, 0, by omega, rfl, Lib.hid (missed_zero l 1)⟩
      case round =>
        obtain ⟨rfl, j, hj, rfl, hms⟩ := hrel
        by_cases hj2 : j < 23
        · obtain ⟨m, hm1, hm2⟩ := HN.out j hj2
          have HX := Lib.hid (index_run C.toArray j _ hj2 HS.out hm1 w)
          have HB := Lib.hid hm2
          clear hm1 hm2
          by_cases hl : m.size = 1
          · have q1 : ((m.size : Int) == 1) = true := by simp only [beq_iff_eq]; omega
            have HL : Hid (m.data.toList.length = 1) := Lib.hid hl
            clear hl
            have HPP := Lib.hid (HP.out m w)
            cases hb : Lib.hasPrefix l m.data.toList with
            | false =>
              rw [hb] at HPP
              have HNN : Hid (missed l (j + 1) 1) := Lib.hid (missed_next hms.out _ HB.out (fun _ => hb))
              clear hb
              go_wp2_with (refine wpList_index rfl 145 _ _ rfl _ _ _ rfl rfl HX.out ?_)
              refine HPP.out.mono ?_
              rintro e w' ⟨rfl, rfl⟩
              go_wp2_with fail
              go_round
              case rel => exact ⟨rfl, j + 1, by omega, by go_num, HNN⟩
              case measure => simp [intOf]; omega
            | true =>
              rw [hb] at HPP
              have HV : Hid (R = 1) := Lib.hid (by rw [← HR.out]; exact hit1 h2.out (List.mem_of_getElem? HB.out) HL.out hb)
              clear hb
              go_wp2_with (refine wpList_index rfl 145 _ _ rfl _ _ _ rfl rfl HX.out ?_)
              refine HPP.out.mono ?_
              rintro e w' ⟨rfl, rfl⟩
              go_wp2_with fail
              try rw [Exit.noGoto_ret]
              go_ret
              exact ⟨ret_i64 (by have := HV.out; omega), rfl⟩
          · have q1 : ((m.size : Int) == 1) = false := by simp only [beq_eq_false_iff_ne, ne_eq]; omega
            have HNN : Hid (missed l (j + 1) 1) := Lib.hid (missed_next hms.out _ HB.out (fun hh => absurd hh hl))
            clear hl
            go_wp2_with (refine wpList_index rfl 145 _ _ rfl _ _ _ rfl rfl HX.out ?_)
            go_round
            case rel => exact ⟨rfl, j + 1, by omega, by go_num, HNN⟩
            case measure => simp [intOf]; omega
        · obtain rfl : j = 23 := by omega
          go_wp2_with fail
          go_round
          case rel => exact ⟨rfl, .inr (.inr ⟨rfl, h2, hms⟩)⟩
          case measure => simp [intOf]
    · have HV : Hid (R = 0) := Lib.hid (by rw [← HR.out]; exact no1 h2.out h1.out)
      go_wp2_with fail
      try rw [Exit.noGoto_ret]
      go_ret
      exact ⟨ret_i64 (by have := HV.out; omega), rfl⟩
end Go.Proofs.YtcbfohokigamfaaGreatDoor
