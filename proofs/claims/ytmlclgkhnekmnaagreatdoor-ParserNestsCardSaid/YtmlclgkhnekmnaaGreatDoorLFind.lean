/- Part of a proof. -/
import Derived.Test.YtmlclgkhnekmnaaGreatDoorLStr
import Derived.WalkMore
import Derived.Deep.MidRow
namespace Go.Proofs.YtmlclgkhnekmnaaGreatDoor
open Go.RowKit
def markB : List (List UInt8) := [[43], [45], [42], [47], [37], [61, 61], [33, 61], [60], [60, 61], [62], [62, 61], [38, 38], [124, 124], [33], [58, 61], [61], [40], [41], [123], [125], [44], [46], [58]]
def MarksIn (W : World) : Prop := ∀ (j : Nat) (m : List UInt8), markB[j]? = some m → W.cell? ⟨2, j, none⟩ = some (.string ⟨m.toArray⟩)
def missed (l : List UInt8) (j n : Nat) : Prop := ∀ m ∈ markB.take j, m.length = n → Lib.hasPrefix l m = false
theorem missed_zero (l : List UInt8) (n : Nat) : missed l 0 n := fun m hm => by cases hm
theorem missed_next {l : List UInt8} {j n : Nat} (h : missed l j n) (m : List UInt8) (hj : markB[j]? = some m) (hm : m.length = n → Lib.hasPrefix l m = false) : missed l (j + 1) n := by
 intro x hx hn
 obtain ⟨hlt, e⟩ := List.getElem?_eq_some_iff.1 hj
 rw [List.take_succ_eq_append_getElem hlt, e] at hx
 rcases List.mem_append.1 hx with hx | hx
 · exact h x hx hn
 · obtain rfl : x = m := by simpa using hx
   exact hm hn
theorem pre_take (l m : List UInt8) : Lib.hasPrefix l m = true ↔ m.length ≤ l.length ∧ l.take m.length = m := by
 rw [← Lib.hasPrefix_of_take]
 simp
theorem hit2 {l m : List UInt8} (hm : m ∈ markB) (h2 : m.length = 2) (h : Lib.hasPrefix l m = true) : markL l = 2 := by
 have ht := ((pre_take l m).1 h).2
 rw [h2] at ht
 have : ∀ m ∈ markB, m.length = 2 → ([[61, 61], [33, 61], [60, 61], [62, 61], [38, 38], [124, 124], [58, 61]] : List (List UInt8)).contains m = true := by decide
 unfold markL mk2
 rw [ht, if_pos (this m hm h2)]
theorem no2 {l : List UInt8} (h : missed l 23 2) : mk2 l = false := by
 rw [Bool.eq_false_iff]
 intro hc
 have hl := mk2_len l hc
 unfold mk2 at hc
 have hmem : l.take 2 ∈ ([[61, 61], [33, 61], [60, 61], [62, 61], [38, 38], [124, 124], [58, 61]] : List (List UInt8)) := by simpa using hc
 have : ∀ m ∈ ([[61, 61], [33, 61], [60, 61], [62, 61], [38, 38], [124, 124], [58, 61]] : List (List UInt8)), m ∈ markB.take 23 ∧ m.length = 2 := by decide
 obtain ⟨h1, h2⟩ := this _ hmem
 have := h _ h1 h2
 rw [Bool.eq_false_iff] at this
 exact this ((pre_take l _).2 ⟨by rw [h2]; exact hl, by rw [h2]⟩)
theorem hit1 {l m : List UInt8} (h0 : missed l 23 2) (hm : m ∈ markB) (h1 : m.length = 1) (h : Lib.hasPrefix l m = true) : markL l = 1 := by
 have ht := ((pre_take l m).1 h)
 rw [h1] at ht
 have hk : mk1 l = true := by
  cases l with
  | nil => simp at ht
  | cons c l =>
   have hc : [c] = m := ht.2
   subst hc
   have : ∀ k : Fin 256, [UInt8.ofNat k.val] ∈ markB → mk1 [UInt8.ofNat k.val] = true := by decide +kernel
   have h5 := this ⟨c.toNat, c.toNat_lt⟩
   simp only [UInt8.ofNat_toNat] at h5
   exact h5 hm
 unfold markL
 rw [no2 h0, hk]; rfl
theorem no1 {l : List UInt8} (h0 : missed l 23 2) (h : missed l 23 1) : markL l = 0 := by
 have hk : mk1 l = false := by
  rw [Bool.eq_false_iff]
  intro hc
  cases l with
  | nil => simp [mk1, fst] at hc
  | cons c l =>
   have : ∀ k : Fin 256, mk1 [UInt8.ofNat k.val] = true → [UInt8.ofNat k.val] ∈ markB.take 23 := by decide +kernel
   have h5 := this ⟨c.toNat, c.toNat_lt⟩
   simp only [UInt8.ofNat_toNat] at h5
   have := h [c] (h5 hc) rfl
   rw [Bool.eq_false_iff] at this
   exact this ((pre_take _ _).2 ⟨by simp, rfl⟩)
 unfold markL
 rw [no2 h0, hk]; rfl
theorem hasPrefix_any (s : ByteArray) (k : Nat) (hk : k ≤ s.size) (m : ByteArray) (w : World) : Calls Tryz.prog 85 #[.string (s.extract k s.size), .string m] w fun e w' => e = .returned (.bool (Lib.hasPrefix (rest s k) m.data.toList)) ∧ w = w' := by
 refine (Tryz.strings_HasPrefix (s.extract k s.size) m w).mono ?_
 rintro e w' ⟨rfl, rfl⟩
 refine ⟨ret_bool ?_, rfl⟩
 have e : s.size = k + (s.size - k) := by omega
 have : (s.extract k s.size).data.toList = rest s k := by
  conv => lhs; rw [e]
  rw [extract_take, List.take_of_length_le (by rw [rest_len]; omega)]
 rw [this]
section
variable {P : Program}
theorem wp_index {o : Oper} {a : Act} {w : World} {K : Act → World → Prop} {Q : Exit → Act → World → Prop} (t : TypeId) (x y : Operand) (ho : o.op = .index t x y) (X Y v : Value) (hx : a.eval x = X) (hy : a.eval y = Y)
 (hr : (Instr.index t X Y).run P w = .ok v w) (h : K (a.put o.dst v) w) : o.wp P a w K Q := by
 unfold Oper.wp execOp
 simp only [ho, hx, hy, Sem.run_bind, Sem.run_pure, Result.andThen_ok, hr]
 exact h
theorem wpList_index {ops : Array Oper} {rest : List Oper} {o : Oper} {a : Act} {w : World} {Q : Exit → Act → World → Prop} (hgd : o.guard = none) (t : TypeId) (x y : Operand) (ho : o.op = .index t x y) (X Y v : Value) (hx : a.eval x = X) (hy : a.eval y = Y)
 (hr : (Instr.index t X Y).run P w = .ok v w) (h : wpList P ops Q rest (a.put o.dst v) w) : wpList P ops Q (o :: rest) a w :=
 wpList_plain hgd fun _ hK => wp_index t x y ho X Y v hx hy hr (hK _ _ h)
end
def MC : List Value := markB.map fun m => .string ⟨m.toArray⟩
theorem mc_at (j : Nat) (m : List UInt8) (h : markB[j]? = some m) : MC.toArray[j]? = some (.string ⟨m.toArray⟩) := by
 unfold MC
 rw [List.getElem?_toArray, List.getElem?_map, h]; rfl
theorem index_run (C : Array Value) (j : Nat) (v : Value) (hj : j < 23) (hC : C.size = 23) (h : C[j]? = some v) (w : World) : (Instr.index 132 (.agg C) (.int .i64 (j : Int))).run Tryz.prog w = .ok v w := by
 have hj2 : j < C.size := by omega
 have hz : C[j] = v := by
  rw [Array.getElem?_eq_getElem hj2] at h
  exact Option.some.inj h
 have h0 : 0 ≤ (j : Int) ∧ (j : Int) < 23 := by omega
 simp only [Instr.index, asIntOf, Sem.run_bind, Sem.run_pure, Result.andThen_ok, run_underlying Tryz.underlying132]
 simp [part, go_sem, hj2, hz]
 intro hh
 omega
set_option maxRecDepth 100000 in
set_option maxHeartbeats 2000000 in
theorem pastMark_any (s : ByteArray) (k : Nat) (hk : k ≤ s.size) (hs : s.size ≤ 1000000) (w : World) (hM : MarksIn w) : Calls Tryz.prog 111 #[.string s, .int .i64 k] w fun e w' => e = .returned (.int .i64 ((k + markL (rest s k) : Nat) : Int)) ∧ w = w' := by
 have HM : Hid (w.rangeAt 2 0 MC) := Lib.hid (fun j v hv => by
  unfold MC at hv
  rw [List.getElem?_map] at hv
  cases hb : markB[j]? with
  | none => rw [hb] at hv; cases hv
  | some m =>
   rw [hb] at hv
   obtain rfl : Value.string ⟨m.toArray⟩ = v := by simpa using hv
   rw [Nat.zero_add]; exact hM j m hb)
 have HP := Lib.hid (fun (m : ByteArray) (w : World) => hasPrefix_any s k hk m w)
 obtain ⟨C, hC⟩ : ∃ C, C = MC := ⟨_, rfl⟩
 rw [← hC] at HM
 have HC := Lib.hid hC
 have hi := (show (Tryz.prog.info? 132).map (·.size) = some C.length by rw [hC]; kernel_rfl)
 have HI := Lib.hid hi
 have HN : Hid (∀ j, j < 23 → ∃ m : ByteArray, C.toArray[j]? = some (.string m) ∧ markB[j]? = some m.data.toList) := Lib.hid (fun j hj => by
  obtain ⟨m, hm⟩ : ∃ m, markB[j]? = some m := ⟨markB[j]'(by simpa [markB] using hj), List.getElem?_eq_getElem _⟩
  exact ⟨⟨m.toArray⟩, by rw [hC]; exact mc_at j m hm, hm⟩)
 have HS : Hid (C.toArray.size = 23) := Lib.hid (by rw [hC]; rfl)
 generalize hR : markL (rest s k) = R
 have HR := Lib.hid hR
 generalize rest s k = l at *
 clear hM hR hC hi HC
 go_enter Tryz.func111, Tryz.ntmps111
 go_wp2_with fail
 go_step3
 go_wp2_with fail
 go_step3
 go_wp2_with fail
 go_loop [5, 6] (fun v u => v = .int .i64 (k : Int) ∧ (u = .int .i64 2 ∨ (u = .int .i64 1 ∧ Hid (missed l 23 2)) ∨ (u = .int .i64 0 ∧ Hid (missed l 23 2) ∧ Hid (missed l 23 1)))) (fun _ u => (intOf u).toNat)
 case atStart => exact ⟨rfl, .inl rfl⟩
 case round =>
  rcases hrel with ⟨rfl, rfl | ⟨rfl, h2⟩ | ⟨rfl, h2, h1⟩⟩
  · go_wp2_with (refine wpList_load_mid rfl 132 _ rfl 2 0 rfl C _ HM.out Tryz.underlying132 rfl HI.out ?_)
    go_loop [5, 15] (fun v u => v = .int .i64 (k : Int) ∧ ∃ j : Nat, j ≤ 23 ∧ u = .int .i64 j ∧ Hid (missed l j 2)) (fun _ u => 23 - (intOf u).toNat)
    case atStart => exact ⟨rfl, 0, by omega, rfl, Lib.hid (missed_zero l 2)⟩
    case round =>
     obtain ⟨rfl, j, hj, rfl, hms⟩ := hrel
     by_cases hj2 : j < 23
     · obtain ⟨m, hm1, hm2⟩ := HN.out j hj2
       have HX := Lib.hid (index_run C.toArray j _ hj2 HS.out hm1 w)
       have HB := Lib.hid hm2
       clear hm1 hm2
       by_cases hl : m.size = 2
       · have q1 : ((m.size : Int) == 2) = true := by simp only [beq_iff_eq]; omega
         have HL : Hid (m.data.toList.length = 2) := Lib.hid hl
         clear hl
         have HPP := Lib.hid (HP.out m w)
         cases hb : Lib.hasPrefix l m.data.toList with
         | false =>
          rw [hb] at HPP
          have HNN : Hid (missed l (j + 1) 2) := Lib.hid (missed_next hms.out _ HB.out (fun _ => hb))
          clear hb
          go_wp2_with (refine wpList_index rfl 132 _ _ rfl _ _ _ rfl rfl HX.out ?_)
          refine HPP.out.mono ?_
          rintro e w' ⟨rfl, rfl⟩
          go_wp2_with fail
          go_round
          case rel => exact ⟨rfl, j + 1, by omega, by go_num, HNN⟩
          case measure => simp [intOf]; omega
         | true =>
          rw [hb] at HPP
          have HV : Hid (R = 2) := Lib.hid (by rw [← HR.out]; exact hit2 (List.mem_of_getElem? HB.out) HL.out hb)
          clear hb
          go_wp2_with (refine wpList_index rfl 132 _ _ rfl _ _ _ rfl rfl HX.out ?_)
          refine HPP.out.mono ?_
          rintro e w' ⟨rfl, rfl⟩
          go_wp2_with fail
          try rw [Exit.noGoto_ret]
          go_ret
          exact ⟨ret_i64 (by have := HV.out; omega), rfl⟩
       · have q1 : ((m.size : Int) == 2) = false := by simp only [beq_eq_false_iff_ne, ne_eq]; omega
         have HNN : Hid (missed l (j + 1) 2) := Lib.hid (missed_next hms.out _ HB.out (fun hh => absurd hh hl))
         clear hl
         go_wp2_with (refine wpList_index rfl 132 _ _ rfl _ _ _ rfl rfl HX.out ?_)
         go_round
         case rel => exact ⟨rfl, j + 1, by omega, by go_num, HNN⟩
         case measure => simp [intOf]; omega
     · obtain rfl : j = 23 := by omega
       go_wp2_with fail
       go_round
       case rel => exact ⟨rfl, .inr (.inl ⟨rfl, hms⟩)⟩
       case measure => simp [intOf]
  · go_wp2_with (refine wpList_load_mid rfl 132 _ rfl 2 0 rfl C _ HM.out Tryz.underlying132 rfl HI.out ?_)
    go_loop [5, 15] (fun v u => v = .int .i64 (k : Int) ∧ ∃ j : Nat, j ≤ 23 ∧ u = .int .i64 j ∧ Hid (missed l j 1)) (fun _ u => 23 - (intOf u).toNat)
    case atStart => exact ⟨rfl, 0, by omega, rfl, Lib.hid (missed_zero l 1)⟩
    case round =>
     obtain ⟨rfl, j, hj, rfl, hms⟩ := hrel
     by_cases hj2 : j < 23
     · obtain ⟨m, hm1, hm2⟩ := HN.out j hj2
       have HX := Lib.hid (index_run C.toArray j _ hj2 HS.out hm1 w)
       have HB := Lib.hid hm2
       clear hm1 hm2
       by_cases hl : m.size = 1
       · have q1 : ((m.size : Int) == 1) = true := by simp only [beq_iff_eq]; omega
         have HL : Hid (m.data.toList.length = 1) := Lib.hid hl
         clear hl
         have HPP := Lib.hid (HP.out m w)
         cases hb : Lib.hasPrefix l m.data.toList with
         | false =>
          rw [hb] at HPP
          have HNN : Hid (missed l (j + 1) 1) := Lib.hid (missed_next hms.out _ HB.out (fun _ => hb))
          clear hb
          go_wp2_with (refine wpList_index rfl 132 _ _ rfl _ _ _ rfl rfl HX.out ?_)
          refine HPP.out.mono ?_
          rintro e w' ⟨rfl, rfl⟩
          go_wp2_with fail
          go_round
          case rel => exact ⟨rfl, j + 1, by omega, by go_num, HNN⟩
          case measure => simp [intOf]; omega
         | true =>
          rw [hb] at HPP
          have HV : Hid (R = 1) := Lib.hid (by rw [← HR.out]; exact hit1 h2.out (List.mem_of_getElem? HB.out) HL.out hb)
          clear hb
          go_wp2_with (refine wpList_index rfl 132 _ _ rfl _ _ _ rfl rfl HX.out ?_)
          refine HPP.out.mono ?_
          rintro e w' ⟨rfl, rfl⟩
          go_wp2_with fail
          try rw [Exit.noGoto_ret]
          go_ret
          exact ⟨ret_i64 (by have := HV.out; omega), rfl⟩
       · have q1 : ((m.size : Int) == 1) = false := by simp only [beq_eq_false_iff_ne, ne_eq]; omega
         have HNN : Hid (missed l (j + 1) 1) := Lib.hid (missed_next hms.out _ HB.out (fun hh => absurd hh hl))
         clear hl
         go_wp2_with (refine wpList_index rfl 132 _ _ rfl _ _ _ rfl rfl HX.out ?_)
         go_round
         case rel => exact ⟨rfl, j + 1, by omega, by go_num, HNN⟩
         case measure => simp [intOf]; omega
     · obtain rfl : j = 23 := by omega
       go_wp2_with fail
       go_round
       case rel => exact ⟨rfl, .inr (.inr ⟨rfl, h2, hms⟩)⟩
       case measure => simp [intOf]
  · have HV : Hid (R = 0) := Lib.hid (by rw [← HR.out]; exact no1 h2.out h1.out)
    go_wp2_with fail
    try rw [Exit.noGoto_ret]
    go_ret
    exact ⟨ret_i64 (by have := HV.out; omega), rfl⟩
end Go.Proofs.YtmlclgkhnekmnaaGreatDoor
namespace Go.Proofs.YtmlclgkhnekmnaaGreatDoor
open Go.RowKit
set_option maxHeartbeats 1000000 in
theorem findNumber_any (s : ByteArray) (k : Nat) (hk : k ≤ s.size) (hs : s.size ≤ 1000000) (w : World) : Calls Tryz.prog 109 #[.string s, .int .i64 k] w fun e w' => e = .returned (.tuple #[.int .i64 ((numK (rest s k)).1 : Int), .int .i64 ((k + (numK (rest s k)).2 : Nat) : Int)]) ∧ w = w' := by
 have hle := run_le isD (rest s k)
 rw [rest_len] at hle
 have HP := Lib.hid (fun w => pastDigits_any s k hk hs w)
 by_cases h1 : fst (is1 46) (rest s (k + run isD (rest s k))) = true
 · have hlt := st_len ⟨#[46]⟩ s _ h1
   have HS := Lib.hid (fun w => stands_yes s ⟨#[46]⟩ (k + run isD (rest s k)) h1 w)
   have HQ := Lib.hid (fun w => pastDigits_any s (k + run isD (rest s k) + 1) hlt hs w)
   by_cases h2 : run isD (rest s (k + run isD (rest s k) + 1)) = 0
   · have e : numK (rest s k) = (3, run isD (rest s k)) := by
      unfold numK
      rw [rest_drop, rest_drop, if_pos h1, if_pos (by rw [← Nat.add_assoc]; exact h2)]
     rw [e]
     rw [h2] at HQ
     simp only
     clear e h1 h2
     generalize run isD (rest s k) = a at *
     obtain ⟨p, hp⟩ : ∃ p, p = k + a := ⟨_, rfl⟩
     have HPE := Lib.hid hp
     rw [← hp] at HP HS HQ hlt ⊢
     clear hp
     have q : ((((p + 1 + 0 : Nat) : Int)) == ((p : Int) + 1)) = true := by simp
     go_enter Tryz.func109, Tryz.ntmps109
     go_wp2_with fail
     refine (HP.out _).mono ?_
     rintro e w' ⟨rfl, rfl⟩
     go_wp2_with fail
     refine (HS.out _).mono ?_
     rintro e w' ⟨rfl, rfl⟩
     go_wp2_with fail
     refine (HQ.out _).mono ?_
     rintro e w' ⟨rfl, rfl⟩
     go_wp2_with fail
     go_ret2
     exact ⟨ret_ii rfl rfl, rfl⟩
   · have e : numK (rest s k) = (4, run isD (rest s k) + 1 + run isD (rest s (k + run isD (rest s k) + 1)) + expL (rest s (k + run isD (rest s k) + 1 + run isD (rest s (k + run isD (rest s k) + 1))))) := by
      unfold numK
      rw [rest_drop, rest_drop, rest_drop, if_pos h1, if_neg (by rw [← Nat.add_assoc]; exact h2)]
      simp only [Nat.add_assoc]
     rw [e]
     simp only
     clear e h1
     generalize run isD (rest s k) = a at *
     obtain ⟨p, hp⟩ : ∃ p, p = k + a := ⟨_, rfl⟩
     have HPE := Lib.hid hp
     rw [← hp] at HP HS HQ hlt h2 ⊢
     clear hp
     have hle2 := run_le isD (rest s (p + 1))
     rw [rest_len] at hle2
     have HE := Lib.hid (fun w => pastExponent_any s (p + 1 + run isD (rest s (p + 1))) hs w)
     generalize run isD (rest s (p + 1)) = b at *
     generalize expL (rest s (p + 1 + b)) = c at *
     obtain ⟨t, ht⟩ : ∃ t, t = p + 1 + b := ⟨_, rfl⟩
     have HTE := Lib.hid ht
     rw [← ht] at HQ HE
     have q : (((t : Nat) : Int) == ((p : Int) + 1)) = false := by simp only [beq_eq_false_iff_ne, ne_eq]; omega
     clear ht h2 hle2
     go_enter Tryz.func109, Tryz.ntmps109
     go_wp2_with fail
     refine (HP.out _).mono ?_
     rintro e w' ⟨rfl, rfl⟩
     go_wp2_with fail
     refine (HS.out _).mono ?_
     rintro e w' ⟨rfl, rfl⟩
     go_wp2_with fail
     refine (HQ.out _).mono ?_
     rintro e w' ⟨rfl, rfl⟩
     go_wp2_with fail
     refine (HE.out _).mono ?_
     rintro e w' ⟨rfl, rfl⟩
     go_wp2_with fail
     go_ret2
     exact ⟨ret_ii rfl (by have := HPE.out; have := HTE.out; omega), rfl⟩
 · have h1f : fst (is1 46) (rest s (k + run isD (rest s k))) = false := by simpa using h1
   have HS := Lib.hid (fun w => stands_no s ⟨#[46]⟩ (k + run isD (rest s k)) h1f w)
   have e : numK (rest s k) = (3, run isD (rest s k)) := by
    unfold numK
    rw [rest_drop, if_neg h1]
   rw [e]
   simp only
   clear e h1 h1f
   generalize run isD (rest s k) = a at *
   obtain ⟨p, hp⟩ : ∃ p, p = k + a := ⟨_, rfl⟩
   rw [← hp] at HP HS ⊢
   clear hp
   go_enter Tryz.func109, Tryz.ntmps109
   go_wp2_with fail
   refine (HP.out _).mono ?_
   rintro e w' ⟨rfl, rfl⟩
   go_wp2_with fail
   refine (HS.out _).mono ?_
   rintro e w' ⟨rfl, rfl⟩
   go_wp2_with fail
   go_ret2
   exact ⟨ret_ii rfl rfl, rfl⟩
theorem tokK_word (l : List UInt8) (h : fst isLt l = true) : tokK l = (if isRes (l.take (run isW l)) then 2 else 1, run isW l) := by unfold tokK; rw [if_pos h]
theorem tokK_num (l : List UInt8) (h : fst isLt l = false) (g : fst isD l = true) : tokK l = numK l := by unfold tokK; rw [if_neg (by rw [h]; simp), if_pos g]
theorem tokK_str (l : List UInt8) (h : fst isLt l = false) (g : fst isD l = false) (j : fst (is1 34) l = true) : tokK l = (5, strL l) := by unfold tokK; rw [if_neg (by rw [h]; simp), if_neg (by rw [g]; simp), if_pos j]
theorem tokK_semi (l : List UInt8) (h : fst isLt l = false) (g : fst isD l = false) (j : fst (is1 34) l = false) (i : fst (is1 59) l = true) : tokK l = (7, 1) := by unfold tokK; rw [if_neg (by rw [h]; simp), if_neg (by rw [g]; simp), if_neg (by rw [j]; simp), if_pos i]
theorem tokK_mark (l : List UInt8) (h : fst isLt l = false) (g : fst isD l = false) (j : fst (is1 34) l = false) (i : fst (is1 59) l = false) : tokK l = (6, markL l) := by unfold tokK; rw [if_neg (by rw [h]; simp), if_neg (by rw [g]; simp), if_neg (by rw [j]; simp), if_neg (by rw [i]; simp)]
set_option maxRecDepth 100000 in
set_option maxHeartbeats 1000000 in
theorem find_any (s : ByteArray) (k : Nat) (hk : k < s.size) (hs : s.size ≤ 1000000) (w : World) (hM : MarksIn w) : Calls Tryz.prog 88 #[.string s, .int .i64 k] w fun e w' => e = .returned (.tuple #[.int .i64 ((tokK (rest s k)).1 : Int), .int .i64 ((k + (tokK (rest s k)).2 : Nat) : Int)]) ∧ Below w.heap.size w w' := by
 have HL := Lib.hid (fun w => isLetter_any s[k] w)
 have HD := Lib.hid (fun w => isDigit_any s[k] w)
 have f1 := fst_at isLt s k hk
 have f2 := fst_at isD s k hk
 have f3 := fst_at (is1 34) s k hk
 have f4 := fst_at (is1 59) s k hk
 rw [is1_eq] at f3 f4
 obtain ⟨x, hx⟩ : ∃ x, s[k].toNat = x := ⟨_, rfl⟩
 rw [hx] at f3 f4 HL HD
 have t34 : ((34 : UInt8).toNat) = 34 := rfl
 have t59 : ((59 : UInt8).toNat) = 59 := rfl
 rw [t34] at f3
 rw [t59] at f4
 clear t34 t59
 cases h1 : isLt s[k] with
 | true =>
  rw [h1] at HL f1
  have HW := Lib.hid (fun w => findWord_any s k (Nat.le_of_lt hk) hs w)
  rw [tokK_word _ f1]
  simp only
  clear f1 f2 f3 f4 h1 HD hM
  generalize ((if isRes (List.take (run isW (rest s k)) (rest s k)) = true then 2 else 1 : Nat) : Int) = a at *
  generalize ((k + run isW (rest s k) : Nat) : Int) = b at *
  go_enter Tryz.func88, Tryz.ntmps88
  go_wp2_with fail
  refine (HL.out _).mono ?_
  rintro e w' ⟨rfl, rfl⟩
  go_wp2_with fail
  refine (HW.out _).mono ?_
  rintro e w' ⟨rfl, rfl⟩
  go_wp2_with fail
  go_ret2
  exact ⟨rfl, Below.refl _ _⟩
 | false =>
  rw [h1] at HL f1
  cases h2 : isD s[k] with
  | true =>
   rw [h2] at HD f2
   have HW := Lib.hid (fun w => findNumber_any s k (Nat.le_of_lt hk) hs w)
   rw [tokK_num _ f1 f2]
   clear f1 f2 f3 f4 h1 h2 hM
   generalize ((numK (rest s k)).1 : Int) = a at *
   generalize ((k + (numK (rest s k)).2 : Nat) : Int) = b at *
   go_enter Tryz.func88, Tryz.ntmps88
   go_wp2_with fail
   refine (HL.out _).mono ?_
   rintro e w' ⟨rfl, rfl⟩
   go_wp2_with fail
   refine (HD.out _).mono ?_
   rintro e w' ⟨rfl, rfl⟩
   go_wp2_with fail
   refine (HW.out _).mono ?_
   rintro e w' ⟨rfl, rfl⟩
   go_wp2_with fail
   go_ret2
   exact ⟨rfl, Below.refl _ _⟩
  | false =>
   rw [h2] at HD f2
   by_cases h3 : x = 34
   · have q3 : (((x : Nat) : Int) == 34) = true := by simp only [beq_iff_eq]; omega
     rw [decide_eq_true h3] at f3
     have HU := Lib.hid (unquoted_any s k (Nat.le_of_lt hk) hs w)
     have HV : Hid ((tokK (rest s k)).1 = 5 ∧ (tokK (rest s k)).2 = strL (rest s k)) := Lib.hid (by rw [tokK_str _ f1 f2 f3]; exact ⟨rfl, rfl⟩)
     rw [HV.out.1, HV.out.2]
     unfold strL
     clear f1 f2 f3 f4 h1 h2 h3 hM HV
     cases hu : uqS (rest s k) with
     | none =>
      rw [hu] at HU
      unfold UqEnd at HU
      simp only at HU ⊢
      clear hu
      go_enter Tryz.func88, Tryz.ntmps88
      go_wp2_with fail
      refine (HL.out _).mono ?_
      rintro e w' ⟨rfl, rfl⟩
      go_wp2_with fail
      refine (HD.out _).mono ?_
      rintro e w' ⟨rfl, rfl⟩
      go_wp2_with fail
      refine HU.out.mono ?_
      rintro e w' ⟨rfl, hb⟩
      have HB := Lib.hid hb
      clear hb
      go_wp2_with fail
      go_ret2
      exact ⟨ret_ii rfl rfl, HB.out⟩
     | some p =>
      obtain ⟨v, n⟩ := p
      rw [hu] at HU
      unfold UqEnd at HU
      simp only at HU ⊢
      clear hu
      generalize ((k + n : Nat) : Int) = b at *
      go_enter Tryz.func88, Tryz.ntmps88
      go_wp2_with fail
      refine (HL.out _).mono ?_
      rintro e w' ⟨rfl, rfl⟩
      go_wp2_with fail
      refine (HD.out _).mono ?_
      rintro e w' ⟨rfl, rfl⟩
      go_wp2_with fail
      refine HU.out.mono ?_
      rintro e w' ⟨v2, rfl, hown, hb⟩
      obtain ⟨A, cp, rfl⟩ := slice_form hown
      have HB := Lib.hid hb
      clear hb hown
      go_wp2_with fail
      go_ret2
      exact ⟨ret_ii rfl rfl, HB.out⟩
   · have q3 : (((x : Nat) : Int) == 34) = false := by simp only [beq_eq_false_iff_ne, ne_eq]; omega
     rw [decide_eq_false h3] at f3
     by_cases h4 : x = 59
     · have q4 : (((x : Nat) : Int) == 59) = true := by simp only [beq_iff_eq]; omega
       rw [decide_eq_true h4] at f4
       rw [tokK_semi _ f1 f2 f3 f4]
       clear f1 f2 f3 f4 h1 h2 h3 h4 hM
       go_enter Tryz.func88, Tryz.ntmps88
       go_wp2_with fail
       refine (HL.out _).mono ?_
       rintro e w' ⟨rfl, rfl⟩
       go_wp2_with fail
       refine (HD.out _).mono ?_
       rintro e w' ⟨rfl, rfl⟩
       go_wp2_with fail
       go_ret2
       exact ⟨ret_ii rfl (by omega), Below.refl _ _⟩
     · have q4 : (((x : Nat) : Int) == 59) = false := by simp only [beq_eq_false_iff_ne, ne_eq]; omega
       rw [decide_eq_false h4] at f4
       have HK := Lib.hid (pastMark_any s k (Nat.le_of_lt hk) hs w hM)
       rw [tokK_mark _ f1 f2 f3 f4]
       simp only
       clear f1 f2 f3 f4 h1 h2 h3 h4 hM
       generalize ((k + markL (rest s k) : Nat) : Int) = b at *
       go_enter Tryz.func88, Tryz.ntmps88
       go_wp2_with fail
       refine (HL.out _).mono ?_
       rintro e w' ⟨rfl, rfl⟩
       go_wp2_with fail
       refine (HD.out _).mono ?_
       rintro e w' ⟨rfl, rfl⟩
       go_wp2_with fail
       refine HK.out.mono ?_
       rintro e w' ⟨rfl, rfl⟩
       go_wp2_with fail
       go_ret2
       exact ⟨ret_ii rfl rfl, Below.refl _ _⟩
def notNl (c : UInt8) : Bool := !(c == 10)
theorem index_nl (l : List UInt8) : Lib.indexByte l 10 = if run notNl l < l.length then (run notNl l : Int) else -1 := by
 induction l with
 | nil => rfl
 | cons c l ih =>
  rw [Lib.indexByte, run]
  by_cases h : c = 10
  · subst h
    rfl
  · have h1 : (c == 10) = false := by simpa using h
    have h2 : notNl c = true := by unfold notNl; rw [h1]; rfl
    rw [h1, h2, if_neg (by simp), if_pos rfl, ih, List.length_cons]
    have := run_le notNl l
    by_cases hl : run notNl l < l.length
    · rw [if_pos hl, if_neg (by simp only [beq_iff_eq]; omega), if_pos (by omega)]; omega
    · rw [if_neg hl, if_pos (by rfl), if_neg (by omega)]
theorem gap_com (l : List UInt8) : gapB true l = ((gapB false (l.drop (run notNl l))).1 + run notNl l, (gapB false (l.drop (run notNl l))).2) := by
 induction l with
 | nil => rfl
 | cons c l ih =>
  by_cases h : c = 10
  · subst h; rfl
  · have h1 : (c == 10) = false := by simpa using h
    have h2 : notNl c = true := by unfold notNl; rw [h1]; rfl
    have h3 : ¬ c.toNat = 10 := by intro e; exact h (UInt8.toNat_inj.1 e)
    rw [gapB, if_neg h3, if_pos rfl, ih, run, if_pos h2]
    simp only [List.drop_succ_cons]
    rfl
set_option maxHeartbeats 1000000 in
theorem pastComment_any (s : ByteArray) (k : Nat) (hk : k ≤ s.size) (hs : s.size ≤ 1000000) (w : World) : Calls Tryz.prog 86 #[.string s, .int .i64 k] w fun e w' => e = .returned (.int .i64 ((k + run notNl (rest s k) : Nat) : Int)) ∧ w = w' := by
 have hle := run_le notNl (rest s k)
 have hsub : (s.extract k s.size).data.toList = rest s k := by
  have e : s.size = k + (s.size - k) := by omega
  conv => lhs; rw [e]
  rw [extract_take, List.take_of_length_le (by rw [rest_len]; omega)]
 have HI : Hid (∀ w, Calls Tryz.prog 87 #[.string (s.extract k s.size), .int .u8 10] w fun e w' => e = .returned (.int .i64 (if run notNl (rest s k) < s.size - k then (run notNl (rest s k) : Int) else -1)) ∧ w = w') := Lib.hid (fun w => by
  refine (Tryz.strings_IndexByte (s.extract k s.size) 10 w).mono ?_
  rintro e w' ⟨rfl, rfl⟩
  refine ⟨ret_i64 ?_, rfl⟩
  rw [hsub]
  have := index_nl (rest s k)
  rw [rest_len] at this
  exact this)
 rw [rest_len] at hle
 clear hsub
 generalize run notNl (rest s k) = n at *
 by_cases h : n < s.size - k
 · rw [if_pos h] at HI
   go_enter Tryz.func86, Tryz.ntmps86
   go_wp2_with fail
   refine (HI.out _).mono ?_
   rintro e w' ⟨rfl, rfl⟩
   go_wp2_with fail
   go_ret
   exact ⟨ret_i64 (by omega), rfl⟩
 · rw [if_neg h] at HI
   go_enter Tryz.func86, Tryz.ntmps86
   go_wp2_with fail
   refine (HI.out _).mono ?_
   rintro e w' ⟨rfl, rfl⟩
   go_wp2_with fail
   go_ret
   exact ⟨ret_i64 (by omega), rfl⟩
end Go.Proofs.YtmlclgkhnekmnaaGreatDoor
