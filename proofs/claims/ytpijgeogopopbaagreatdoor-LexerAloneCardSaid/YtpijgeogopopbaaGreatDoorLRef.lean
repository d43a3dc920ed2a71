/-
  emendref09's is, letter, digit, hex, has, Reserved, Named, Exported AT EVERY TEXT of at most 1000000 bytes: what they return; no memory that was there turns. Condition: the text's length.
-/
import Derived.Test.YtpijgeogopopbaaGreatDoorLTold
namespace Go.Proofs.YtpijgeogopopbaaGreatDoor
open Go.RowKit

theorem ris_any (s : ByteArray) (k : Nat) (d : UInt8) (w : World) : Calls Tryz.prog 22 #[.string s, .int .i64 k, .int .u8 (d.toNat : Int)] w fun e w' => e = .returned (.bool (fst (is1 d) (rest s k))) ∧ w = w' := by
  by_cases h : k < s.size
  · rw [fst_at _ s k h, is1_eq]
    have d0 : decide (k < s.size) = true := by simpa using h
    have e : (decide (s[k].toNat = d.toNat)) = (((s[k].toNat : Nat) : Int) == ((d.toNat : Nat) : Int)) := by
      rw [Bool.eq_iff_iff, decide_eq_true_eq, beq_iff_eq]; omega
    rw [e]
    clear e
    generalize (d.toNat : Int) = z at *
    go_enter Tryz.func22, Tryz.ntmps22
    go_wp2_with fail
    go_ret
    exact ⟨rfl, rfl⟩
  · rw [fst_end _ s k h]
    have d0 : decide (k < s.size) = false := by simpa using h
    generalize (d.toNat : Int) = z at *
    go_enter Tryz.func22, Tryz.ntmps22
    go_wp2_with fail
    go_ret
    exact ⟨rfl, rfl⟩
theorem rletter_any (s : ByteArray) (k : Nat) (w : World) : Calls Tryz.prog 37 #[.string s, .int .i64 k] w fun e w' => e = .returned (.bool (fst isLt (rest s k))) ∧ w = w' := by
  by_cases h : k < s.size
  · rw [fst_at _ s k h]
    have d0 : decide (k < s.size) = true := by simpa using h
    obtain ⟨x, hx⟩ : ∃ x, s[k].toNat = x := ⟨_, rfl⟩
    have e : isLt s[k] = (decide (97 ≤ (x : Int)) && decide ((x : Int) ≤ 122) || decide (65 ≤ (x : Int)) && decide ((x : Int) ≤ 90) || ((x : Int) == 95)) := by
      unfold isLt
      rw [hx, Bool.eq_iff_iff]
      simp only [Bool.or_eq_true, Bool.and_eq_true, decide_eq_true_eq, beq_iff_eq]
      omega
    rw [e]
    clear e
    cases q1 : decide (97 ≤ (x : Int)) <;> cases q2 : decide ((x : Int) ≤ 122) <;> cases q3 : decide (65 ≤ (x : Int)) <;> cases q4 : decide ((x : Int) ≤ 90) <;> cases q5 : ((x : Int) == 95)
    all_goals
      go_enter Tryz.func37, Tryz.ntmps37
      go_wp2_with fail
      go_ret
      exact ⟨rfl, rfl⟩
  · rw [fst_end _ s k h]
    have d0 : decide (k < s.size) = false := by simpa using h
    go_enter Tryz.func37, Tryz.ntmps37
    go_wp2_with fail
    go_ret
    exact ⟨rfl, rfl⟩
theorem rdigit_any (s : ByteArray) (k : Nat) (w : World) : Calls Tryz.prog 38 #[.string s, .int .i64 k] w fun e w' => e = .returned (.bool (fst isD (rest s k))) ∧ w = w' := by
  by_cases h : k < s.size
  · rw [fst_at _ s k h]
    have d0 : decide (k < s.size) = true := by simpa using h
    obtain ⟨x, hx⟩ : ∃ x, s[k].toNat = x := ⟨_, rfl⟩
    have e : isD s[k] = (decide (48 ≤ (x : Int)) && decide ((x : Int) ≤ 57)) := by
      rw [isD_eq, hx, Bool.eq_iff_iff]
      simp only [Bool.and_eq_true, decide_eq_true_eq]
      omega
    rw [e]
    clear e
    cases q1 : decide (48 ≤ (x : Int)) <;> cases q2 : decide ((x : Int) ≤ 57)
    all_goals
      go_enter Tryz.func38, Tryz.ntmps38
      go_wp2_with fail
      go_ret
      exact ⟨rfl, rfl⟩
  · rw [fst_end _ s k h]
    have d0 : decide (k < s.size) = false := by simpa using h
    go_enter Tryz.func38, Tryz.ntmps38
    go_wp2_with fail
    go_ret
    exact ⟨rfl, rfl⟩
/-- The number of the hex digit that a text begins with; -1: none. -/
def hexZ (l : List UInt8) : Int := match l with
  | [] => -1
  | c :: _ => match hexI c with
    | none => -1
    | some n => (n : Int)
theorem hexI_eq (c : UInt8) : (match hexI c with
    | none => (-1 : Int)
    | some n => (n : Int)) = if 48 ≤ c.toNat ∧ c.toNat ≤ 57 then (c.toNat : Int) - 48 else if 97 ≤ c.toNat ∧ c.toNat ≤ 102 then (c.toNat : Int) - 87 else -1 := by
  have : ∀ k : Fin 256, (match hexI (UInt8.ofNat k.val) with
    | none => (-1 : Int)
    | some n => (n : Int)) = if 48 ≤ k.val ∧ k.val ≤ 57 then (k.val : Int) - 48 else if 97 ≤ k.val ∧ k.val ≤ 102 then (k.val : Int) - 87 else -1 := by decide +kernel
  have h := this ⟨c.toNat, c.toNat_lt⟩
  simpa using h
theorem rhex_any (s : ByteArray) (k : Nat) (w : World) : Calls Tryz.prog 65 #[.string s, .int .i64 k] w fun e w' => e = .returned (.int .i64 (hexZ (rest s k))) ∧ w = w' := by
  have HD := Lib.hid (fun w => rdigit_any s k w)
  by_cases h : k < s.size
  · have d0 : decide (k < s.size) = true := by simpa using h
    obtain ⟨x, hx⟩ : ∃ x, s[k].toNat = x := ⟨_, rfl⟩
    have e : hexZ (rest s k) = if 48 ≤ x ∧ x ≤ 57 then (x : Int) - 48 else if 97 ≤ x ∧ x ≤ 102 then (x : Int) - 87 else -1 := by
      rw [rest_cons s k h]
      show (match hexI s[k] with
        | none => (-1 : Int)
        | some n => (n : Int)) = _
      rw [hexI_eq, hx]
    have hfd : fst isD (rest s k) = (decide (48 ≤ x) && decide (x ≤ 57)) := by rw [fst_at _ s k h, isD_eq, hx]
    rw [hfd] at HD
    rw [e]
    have h256 : x < 256 := by rw [← hx]; exact UInt8.toNat_lt _
    clear e hfd
    by_cases h1 : 48 ≤ x ∧ x ≤ 57
    · rw [if_pos h1]
      rw [decide_eq_true h1.1, decide_eq_true h1.2] at HD
      obtain ⟨g1, g2⟩ := h1
      obtain ⟨y, rfl⟩ : ∃ y, x = 48 + y := ⟨x - 48, by omega⟩
      go_enter Tryz.func65, Tryz.ntmps65
      go_wp2_with fail
      refine (HD.out _).mono ?_
      rintro e w' ⟨rfl, rfl⟩
      go_wp2_with fail
      go_ret
      exact ⟨ret_i64 (by omega), rfl⟩
    · rw [if_neg h1]
      have hb : (decide (48 ≤ x) && decide (x ≤ 57)) = false := by
        rw [Bool.eq_false_iff]; intro hh; rw [Bool.and_eq_true, decide_eq_true_eq, decide_eq_true_eq] at hh; exact h1 hh
      rw [hb] at HD
      clear hb
      by_cases h2 : 97 ≤ x ∧ x ≤ 102
      · rw [if_pos h2]
        obtain ⟨g1, g2⟩ := h2
        clear h1
        obtain ⟨y, rfl⟩ : ∃ y, x = 97 + y := ⟨x - 97, by omega⟩
        have q1 : decide (97 ≤ ((97 + y : Nat) : Int)) = true := by rw [decide_eq_true_eq]; omega
        have q2 : decide (((97 + y : Nat) : Int) ≤ 102) = true := by rw [decide_eq_true_eq]; omega
        go_enter Tryz.func65, Tryz.ntmps65
        go_wp2_with fail
        refine (HD.out _).mono ?_
        rintro e w' ⟨rfl, rfl⟩
        go_wp2_with fail
        go_ret
        exact ⟨ret_i64 (by omega), rfl⟩
      · rw [if_neg h2]
        by_cases h3 : 97 ≤ x
        · have q1 : decide (97 ≤ (x : Int)) = true := by rw [decide_eq_true_eq]; omega
          have q2 : decide ((x : Int) ≤ 102) = false := by rw [decide_eq_false_iff_not]; omega
          clear h1 h2
          go_enter Tryz.func65, Tryz.ntmps65
          go_wp2_with fail
          refine (HD.out _).mono ?_
          rintro e w' ⟨rfl, rfl⟩
          go_wp2_with fail
          go_ret
          exact ⟨rfl, rfl⟩
        · have q1 : decide (97 ≤ (x : Int)) = false := by rw [decide_eq_false_iff_not]; omega
          clear h1 h2
          go_enter Tryz.func65, Tryz.ntmps65
          go_wp2_with fail
          refine (HD.out _).mono ?_
          rintro e w' ⟨rfl, rfl⟩
          go_wp2_with fail
          go_ret
          exact ⟨rfl, rfl⟩
  · have d0 : decide (k < s.size) = false := by simpa using h
    have e : rest s k = [] := rest_end s k h
    rw [e] at HD ⊢
    clear e
    go_enter Tryz.func65, Tryz.ntmps65
    go_wp2_with fail
    refine (HD.out _).mono ?_
    rintro e w' ⟨rfl, rfl⟩
    go_wp2_with fail
    go_ret
    exact ⟨rfl, rfl⟩
theorem toL_eq (x y : ByteArray) : (x.toList == y.toList) = (x.data.toList == y.data.toList) := by rw [toL, toL]
/-- A slice of texts that lies in a block. -/
def SIn (W : World) (g : Nat) (l : List (List UInt8)) : Prop := ∀ i x, l[i]? = some x → W.cell? ⟨g, i, none⟩ = some (.string ⟨x.toArray⟩)
set_option maxHeartbeats 1000000 in
theorem has_any (l : List (List UInt8)) (hl : l.length ≤ 1000) (g cap : Nat) (s : ByteArray) (w : World) (hI : SIn w g l) : Calls Tryz.prog 57 #[.slice (some ⟨g, 0, none⟩) l.length cap, .string s] w fun e w' => e = .returned (.bool (l.contains s.data.toList)) ∧ w = w' := by
  have HI := Lib.hid hI
  obtain ⟨R, hR⟩ : ∃ R, R = l.contains s.data.toList := ⟨_, rfl⟩
  have HR := Lib.hid hR
  rw [← hR]
  clear hR
  obtain ⟨N, hN⟩ : ∃ N, l.length = N := ⟨_, rfl⟩
  have HN := Lib.hid hN
  rw [hN] at hl ⊢
  clear hI hN
  go_enter Tryz.func57, Tryz.ntmps57
  go_wp2_with fail
  go_loop [5] (fun u => ∃ i : Nat, i ≤ N ∧ u = .int .i64 i ∧ Hid (∀ x ∈ l.take i, (x == s.data.toList) = false)) (fun u => N - (intOf u).toNat)
  case atStart => exact ⟨0, Nat.zero_le _, rfl, Lib.hid (fun x hx => by cases hx)⟩
  case round =>
    obtain ⟨i, hi, rfl, hno⟩ := hrel
    by_cases hlt : i < N
    · obtain ⟨x, hx⟩ : ∃ x, l[i]? = some x := ⟨_, List.getElem?_eq_getElem (by have := HN.out; omega)⟩
      have hc := HI.out i x hx
      have HX := Lib.hid hx
      clear hx
      obtain ⟨m, hm⟩ : ∃ m : ByteArray, m = ⟨x.toArray⟩ := ⟨_, rfl⟩
      rw [← hm] at hc
      have hq : (m.toList == s.toList) = (x == s.data.toList) := by rw [toL_eq, hm]
      clear hm
      cases hb : (x == s.data.toList) with
      | true =>
        rw [hb] at hq
        have HV : Hid (R = true) := Lib.hid (by
          rw [HR.out, List.contains_iff_mem]
          have := List.mem_of_getElem? HX.out
          rw [beq_iff_eq] at hb
          rw [← hb]; exact this)
        clear hb
        go_wp2_with fail
        go_ret
        exact ⟨ret_bool HV.out.symm, rfl⟩
      | false =>
        rw [hb] at hq
        have HNN : Hid (∀ y ∈ l.take (i + 1), (y == s.data.toList) = false) := Lib.hid (fun y hy => by
          obtain ⟨h', e⟩ := List.getElem?_eq_some_iff.1 HX.out
          rw [List.take_succ_eq_append_getElem h', e] at hy
          rcases List.mem_append.1 hy with hy | hy
          · exact hno.out y hy
          · obtain rfl : y = x := by simpa using hy
            exact hb)
        clear hb
        go_wp2_with fail
        go_round
        case rel => exact ⟨i + 1, by omega, by go_num, HNN⟩
        case measure => simp [intOf]; omega
    · have HV : Hid (R = false) := Lib.hid (by
        rw [HR.out, Bool.eq_false_iff]
        intro hc
        rw [List.contains_iff_mem] at hc
        have h1 := hno.out s.data.toList (by rw [List.take_of_length_le (by have := HN.out; omega)]; exact hc)
        simp at h1)
      go_wp2_with fail
      go_ret
      exact ⟨ret_bool HV.out.symm, rfl⟩
theorem sin_new (w : World) (l : List (List UInt8)) (cs : Array Value) (h : cs = (l.map fun x => Value.string ⟨x.toArray⟩).toArray) : SIn (w.alloc (.cells cs 9)) w.heap.size l := by
  intro i x hx
  subst h
  have := cell_at (o := i) (alloc_top w (l.map fun x => Value.string ⟨x.toArray⟩).toArray 9)
  rw [this, List.getElem?_toArray, List.getElem?_map, hx]
  rfl
set_option maxRecDepth 100000 in
set_option maxHeartbeats 1000000 in
theorem rreserved_any (s : ByteArray) (w : World) : Calls Tryz.prog 39 #[.string s] w fun e w' => e = .returned (.bool (isRes s.data.toList)) ∧ Below w.heap.size w w' := by
  have HH := Lib.hid (fun (cs : Array Value) (h : cs = (resW.map fun x => Value.string ⟨x.toArray⟩).toArray) => has_any resW (by decide) w.heap.size 21 s (w.alloc (.cells cs 9)) (sin_new w resW cs h))
  unfold isRes
  generalize resW.contains s.data.toList = R at *
  go_enter Tryz.func39, Tryz.ntmps39
  go_wp2_with fail
  refine (HH.out _ (by rfl)).mono ?_
  rintro e w' ⟨rfl, rfl⟩
  go_wp2_with fail
  go_ret
  exact ⟨rfl, (Below.refl _ _).alloc (Nat.le_refl _) _⟩

end Go.Proofs.YtpijgeogopopbaaGreatDoor
