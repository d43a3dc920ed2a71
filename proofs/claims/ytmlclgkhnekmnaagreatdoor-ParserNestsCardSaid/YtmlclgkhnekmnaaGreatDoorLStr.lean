/- lexer's hexAt, escapeAt, pieceAt, unquoted AT EVERY TEXT of at most 1000000 bytes: what they return; no memory that was there turns. Condition: the text's length. -/
import Derived.Test.YtmlclgkhnekmnaaGreatDoorLCardKit
namespace Go.Proofs.YtmlclgkhnekmnaaGreatDoor
open Go.RowKit
theorem index_hex (c : UInt8) : Lib.indexByte [48, 49, 50, 51, 52, 53, 54, 55, 56, 57, 97, 98, 99, 100, 101, 102] c = match hexI c with
 | none => -1
 | some n => (n : Int) := by
 have : ∀ k : Fin 256, Lib.indexByte [48, 49, 50, 51, 52, 53, 54, 55, 56, 57, 97, 98, 99, 100, 101, 102] (UInt8.ofNat k.val) = match hexI (UInt8.ofNat k.val) with
  | none => -1
  | some n => (n : Int) := by decide +kernel
 have h := this ⟨c.toNat, c.toNat_lt⟩
 simpa using h
theorem indexHex_any (c : UInt8) (w : World) : Calls Tryz.prog 87 #[.string ⟨#[48, 49, 50, 51, 52, 53, 54, 55, 56, 57, 97, 98, 99, 100, 101, 102]⟩, .int .u8 (c.toNat : Int)] w fun e w' => e = .returned (.int .i64 (match hexI c with
 | none => -1
 | some n => (n : Int))) ∧ w = w' := by
 have := Tryz.strings_IndexByte ⟨#[48, 49, 50, 51, 52, 53, 54, 55, 56, 57, 97, 98, 99, 100, 101, 102]⟩ (c.toNat : Int) w
 rw [byte_back] at this
 refine this.mono ?_
 rintro e w' ⟨rfl, rfl⟩
 refine ⟨ret_i64 ?_, rfl⟩
 exact index_hex c
theorem indexHex_no (c : UInt8) (h : hexI c = none) (w : World) : Calls Tryz.prog 87 #[.string ⟨#[48, 49, 50, 51, 52, 53, 54, 55, 56, 57, 97, 98, 99, 100, 101, 102]⟩, .int .u8 (c.toNat : Int)] w fun e w' => e = .returned (.int .i64 (-1)) ∧ w = w' := by
 have := indexHex_any c w
 rwa [h] at this
theorem indexHex_yes (c : UInt8) (n : Nat) (h : hexI c = some n) (w : World) : Calls Tryz.prog 87 #[.string ⟨#[48, 49, 50, 51, 52, 53, 54, 55, 56, 57, 97, 98, 99, 100, 101, 102]⟩, .int .u8 (c.toNat : Int)] w fun e w' => e = .returned (.int .i64 (n : Int)) ∧ w = w' := by
 have := indexHex_any c w
 rwa [h] at this
theorem is1_eq (d c : UInt8) : is1 d c = decide (c.toNat = d.toNat) := by
 unfold is1
 simp only [List.contains_cons, List.contains_nil, Bool.or_false]
 rw [Bool.eq_iff_iff, beq_iff_eq, decide_eq_true_eq]
 exact ⟨fun h => by rw [h], fun h => UInt8.toNat_inj.1 h⟩
def pieceV (k : Nat) : Option (UInt8 × Nat) → Value
 | none => .tuple #[.int .u8 0, .int .i64 (k : Int)]
 | some (c, n) => .tuple #[.int .u8 (c.toNat : Int), .int .i64 ((k + n : Nat) : Int)]
theorem pieceV_shape (k : Nat) (o : Option (UInt8 × Nat)) : ∃ a b, pieceV k o = .tuple #[.int .u8 a, .int .i64 b] := by
 cases o with
 | none => exact ⟨_, _, rfl⟩
 | some p => obtain ⟨c, n⟩ := p; exact ⟨_, _, rfl⟩
theorem ret_vi {v u : Value} {b d : Int} (h : v = u) (g : b = d) : Ending.returned (.tuple #[v, .int .i64 b]) = .returned (.tuple #[u, .int .i64 d]) := by rw [h, g]
theorem ret_bi {a b c d : Int} (h : a = c) (g : b = d) : Ending.returned (.tuple #[.int .u8 a, .int .i64 b]) = .returned (.tuple #[.int .u8 c, .int .i64 d]) := by rw [h, g]
theorem hex_bits (x y : Nat) (hx : x < 16) (hy : y < 16) : bits BinOp.or IntKind.i64 ((x : Int) * 16) (y : Int) % 256 = (((UInt8.ofNat (16 * x + y)).toNat : Nat) : Int) := by
 have : ∀ a b : Fin 16, bits BinOp.or IntKind.i64 ((a.val : Int) * 16) (b.val : Int) % 256 = (((UInt8.ofNat (16 * a.val + b.val)).toNat : Nat) : Int) := by decide +kernel
 exact this ⟨x, hx⟩ ⟨y, hy⟩
theorem hexP_two (s : ByteArray) (k : Nat) (h : k + 1 < s.size) : hexP (rest s k) = match hexI s[k], hexI s[k + 1] with
 | some x, some y => some (UInt8.ofNat (16 * x + y), 4)
 | _, _ => none := by
 rw [rest_cons s k (by omega), rest_cons s (k + 1) h]
 rfl
theorem hexP_short (s : ByteArray) (k : Nat) (h : ¬ k + 1 < s.size) : hexP (rest s k) = none := by
 have := rest_len s k
 cases hr : rest s k with
 | nil => rfl
 | cons a t =>
  cases t with
  | nil => rfl
  | cons b u => rw [hr] at this; simp at this; omega
set_option maxHeartbeats 1000000 in
theorem hexAt_any (s : ByteArray) (k : Nat) (hk : k < s.size) (hs : s.size ≤ 1000000) (w : World) : Calls Tryz.prog 179 #[.string s, .int .i64 k] w fun e w' => e = .returned (pieceV k (hexP (rest s (k + 2)))) ∧ w = w' := by
 by_cases hl : k + 3 < s.size
 · rw [hexP_two s (k + 2) hl]
   have hl2 : k + 2 < s.size := by omega
   have d : decide ((s.size : Int) - (k : Int) < 4) = false := by rw [decide_eq_false_iff_not]; omega
   cases h1 : hexI s[k + 2] with
   | none =>
    have HA := Lib.hid (fun w => indexHex_no s[k + 2] h1 w)
    cases h2 : hexI s[k + 2 + 1] with
    | none =>
     have HB := Lib.hid (fun w => indexHex_no s[k + 3] h2 w)
     simp only [pieceV]
     clear h1 h2
     go_enter Tryz.func179, Tryz.ntmps179
     go_wp2_with fail
     refine (HA.out _).mono ?_
     rintro e w' ⟨rfl, rfl⟩
     go_wp2_with fail
     refine (HB.out _).mono ?_
     rintro e w' ⟨rfl, rfl⟩
     go_wp2_with fail
     go_ret2
     exact ⟨rfl, rfl⟩
    | some y =>
     have HB := Lib.hid (fun w => indexHex_yes s[k + 3] y h2 w)
     simp only [pieceV]
     clear h1 h2
     go_enter Tryz.func179, Tryz.ntmps179
     go_wp2_with fail
     refine (HA.out _).mono ?_
     rintro e w' ⟨rfl, rfl⟩
     go_wp2_with fail
     refine (HB.out _).mono ?_
     rintro e w' ⟨rfl, rfl⟩
     go_wp2_with fail
     go_ret2
     exact ⟨rfl, rfl⟩
   | some x =>
    have hx := hexI_lt h1
    have HA := Lib.hid (fun w => indexHex_yes s[k + 2] x h1 w)
    cases h2 : hexI s[k + 2 + 1] with
    | none =>
     have HB := Lib.hid (fun w => indexHex_no s[k + 3] h2 w)
     simp only [pieceV]
     clear h1 h2
     go_enter Tryz.func179, Tryz.ntmps179
     go_wp2_with fail
     refine (HA.out _).mono ?_
     rintro e w' ⟨rfl, rfl⟩
     go_wp2_with fail
     refine (HB.out _).mono ?_
     rintro e w' ⟨rfl, rfl⟩
     go_wp2_with fail
     go_ret2
     exact ⟨rfl, rfl⟩
    | some y =>
     have hy := hexI_lt h2
     have HB := Lib.hid (fun w => indexHex_yes s[k + 3] y h2 w)
     simp only [pieceV]
     clear h1 h2
     go_enter Tryz.func179, Tryz.ntmps179
     go_wp2_with fail
     refine (HA.out _).mono ?_
     rintro e w' ⟨rfl, rfl⟩
     go_wp2_with fail
     refine (HB.out _).mono ?_
     rintro e w' ⟨rfl, rfl⟩
     go_wp2_with fail
     go_ret2
     exact ⟨ret_bi (hex_bits x y hx hy) (by omega), rfl⟩
 · rw [hexP_short s (k + 2) (by omega)]
   have d : decide ((s.size : Int) - (k : Int) < 4) = true := by rw [decide_eq_true_eq]; omega
   simp only [pieceV]
   go_enter Tryz.func179, Tryz.ntmps179
   go_wp2_with fail
   go_ret2
   exact ⟨rfl, rfl⟩
theorem escQ_cons (s : ByteArray) (k x : Nat) (h : k < s.size) (hx : s[k].toNat = x) : escQ (rest s k) = if x = 110 then some (10, 2) else if x = 116 then some (9, 2) else if x = 92 ∨ x = 34 then some (s[k], 2) else if x = 120 then hexP (rest s (k + 1)) else none := by
 rw [rest_cons s k h, ← hx]
 rfl
set_option maxHeartbeats 1000000 in
theorem escapeAt_any (s : ByteArray) (k : Nat) (hk : k < s.size) (hs : s.size ≤ 1000000) (w : World) : Calls Tryz.prog 155 #[.string s, .int .i64 k] w fun e w' => e = .returned (pieceV k (escQ (rest s (k + 1)))) ∧ w = w' := by
 by_cases hl : k + 1 < s.size
 · have d : ((k : Int) + 1 == (s.size : Int)) = false := by simp only [beq_eq_false_iff_ne, ne_eq]; omega
   obtain ⟨x, hx⟩ : ∃ x, s[k + 1].toNat = x := ⟨_, rfl⟩
   rw [escQ_cons s (k + 1) x hl hx]
   have hx256 : x < 256 := by rw [← hx]; exact UInt8.toNat_lt _
   by_cases h1 : x = 110
   · have h1b := h1
     rw [if_pos h1]
     have e110 : (((x : Nat) : Int) == 110) = true := by simp only [beq_iff_eq]; omega
     have e116 : (((x : Nat) : Int) == 116) = false := by simp only [beq_eq_false_iff_ne, ne_eq]; omega
     have e92 : (((x : Nat) : Int) == 92) = false := by simp only [beq_eq_false_iff_ne, ne_eq]; omega
     have e34 : (((x : Nat) : Int) == 34) = false := by simp only [beq_eq_false_iff_ne, ne_eq]; omega
     have e120 : (((x : Nat) : Int) == 120) = false := by simp only [beq_eq_false_iff_ne, ne_eq]; omega
     simp only [pieceV]
     clear h1 h1b
     go_enter Tryz.func155, Tryz.ntmps155
     go_wp2_with fail
     go_ret2
     exact ⟨ret_bi rfl (by omega), rfl⟩
   · by_cases h2 : x = 116
     · have h2b := h2
       rw [if_neg h1, if_pos h2]
       have e110 : (((x : Nat) : Int) == 110) = false := by simp only [beq_eq_false_iff_ne, ne_eq]; omega
       have e116 : (((x : Nat) : Int) == 116) = true := by simp only [beq_iff_eq]; omega
       have e92 : (((x : Nat) : Int) == 92) = false := by simp only [beq_eq_false_iff_ne, ne_eq]; omega
       have e34 : (((x : Nat) : Int) == 34) = false := by simp only [beq_eq_false_iff_ne, ne_eq]; omega
       have e120 : (((x : Nat) : Int) == 120) = false := by simp only [beq_eq_false_iff_ne, ne_eq]; omega
       simp only [pieceV]
       clear h1 h2 h2b
       go_enter Tryz.func155, Tryz.ntmps155
       go_wp2_with fail
       go_ret2
       exact ⟨ret_bi rfl (by omega), rfl⟩
     · by_cases h3 : x = 92
       · have h3b := h3
         rw [if_neg h1, if_neg h2, if_pos (.inl h3)]
         have e110 : (((x : Nat) : Int) == 110) = false := by simp only [beq_eq_false_iff_ne, ne_eq]; omega
         have e116 : (((x : Nat) : Int) == 116) = false := by simp only [beq_eq_false_iff_ne, ne_eq]; omega
         have e92 : (((x : Nat) : Int) == 92) = true := by simp only [beq_iff_eq]; omega
         have e34 : (((x : Nat) : Int) == 34) = false := by simp only [beq_eq_false_iff_ne, ne_eq]; omega
         have e120 : (((x : Nat) : Int) == 120) = false := by simp only [beq_eq_false_iff_ne, ne_eq]; omega
         simp only [pieceV]
         clear h1 h2 h3 h3b
         go_enter Tryz.func155, Tryz.ntmps155
         go_wp2_with fail
         go_ret2
         exact ⟨ret_bi (by omega) (by omega), rfl⟩
       · by_cases h4 : x = 34
         · have h4b := h4
           rw [if_neg h1, if_neg h2, if_pos (.inr h4)]
           have e110 : (((x : Nat) : Int) == 110) = false := by simp only [beq_eq_false_iff_ne, ne_eq]; omega
           have e116 : (((x : Nat) : Int) == 116) = false := by simp only [beq_eq_false_iff_ne, ne_eq]; omega
           have e92 : (((x : Nat) : Int) == 92) = false := by simp only [beq_eq_false_iff_ne, ne_eq]; omega
           have e34 : (((x : Nat) : Int) == 34) = true := by simp only [beq_iff_eq]; omega
           have e120 : (((x : Nat) : Int) == 120) = false := by simp only [beq_eq_false_iff_ne, ne_eq]; omega
           simp only [pieceV]
           clear h1 h2 h3 h4 h4b
           go_enter Tryz.func155, Tryz.ntmps155
           go_wp2_with fail
           go_ret2
           exact ⟨ret_bi (by omega) (by omega), rfl⟩
         · by_cases h5 : x = 120
           · have h5b := h5
             rw [if_neg h1, if_neg h2, if_neg (by omega), if_pos h5]
             have e110 : (((x : Nat) : Int) == 110) = false := by simp only [beq_eq_false_iff_ne, ne_eq]; omega
             have e116 : (((x : Nat) : Int) == 116) = false := by simp only [beq_eq_false_iff_ne, ne_eq]; omega
             have e92 : (((x : Nat) : Int) == 92) = false := by simp only [beq_eq_false_iff_ne, ne_eq]; omega
             have e34 : (((x : Nat) : Int) == 34) = false := by simp only [beq_eq_false_iff_ne, ne_eq]; omega
             have e120 : (((x : Nat) : Int) == 120) = true := by simp only [beq_iff_eq]; omega
             have HX := Lib.hid (fun w => hexAt_any s k hk hs w)
             obtain ⟨a, b, hab⟩ := pieceV_shape k (hexP (rest s (k + 2)))
             have hk2 : k + 1 + 1 = k + 2 := rfl
             rw [hk2, hab]
             rw [hab] at HX
             clear hk2 hab
             clear h1 h2 h3 h4 h5 h5b
             go_enter Tryz.func155, Tryz.ntmps155
             go_wp2_with fail
             refine (HX.out _).mono ?_
             rintro e w' ⟨rfl, rfl⟩
             go_wp2_with fail
             go_ret2
             exact ⟨rfl, rfl⟩
           · have h5b := h5
             rw [if_neg h1, if_neg h2, if_neg (by omega), if_neg h5]
             have e110 : (((x : Nat) : Int) == 110) = false := by simp only [beq_eq_false_iff_ne, ne_eq]; omega
             have e116 : (((x : Nat) : Int) == 116) = false := by simp only [beq_eq_false_iff_ne, ne_eq]; omega
             have e92 : (((x : Nat) : Int) == 92) = false := by simp only [beq_eq_false_iff_ne, ne_eq]; omega
             have e34 : (((x : Nat) : Int) == 34) = false := by simp only [beq_eq_false_iff_ne, ne_eq]; omega
             have e120 : (((x : Nat) : Int) == 120) = false := by simp only [beq_eq_false_iff_ne, ne_eq]; omega
             simp only [pieceV]
             clear h1 h2 h3 h4 h5 h5b
             go_enter Tryz.func155, Tryz.ntmps155
             go_wp2_with fail
             go_ret2
             exact ⟨rfl, rfl⟩
 · have e : escQ (rest s (k + 1)) = none := by rw [rest_end s (k + 1) hl]; rfl
   rw [e]
   have d : ((k : Int) + 1 == (s.size : Int)) = true := by simp only [beq_iff_eq]; omega
   simp only [pieceV]
   clear e
   go_enter Tryz.func155, Tryz.ntmps155
   go_wp2_with fail
   go_ret2
   exact ⟨rfl, rfl⟩
theorem pieceQ_cons (s : ByteArray) (k x : Nat) (h : k < s.size) (hx : s[k].toNat = x) : pieceQ (rest s k) = if x = 92 then escQ (rest s (k + 1)) else if x < 32 ∨ x = 127 then none else some (s[k], 1) := by
 rw [rest_cons s k h, ← hx]
 rfl
set_option maxHeartbeats 1000000 in
theorem pieceAt_any (s : ByteArray) (k : Nat) (hk : k < s.size) (hs : s.size ≤ 1000000) (w : World) : Calls Tryz.prog 135 #[.string s, .int .i64 k] w fun e w' => e = .returned (pieceV k (pieceQ (rest s k))) ∧ w = w' := by
 obtain ⟨x, hx⟩ : ∃ x, s[k].toNat = x := ⟨_, rfl⟩
 rw [pieceQ_cons s k x hk hx]
 have hx256 : x < 256 := by rw [← hx]; exact UInt8.toNat_lt _
 by_cases h1 : x = 92
 · rw [if_pos h1]
   have e1 : (((x : Nat) : Int) == 92) = true := by simp only [beq_iff_eq]; omega
   have HX := Lib.hid (fun w => escapeAt_any s k hk hs w)
   obtain ⟨a, b, hab⟩ := pieceV_shape k (escQ (rest s (k + 1)))
   rw [hab]
   rw [hab] at HX
   clear hab h1
   go_enter Tryz.func135, Tryz.ntmps135
   go_wp2_with fail
   refine (HX.out _).mono ?_
   rintro e w' ⟨rfl, rfl⟩
   go_wp2_with fail
   go_ret2
   exact ⟨rfl, rfl⟩
 · rw [if_neg h1]
   have e1 : (((x : Nat) : Int) == 92) = false := by simp only [beq_eq_false_iff_ne, ne_eq]; omega
   by_cases h2 : x < 32
   · rw [if_pos (.inl h2)]
     have e2 : decide (((x : Nat) : Int) < 32) = true := by rw [decide_eq_true_eq]; omega
     simp only [pieceV]
     clear h1 h2
     go_enter Tryz.func135, Tryz.ntmps135
     go_wp2_with fail
     go_ret2
     exact ⟨rfl, rfl⟩
   · have e2 : decide (((x : Nat) : Int) < 32) = false := by rw [decide_eq_false_iff_not]; omega
     by_cases h3 : x = 127
     · rw [if_pos (.inr h3)]
       have e3 : (((x : Nat) : Int) == 127) = true := by simp only [beq_iff_eq]; omega
       simp only [pieceV]
       clear h1 h2 h3
       go_enter Tryz.func135, Tryz.ntmps135
       go_wp2_with fail
       go_ret2
       exact ⟨rfl, rfl⟩
     · rw [if_neg (by omega)]
       have e3 : (((x : Nat) : Int) == 127) = false := by simp only [beq_eq_false_iff_ne, ne_eq]; omega
       simp only [pieceV]
       clear h1 h2 h3
       go_enter Tryz.func135, Tryz.ntmps135
       go_wp2_with fail
       go_ret2
       exact ⟨ret_bi (by omega) (by omega), rfl⟩
def goQ (acc : List UInt8) (n : Nat) : Option (List UInt8 × Nat) → Option (List UInt8 × Nat)
 | some (x, k) => some (acc ++ x, n + k)
 | none => none
theorem goQ_step (acc : List UInt8) (m : Nat) (l : List UInt8) (h : fst (is1 34) l = false) (c : UInt8) (n : Nat) (hp : pieceQ l = some (c, n)) : goQ acc m (uqB l) = goQ (acc ++ [c]) (m + n) (uqB (l.drop n)) := by
 rw [uqB_step l h c n hp]
 cases uqB (l.drop n) with
 | none => rfl
 | some y =>
  obtain ⟨y, j⟩ := y
  simp [goQ, Nat.add_assoc]
def UqEnd (k B : Nat) (o : Option (List UInt8 × Nat)) (w : World) (e : Ending) (w' : World) : Prop :=
 match o with
 | none => e = .returned (.tuple #[.slice none 0 0, .int .i64 (k : Int)]) ∧ Below w.heap.size w w'
 | some (x, n) => ∃ v, e = .returned (.tuple #[v, .int .i64 ((k + n : Nat) : Int)]) ∧ w'.ownsRow B 5 1 v x.length (bcells x) ∧ Below w.heap.size w w'
set_option maxRecDepth 100000 in
set_option maxHeartbeats 1000000 in
theorem unquoted_any (s : ByteArray) (k : Nat) (_hk : k ≤ s.size) (hs : s.size ≤ 1000000) (w : World) : Calls Tryz.prog 110 #[.string s, .int .i64 k] w (UqEnd k w.heap.size (uqS (rest s k)) w) := by
 obtain ⟨i0, hi, hz0, hz1, hz2⟩ := info_parts Tryz.info5
 by_cases h34 : fst (is1 34) (rest s k) = true
 · have hlt0 : k < s.size := st_len ⟨#[34]⟩ s k h34
   have HC := Lib.hid (fun w => stands_yes s ⟨#[34]⟩ k h34 w)
   obtain ⟨R, hR⟩ : ∃ R, R = uqS (rest s k) := ⟨_, rfl⟩
   rw [← hR]
   have HR : Hid (goQ [] 1 (uqB (rest s (k + 1))) = R) := Lib.hid (by
    rw [hR]
    unfold uqS
    rw [if_pos h34, rest_drop]
    cases uqB (rest s (k + 1)) with
    | none => rfl
    | some x => obtain ⟨x, n⟩ := x; simp [goQ, Nat.add_comm])
   clear h34 hR
   go_enter Tryz.func110, Tryz.ntmps110
   go_wp2_with fail
   refine (HC.out _).mono ?_
   rintro e w' ⟨rfl, rfl⟩
   go_wp2_with fail
   go_loopw [4, 6] (fun v u wr => ∃ (i : Nat) (acc : List UInt8) (v0 : Value), v0 = v ∧ k + 1 ≤ i ∧ i ≤ s.size ∧ u = .int .i64 i ∧ Hid (acc.length ≤ i) ∧ Hid (wr.ownsRow w.heap.size 5 1 v0 acc.length (bcells acc)) ∧ Hid (Below w.heap.size w wr) ∧ Hid (goQ acc (i - k) (uqB (rest s i)) = R)) (fun _ u _ => s.size - (intOf u).toNat)
   case atStart => exact ⟨k + 1, [], _, rfl, Nat.le_refl _, by omega, rfl, Lib.hid (by simp), Lib.hid ⟨rfl, .inl ⟨rfl, rfl⟩⟩, Lib.hid (Below.refl _ _), Lib.hid (by rw [Nat.add_sub_cancel_left]; exact HR.out)⟩
   case round =>
    obtain ⟨i, acc, v, rfl, hki, hi0, rfl, hacc, hown, hb, hrel⟩ := hrel
    by_cases hlt : i < s.size
    · have hfst := fst_at (is1 34) s i hlt
      have hne := rest_ne s i hlt
      obtain ⟨x, hx⟩ : ∃ x, s[i].toNat = x := ⟨_, rfl⟩
      have h1e : is1 34 s[i] = decide (x = 34) := by rw [← hx, is1_eq]; rfl
      by_cases hq : x = 34
      · have e1 : (((x : Nat) : Int) == 34) = true := by simp only [beq_iff_eq]; omega
        have hf : fst (is1 34) (rest s i) = true := by rw [hfst, h1e, decide_eq_true hq]
        have HV : Hid (R = some (acc, i - k + 1)) := Lib.hid (by
         rw [← hrel.out, uqB_end _ hf]; simp [goQ])
        obtain ⟨A, cp, rfl⟩ := slice_form hown.out
        clear hq hfst hne HC h1e hf hi hz0 hz1 hz2
        go_wp2_with fail
        go_ret2
        rw [HV.out]
        exact ⟨_, ret_vi rfl (by omega), hown.out, hb.out⟩
      · have e1 : (((x : Nat) : Int) == 34) = false := by simp only [beq_eq_false_iff_ne, ne_eq]; omega
        have hf : fst (is1 34) (rest s i) = false := by rw [hfst, h1e, decide_eq_false hq]
        have HP := Lib.hid (fun (W : World) => pieceAt_any s i hlt hs W)
        cases hw : pieceQ (rest s i) with
        | none =>
         rw [hw] at HP
         simp only [pieceV] at HP
         have HV : Hid (R = none) := Lib.hid (by rw [← hrel.out, uqB_bad _ hf hw]; rfl)
         have e2 : (((i : Nat) : Int) == ((i : Nat) : Int)) = true := by simp
         clear hq hfst hne HC h1e hf hw hown hi hz0 hz1 hz2
         go_wp2_with fail
         refine (HP.out _).mono ?_
         rintro e w1 ⟨rfl, rfl⟩
         go_wp2_with fail
         go_ret2
         rw [HV.out]
         exact ⟨rfl, hb.out⟩
        | some p =>
         obtain ⟨c, n⟩ := p
         rw [hw] at HP
         simp only [pieceV] at HP
         obtain ⟨hn1, hn2⟩ := pieceQ_len hw
         rw [rest_len] at hn2
         have HG : Hid (goQ (acc ++ [c]) (i + n - k) (uqB (rest s (i + n))) = R) := Lib.hid (by
          rw [← hrel.out, goQ_step _ _ _ hf c n hw, rest_drop, show i - k + n = i + n - k by omega])
         have HAC := Lib.hid (show acc.length ≤ 1000000 by have := hacc.out; omega)
         have HACC : Hid ((acc ++ [c]).length ≤ i + n) := Lib.hid (by rw [List.length_append]; have := hacc.out; simp; omega)
         have e2 : ((((i + n : Nat) : Nat) : Int) == ((i : Nat) : Int)) = false := by simp only [beq_eq_false_iff_ne, ne_eq]; omega
         have hz256 : 0 ≤ (c.toNat : Int) ∧ (c.toNat : Int) < 256 := by have := c.toNat_lt; omega
         obtain ⟨z, hz⟩ : ∃ z : Int, z = (c.toNat : Int) := ⟨_, rfl⟩
         rw [← hz] at HP hz256
         have HZ := Lib.hid hz
         obtain ⟨g1, g2⟩ := hz256
         obtain ⟨t, ht⟩ : ∃ t : Int, t = ((i + n : Nat) : Int) := ⟨_, rfl⟩
         rw [← ht] at HP e2
         have HT := Lib.hid ht
         have hws : w.heap.size ≤ wr.heap.size := hb.out.size
         have HWS := Lib.hid hws
         clear hq hfst hne HC h1e hf hw hacc hz ht hws
         go_wp2_with fail
         refine (HP.out _).mono ?_
         rintro e w1 ⟨rfl, rfl⟩
         go_wp2_with (at_builtin; refine wpList_append_own2 _ rfl _ _ 109 rfl w.heap.size 5 i0 (.int .u8 0) 1 1 Tryz.underlying109 hi hz0 hz1 hz2 rfl (by decide) _ _ _ rfl (World.ownsRow.alloc hown.out _) ⟨wr.heap.size, 0, none⟩ 1 1 [.int .u8 z] rfl rfl (new_cell _ _ _) ?c2 ?c3 ?c4 ?c5 ?_)
         case c2 => simp [Value.oneCell']
         case c3 => have := HAC.out; unfold maxLen; omega
         case c4 => have := HAC.out; omega
         case c5 => rw [World.size_alloc]; have := HWS.out; omega
         intro v2 w2 hown2 hgr2 _
         have HO2 : Hid (w2.ownsRow w.heap.size 5 1 v2 (acc ++ [c]).length (bcells (acc ++ [c]))) := Lib.hid (by
          rw [bcells_append, List.length_append, HZ.out] at *
          exact hown2)
         have HB2 := Lib.hid (below_append hb.out hown.out hgr2)
         clear hown2 hgr2
         go_wp2_with fail
         go_roundw
         case rel => exact ⟨i + n, acc ++ [c], _, rfl, by omega, by omega, by rw [HT.out], HACC, HO2, HB2, HG⟩
         case measure => have := HT.out; simp [intOf]; omega
    · have HV : Hid (R = none) := Lib.hid (by rw [← hrel.out, rest_end s i hlt]; rfl)
      clear HC hown hi hz0 hz1 hz2
      go_wp2_with fail
      go_ret2
      rw [HV.out]
      exact ⟨rfl, hb.out⟩
 · have h34f : fst (is1 34) (rest s k) = false := by simpa using h34
   have HC := Lib.hid (fun w => stands_no s ⟨#[34]⟩ k h34f w)
   have e : uqS (rest s k) = none := by unfold uqS; rw [if_neg h34]
   rw [e]
   clear h34 h34f e hi hz0 hz1 hz2
   go_enter Tryz.func110, Tryz.ntmps110
   go_wp2_with fail
   refine (HC.out _).mono ?_
   rintro e w' ⟨rfl, rfl⟩
   go_wp2_with fail
   go_ret2
   exact ⟨rfl, Below.refl _ _⟩
end Go.Proofs.YtmlclgkhnekmnaaGreatDoor
