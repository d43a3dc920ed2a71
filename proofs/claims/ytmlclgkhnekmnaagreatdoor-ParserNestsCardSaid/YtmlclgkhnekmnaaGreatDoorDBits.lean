/- strconv's floatBits AT EVERY DECIMAL that is not nought: it answers, and whether the number is out of range is one for all worlds. Conditions: the decimal lies in a block; the variables that it reads hold what the rows say; no other block turns. -/
import Derived.Test.YtmlclgkhnekmnaaGreatDoorDRound
namespace Go.Proofs.YtmlclgkhnekmnaaGreatDoor
open Go.RowKit
structure BitIn (B : Nat) (W : World) : Prop where
 cheat : CheatIn B W
 low1 : 8 < B
 low2 : 10 < B
 mant : W.cell? ⟨8, 0, none⟩ = some (.int .u64 52)
 expb : W.cell? ⟨8, 1, none⟩ = some (.int .u64 11)
 bias : W.cell? ⟨8, 2, none⟩ = some (.int .i64 (-1023))
 pow : ∃ R o cap, R < B ∧ W.cell? ⟨10, 0, none⟩ = some (.slice (some ⟨R, o, none⟩) 9 cap) ∧ ∀ i, i < 9 → W.cell? ⟨R, o + i, none⟩ = some (.int .i64 (pw i : Nat))
theorem BitIn.below {B : Nat} {W W' : World} (h : BitIn B W) (hb : Below B W W') : BitIn B W' := by
 obtain ⟨R, o, cap, h1, h2, h3⟩ := h.pow
 refine ⟨h.cheat.below hb, h.low1, h.low2, ?_, ?_, ?_, R, o, cap, h1, ?_, fun i hi => ?_⟩
 · rw [hb.cell (p := ⟨8, 0, none⟩) h.low1]; exact h.mant
 · rw [hb.cell (p := ⟨8, 1, none⟩) h.low1]; exact h.expb
 · rw [hb.cell (p := ⟨8, 2, none⟩) h.low1]; exact h.bias
 · rw [hb.cell (p := ⟨10, 0, none⟩) h.low2]; exact h2
 · rw [hb.cell (p := ⟨R, o + i, none⟩) h1]; exact h3 i hi
theorem DIn.hdp {W : World} {g : Nat} {x : Dc} (h : DIn W g x) : W.cell? ⟨g, 801, none⟩ = some (.int .i64 x.dp) := by
 obtain ⟨f, h1, _⟩ := h
 exact h1.hdp
theorem DIn.hneg {W : World} {g : Nat} {x : Dc} (h : DIn W g x) : W.cell? ⟨g, 802, none⟩ = some (.bool false) := by
 obtain ⟨f, h1, _⟩ := h
 exact h1.hneg
theorem DIn.lead {W : World} {g : Nat} {x : Dc} (h : DIn W g x) (hx : x.Ok) : W.cell? ⟨g, 0, none⟩ = some (.int .u8 ((48 + x.lead : Nat) : Int)) := by
 obtain ⟨f, h1, h2⟩ := h
 rw [h1.byte 0 (by omega), h2 0 hx.len.n1, dig_lead hx.len]
 rfl
theorem loopA_done {f : Nat} {s : Dc × Int} (h : ¬ 0 < s.1.dp) : loopA f s = s := by
 cases f with
 | zero => rfl
 | succ f => rw [loopA, if_neg h]
theorem loopB_done {f : Nat} {s : Dc × Int} (h : condB s.1 = false) : loopB f s = s := by
 cases f with
 | zero => rfl
 | succ f => rw [loopB, h]; rfl
theorem wp_scope_two {P : Program} {a : Act} {w : World} {Q : Exit → Act → World → Prop} {c : Code} (J : Nat → Act → World → Prop) (first : c.wp P (fun e a' w' => match e with | .goto l => J l a' w' | e => Q e a' w') a w)
 (pass : ∀ l a w, J l a w → ∃ rest, findLabel c l = some rest ∧ rest.wp P (Exit.noGoto Q) a w) : (Code.scope c).wp P Q a w := by
 intro b k cs
 obtain ⟨e, a₁, w₁, hq, harr⟩ := first b (.inScope c :: k) cs
 cases e with
 | normal => exact ⟨.normal, a₁, w₁, hq, .head step_scope (Steps.trans harr (.one step_inScope))⟩
 | exit id => exact ⟨.exit id, a₁, w₁, hq, fun k' hk => .head step_scope (harr k' (by simp [exitTo, hk]))⟩
 | goto l =>
  obtain ⟨rest, hf, hp⟩ := pass l a₁ w₁ hq
  have hg : gotoIn l (.inScope c :: k) = some (.code rest :: .inScope c :: k) := by simp [gotoIn, hf]
  obtain ⟨e₂, a₂, w₂, hq₂, harr₂⟩ := hp b (.inScope c :: k) cs
  cases e₂ with
  | normal => exact ⟨.normal, a₂, w₂, hq₂, .of_steps (.head step_scope (harr _ hg)) (Steps.trans harr₂ (.one step_inScope))⟩
  | exit id => exact ⟨.exit id, a₂, w₂, hq₂, .of_steps (.head step_scope (harr _ hg)) (fun k' hk => harr₂ k' (by simp [exitTo, hk]))⟩
  | goto l' => exact hq₂.elim
  | ret => exact ⟨_, a₂, w₂, hq₂, .of_steps (.head step_scope (harr _ hg)) harr₂⟩
  | panic ch => exact ⟨_, a₂, w₂, hq₂, .of_steps (.head step_scope (harr _ hg)) harr₂⟩
  | outgrown => exact ⟨_, a₂, w₂, hq₂, .of_steps (.head step_scope (harr _ hg)) harr₂⟩
 | ret => exact ⟨_, a₁, w₁, hq, .of_steps (.one step_scope) harr⟩
 | panic ch => exact ⟨_, a₁, w₁, hq, .of_steps (.one step_scope) harr⟩
 | outgrown => exact ⟨_, a₁, w₁, hq, .of_steps (.one step_scope) harr⟩
theorem shrN_small {k : Nat} {y : Dc} (h1 : 1 ≤ k) (h2 : k ≤ 60) : shrN k y = shr k y := by
 obtain ⟨n, rfl⟩ : ∃ n, k = n + 1 := ⟨k - 1, by omega⟩
 unfold shrN
 rw [shrF, if_neg (by omega)]
theorem shlN_small {k : Nat} {y : Dc} (h1 : 1 ≤ k) (h2 : k ≤ 60) : shlN k y = shl k y := by
 obtain ⟨n, rfl⟩ : ∃ n, k = n + 1 := ⟨k - 1, by omega⟩
 unfold shlN
 rw [shlF, if_neg (by omega)]
set_option maxRecDepth 100000 in
def frB (g : Nat) (T : Nat → Value) (ov : Bool) (e m : Int) : Act := { tmps := #[.pointer (some ⟨g, 0, none⟩), .pointer (some ⟨8, 0, none⟩), T 2, T 3, T 4, .bool ov, .int .i64 e, .int .u64 m, T 8, T 9, T 10, T 11, T 12, T 13, T 14, T 15, T 16, T 17, T 18, T 19, T 20, T 21, T 22, T 23, T 24, T 25, T 26, T 27, T 28, T 29, T 30, T 31, T 32, T 33, T 34, T 35, T 36, T 37, T 38, T 39, T 40, T 41, T 42, T 43, T 44, T 45, T 46, T 47, T 48, T 49, T 50, T 51, T 52, T 53, T 54, T 55, T 56, T 57, T 58, T 59, T 60, T 61, T 62, T 63, T 64, T 65, T 66, T 67, T 68, T 69, T 70, T 71, T 72, T 73, T 74, T 75, T 76, T 77, T 78, T 79, T 80, T 81, T 82, T 83, T 84, T 85, T 86, T 87, T 88, T 89, T 90, T 91, T 92, T 93, T 94, T 95, T 96, T 97, T 98, T 99, T 100, T 101, T 102, T 103, T 104, T 105, T 106, T 107, T 108, T 109, T 110, T 111, T 112, T 113, T 114, T 115, T 116, T 117, T 118, T 119, T 120, T 121, T 122, T 123, T 124, T 125, T 126, T 127, T 128, T 129, T 130, T 131, T 132, T 133, T 134, T 135, T 136, T 137, T 138, T 139, T 140, T 141, T 142, T 143, T 144, T 145, T 146, T 147, T 148, T 149, T 150, T 151, T 152, T 153, T 154, T 155, T 156, T 157, T 158, T 159, T 160, T 161, T 162, T 163, T 164, T 165, T 166, T 167, T 168, T 169, T 170, T 171, T 172, T 173, T 174, T 175, T 176, T 177, T 178, T 179, T 180, T 181, T 182, T 183, T 184, T 185, T 186, T 187, T 188, T 189, T 190, T 191, T 192, T 193, T 194, T 195, T 196, T 197, T 198, T 199, T 200, T 201, T 202, T 203, T 204, T 205, T 206, T 207, T 208, T 209, T 210, T 211, T 212, T 213, T 214, T 215, T 216, T 217, T 218, T 219, T 220, T 221, T 222, T 223, T 224, T 225, T 226, T 227, T 228, T 229, T 230, T 231, T 232, T 233, T 234, T 235, T 236, T 237, T 238, T 239, T 240, T 241, T 242], defers := [] }
def Jump (g B : Nat) (w : World) (OV : Bool) (l : Nat) (a' : Act) (w' : World) : Prop :=
 (l = 0 ∨ (l = 1 ∧ OV = true)) ∧ Hid (BitIn B w') ∧ Hid (w'.cell? ⟨g, 802, none⟩ = some (.bool false)) ∧ Hid (Below g w w') ∧ ∃ (T : Nat → Value) (ov : Bool) (e m : Int), (l = 0 → ov = OV) ∧ a' = frB g T ov e m
theorem fr_of {g : Nat} {ov : Bool} {e m : Int} {C : Bool → Prop} (a : Act) (hc : C ov) (h : a = frB g (fun k => a.tmps.getD k undef) ov e m) : ∃ (T : Nat → Value) (ov : Bool) (e m : Int), C ov ∧ a = frB g T ov e m := ⟨_, ov, e, m, hc, h⟩
def BEnd (x : Dc) (g : Nat) (w : World) (e : Ending) (w' : World) : Prop := ∃ b : Int, e = .returned (.tuple #[.int .u64 b, .bool (bitsOv x)]) ∧ Below g w w'
theorem i64_mid (n : Int) (h : -1000000 ≤ n ∧ n ≤ 1000000) : IntKind.i64.wrap n = n := IntWalk.i64_in _ (by omega)
set_option maxRecDepth 100000 in
set_option maxHeartbeats 8000000 in
theorem bits_any (g B : Nat) (hB : B ≤ g) (x : Dc) (hx : x.Ok) (hdp : -100000 ≤ x.dp ∧ x.dp ≤ 100000) (w : World) (hC : BitIn B w) (h : DIn w g x) :
 Calls Tryz.prog 218 #[.pointer (some ⟨g, 0, none⟩), .pointer (some ⟨8, 0, none⟩)] w (BEnd x g w) := by
 unfold BEnd
 obtain ⟨OV, hov⟩ : ∃ b, bitsOv x = b := ⟨_, rfl⟩
 rw [hov]
 unfold bitsOv at hov
 have n1 := hx.len.n1
 obtain ⟨n, hn⟩ : ∃ n, x.nd = n + 1 := ⟨x.nd - 1, by omega⟩
 have c0 := h.hnd
 rw [hn] at c0
 have c1 := h.hdp
 have c2 := h.hneg
 have i0 := hC.mant
 have i1 := hC.expb
 have i2 := hC.bias
 have q0 : ((n : Int) + 1 == 0) = false := by simp only [beq_eq_false_iff_ne, ne_eq]; omega
 obtain ⟨dp, hd⟩ : ∃ d, x.dp = d := ⟨_, rfl⟩
 rw [hd] at c1 hdp hov
 have HC := Lib.hid hC
 have HN := Lib.hid c2
 have HI := Lib.hid h
 have HX := Lib.hid hx
 have HD := Lib.hid hd
 clear hC h hx hd hn n1
 go_enter Tryz.func218, Tryz.ntmps218
 go_wp2_with fail
 refine wp_scope_two (Jump g B w OV) ?first ?pass
 case pass =>
  rintro l a' w' ⟨hl, hC, hN, hb, T, ov, e, m, h⟩
  obtain ⟨hov2, rfl⟩ := h
  have HOV : Hid (l = 0 → ov = OV) := Lib.hid hov2
  clear hov hov2 c0 c1 c2 i0 i1 i2 HC HN HI HX HD q0 hdp
  have c2 := hN.out
  have i0 := hC.out.mant
  have i1 := hC.out.expb
  have i2 := hC.out.bias
  rcases hl with rfl | ⟨rfl, hl⟩
  · refine ⟨_, rfl, ?_⟩
    unfold frB
    have e1 := HOV.out rfl
    subst e1
    clear HOV
    go_wp2_with fail
    go_quiet (fail)
    go_wp2_with fail
    try rw [Exit.noGoto_ret]
    go_ret2
    exact ⟨_, rfl, dBelow hb.out nq⟩
  · refine ⟨_, rfl, ?_⟩
    unfold frB
    subst hl
    clear HOV
    go_wp2_with fail
    go_quiet (fail)
    go_wp2_with fail
    go_step3
    go_wp2_with fail
    go_quiet (fail)
    go_wp2_with fail
    try rw [Exit.noGoto_ret]
    go_ret2
    exact ⟨_, rfl, dBelow hb.out _⟩
 case first =>
  by_cases h310 : 310 < dp
  · rw [if_pos h310] at hov
    subst hov
    have q1 : decide ((310 : Int) < dp) = true := decide_eq_true h310
    go_wp2_with fail
    go_step3
    show Jump g B w true 1 _ _
    refine ⟨.inr ⟨rfl, rfl⟩, HC, HN, Lib.hid (Below.refl _ _), ?_⟩
    exact fr_of (C := fun ov => 1 = 0 → ov = true) _ (fun h => absurd h (by decide)) rfl
  · rw [if_neg h310] at hov
    have q1 : decide ((310 : Int) < dp) = false := decide_eq_false h310
    by_cases h330 : dp < -330
    · rw [if_pos h330] at hov
      subst hov
      have q2 : decide (dp < -330) = true := decide_eq_true h330
      go_wp2_with fail
      go_step3
      show Jump g B w false 0 _ _
      refine ⟨.inl rfl, HC, HN, Lib.hid (Below.refl _ _), ?_⟩
      exact fr_of (C := fun ov => 0 = 0 → ov = false) _ (fun _ => rfl) rfl
    · rw [if_neg h330] at hov
      have q2 : decide (dp < -330) = false := decide_eq_false h330
      obtain ⟨RA, hRA⟩ : ∃ r, topA x = r := ⟨_, rfl⟩
      obtain ⟨RB, hRB⟩ : ∃ r, topB RA = r := ⟨_, rfl⟩
      obtain ⟨RL, hRL⟩ : ∃ r, low RB = r := ⟨_, rfl⟩
      rw [hRA, hRB, hRL] at hov
      have HA := Lib.hid hRA
      have HBB := Lib.hid hRB
      have HLL := Lib.hid hRL
      have HOV := Lib.hid hov
      have hmu : muA x ≤ 621 := by
       unfold muA
       rw [HD.out]
       split <;> omega
      have HMU := Lib.hid hmu
      have HDP : Hid (dp ≤ 310 ∧ -330 ≤ dp) := Lib.hid (by omega)
      clear hRA hRB hRL hov hmu h310 h330 hdp
      go_upto_block 0 with fail
      clear c0 c1 c2 i0 i1 i2 q0 q1 q2
      go_cut [6] (fun v wx => v = .int .i64 RA.2 ∧ Hid (RA.1.Ok) ∧ 0 ≤ RA.2 ∧ RA.2 ≤ 16767 ∧ RA.1.dp ≤ 0 ∧ -400 ≤ RA.1.dp ∧ Hid (DIn wx g RA.1) ∧ Hid (BitIn B wx) ∧ Hid (Below g w wx))
      case first =>
       as_aux_lemma =>
        go_wp2_with fail
        go_loopg [6] (muA x) (fun gk v wr => ∃ (f : Nat) (s : Dc × Int), gk = muA s.1 ∧ muA s.1 ≤ f ∧ v = .int .i64 s.2 ∧ Hid (loopA f s = RA) ∧ Hid (s.1.Ok) ∧ 0 ≤ s.2 ∧ s.2 + 27 * (muA s.1 : Int) ≤ 16767 ∧ s.1.dp ≤ 310 ∧ -400 ≤ s.1.dp ∧ Hid (DIn wr g s.1) ∧ Hid (BitIn B wr) ∧ Hid (Below g w wr))
        case atStart => exact ⟨muA x, (x, 0), rfl, Nat.le_refl _, rfl, HA, HX, Int.le_refl _, by have := HMU.out; simp only; omega, by rw [HD.out]; have := HDP.out; omega, by rw [HD.out]; have := HDP.out; omega, HI, HC, Lib.hid (Below.refl _ _)⟩
        case round =>
         clear HC HI HX HA HD HMU HDP HN
         obtain ⟨f, ⟨y, ex⟩, hgk, hf, rfl, hL, hX, e0, e1, d1, d2, hI, hC, hBl⟩ := hrel
         simp only at hgk hf hL hX e0 e1 d1 d2 hI
         have c1 := hI.out.hdp
         obtain ⟨R, o, cap, _, hp0, hpw⟩ := hC.out.pow
         obtain ⟨dp, hd⟩ : ∃ d, y.dp = d := ⟨_, rfl⟩
         rw [hd] at c1 d1 d2
         by_cases h0 : 0 < dp
         · have hlf := hL.out
           obtain ⟨f, rfl⟩ : ∃ f', f = f' + 1 := ⟨f - 1, by
            have : 1 ≤ muA y := by unfold muA; omega
            omega⟩
           have h0y : 0 < y.dp := by rw [hd]; exact h0
           rw [loopA, if_pos h0y] at hlf
           obtain ⟨e, rfl⟩ : ∃ e : Nat, dp = (e : Int) := ⟨dp.toNat, by omega⟩
           have e1' : 1 ≤ e := by omega
           unfold stepA at hlf
           simp only [hd, Int.toNat_natCast] at hlf
           have hmu := muA_less hX.out h0y
           rw [hd, Int.toNat_natCast] at hmu
           obtain ⟨p1, p2, _, _⟩ := pw_facts e
           have hok := (shr_ok p1 (show pw e ≤ 60 by omega) hX.out).1
           have hdp2 := shr_dp (pw e) y
           obtain ⟨r1, r2, _⟩ := rA_facts p1 (show pw e ≤ 60 by omega) hX.out.len
           have q1 : decide ((0 : Int) < (e : Int)) = true := decide_eq_true h0
           have q1n : 0 < e := e1'
           have HST : Hid (loopA f (shr (pw e) y, ex + (pw e : Nat)) = RA ∧ muA (shr (pw e) y) < muA y ∧ muA y ≤ f + 1 ∧ (shr (pw e) y).Ok ∧ (shr (pw e) y).dp ≤ 310 ∧ -400 ≤ (shr (pw e) y).dp ∧ ex + (pw e : Nat) + 27 * (muA (shr (pw e) y) : Int) ≤ 16767 ∧ gk = muA y) := Lib.hid ⟨hlf, hmu, hf, hok, by rw [hdp2]; omega, by rw [hdp2]; omega, by omega, hgk⟩
           have HSH := Lib.hid (fun n : Nat => shift_right g (pw e) p1 (by omega) y hX.out (by rw [hd]; omega) (wr.drewN n) (hI.out.drewN n))
           rw [show shrN (pw e) y = shr (pw e) y from shrN_small p1 (by omega)] at HSH
           have pb : 1 ≤ pw e ∧ pw e ≤ 27 := ⟨p1, p2⟩
           clear hlf hmu hf hok hdp2 r1 r2 hL hX hgk p1 p2 h0y
           by_cases h9 : 9 ≤ e
           · have hpe : pw e = 27 := by unfold pw; rw [if_pos h9]
             rw [hpe] at HSH HST
             have q9 : (9 : Int) ≤ (e : Int) := by omega
             clear hpe pb hd e1 d1 d2 h0 hpw
             go_wp2_with fail
             go_quiet (fail)
             go_wp2_with fail
             refine (HSH.out _).mono ?_
             rintro e2 w' ⟨rfl, y1, y2⟩
             have Y1 := Lib.hid y1
             have Y3 := Lib.hid (Below.trans (dBelow hBl.out _) y2)
             have Y2 := Lib.hid (hC.out.below (Below.trans (dBelow (Below.refl B wr) _) (y2.mono hB)))
             have ew2 : IntKind.i64.wrap (ex + (27 : Int)) = ex + (27 : Int) := i64_mid _ (by have := HST.out; omega)
             clear y1 y2
             go_wp2_with fail
             go_roundg (muA (shr 27 y))
             case measure => have := HST.out; omega
             case rel =>
              obtain ⟨z1, z2, z3, z4, z5, z6, z7, z8⟩ := HST.out
              exact ⟨f, (shr 27 y, ex + (27 : Nat)), rfl, by first | omega | (simp only; omega), rfl, Lib.hid z1, Lib.hid z4, by first | omega | (simp only; omega), z7, z5, z6, Y1, Y2, Y3⟩
           · have q9 : ¬ (9 : Int) ≤ (e : Int) := by omega
             have cpw := hpw e (by omega)
             obtain ⟨k, hk⟩ : ∃ k, pw e = k := ⟨_, rfl⟩
             rw [hk] at HSH HST cpw pb
             have ew : IntKind.i64.wrap (-(k : Int)) = -(k : Int) := IntWalk.i64_in _ (by omega)
             have e9 : e < 9 := by omega
             have e9i : (e : Int) < 9 := by omega
             clear hk hd e1 d1 d2 h0 hpw
             go_wp2_with fail
             go_quiet (fail)
             go_wp2_with fail
             go_quiet (fail)
             go_wp2_with fail
             refine (HSH.out _).mono ?_
             rintro e2 w' ⟨rfl, y1, y2⟩
             have Y1 := Lib.hid y1
             have Y3 := Lib.hid (Below.trans (dBelow hBl.out _) y2)
             have Y2 := Lib.hid (hC.out.below (Below.trans (dBelow (Below.refl B wr) _) (y2.mono hB)))
             have ew2 : IntKind.i64.wrap (ex + (k : Int)) = ex + (k : Int) := i64_mid _ (by have := HST.out; omega)
             clear y1 y2
             go_wp2_with fail
             go_roundg (muA (shr k y))
             case measure => have := HST.out; omega
             case rel =>
              obtain ⟨z1, z2, z3, z4, z5, z6, z7, z8⟩ := HST.out
              exact ⟨f, (shr k y, ex + (k : Nat)), rfl, by first | omega | (simp only; omega), rfl, Lib.hid z1, Lib.hid z4, by first | omega | (simp only; omega), z7, z5, z6, Y1, Y2, Y3⟩
         · have q1 : decide ((0 : Int) < dp) = false := decide_eq_false h0
           have hRA : (y, ex) = RA := by rw [← hL.out, loopA_done (by simp only; rw [hd]; exact h0)]
           subst hRA
           clear hL hf hgk hpw
           go_wp2_with fail
           go_meet
           exact ⟨rfl, hX, e0, by first | omega | (simp only; omega), by first | omega | (simp only; omega), by first | omega | (simp only; omega), hI, hC, hBl⟩
      case rest =>
       clear HC HI HX HA HD HMU HDP HN
       obtain ⟨rfl, hX, e0, e1, d1, d2, hI, hC, hBl⟩ := hcut
       obtain ⟨⟨y, ex⟩, hRAe⟩ : ∃ s, RA = s := ⟨_, rfl⟩
       subst hRAe
       simp only at hX e0 e1 d1 d2 hI
       go_upto_block 2 with fail
       go_cut [6] (fun v wx => v = .int .i64 RB.2 ∧ Hid (RB.1.Ok) ∧ -200000 ≤ RB.2 ∧ RB.2 ≤ 16767 ∧ RB.1.dp ≤ 100 ∧ -400 ≤ RB.1.dp ∧ Hid (DIn wx g RB.1) ∧ Hid (BitIn B wx) ∧ Hid (Below g w wx))
       case first =>
        as_aux_lemma =>
         go_wp2_with fail
         have hmu0 : muB y ≤ 6410 := by
          unfold muB; omega
         go_loopg [6] (muB y) (fun gk v wr => ∃ (f : Nat) (s : Dc × Int), gk = muB s.1 ∧ muB s.1 ≤ f ∧ v = .int .i64 s.2 ∧ Hid (loopB f s = RB) ∧ Hid (s.1.Ok) ∧ s.2 ≤ 16767 ∧ -200000 ≤ s.2 - 27 * (muB s.1 : Int) ∧ s.1.dp ≤ 100 ∧ -400 ≤ s.1.dp ∧ Hid (DIn wr g s.1) ∧ Hid (BitIn B wr) ∧ Hid (Below g w wr))
         case atStart => exact ⟨muB y, (y, ex), rfl, Nat.le_refl _, rfl, HBB, hX, e1, by first | omega | (simp only; omega), by first | omega | (simp only; omega), d2, hI, hC, hBl⟩
         case round =>
          clear hI hC hX HBB hmu0 hBl e0 e1 d1 d2
          clear y ex
          obtain ⟨f, ⟨y, ex⟩, hgk, hf, rfl, hL, hX, e1, e0, d1, d2, hI, hC, hBl⟩ := hrel
          simp only at hgk hf hL hX e0 e1 d1 d2 hI
          have c1 := hI.out.hdp
          have cl := hI.out.lead hX.out
          obtain ⟨R, o, cap, _, hp0, hpw⟩ := hC.out.pow
          obtain ⟨dp, hd⟩ : ∃ d, y.dp = d := ⟨_, rfl⟩
          obtain ⟨ld, hld⟩ : ∃ d, y.lead = d := ⟨_, rfl⟩
          have ld9 : ld < 10 := by rw [← hld]; exact hX.out.len.lead9
          rw [hd] at c1 d1 d2
          rw [hld] at cl
          obtain ⟨b0, hb0⟩ : ∃ b, 48 + ld = b := ⟨_, rfl⟩
          rw [hb0] at cl
          cases hcb : condB y with
          | false =>
           have hRB : (y, ex) = RB := by rw [← hL.out, loopB_done hcb]
           subst hRB
           have hor : 0 < dp ∨ (dp = 0 ∧ 5 ≤ ld) := by
            unfold condB at hcb
            rw [hd, hld] at hcb
            simp only [Bool.or_eq_false_iff, decide_eq_false_iff_not, Bool.and_eq_false_iff] at hcb
            omega
           clear hL hf hgk hpw hcb
           rcases hor with hor | ⟨rfl, hor⟩
           · have q1 : decide (dp < 0) = false := decide_eq_false (by omega)
             have q2 : (dp == 0) = false := by simp only [beq_eq_false_iff_ne, ne_eq]; omega
             go_wp2_with fail
             go_meet
             exact ⟨rfl, hX, by first | omega | (simp only; omega), e1, by first | omega | (simp only; omega), by first | omega | (simp only; omega), hI, hC, hBl⟩
           · have q1 : decide ((0 : Int) < 0) = false := by decide
             have q3 : decide ((b0 : Int) < 53) = false := decide_eq_false (by omega)
             have q3n : ¬ b0 < 53 := by omega
             go_wp2_with fail
             go_meet
             exact ⟨rfl, hX, by first | omega | (simp only; omega), e1, by first | omega | (simp only; omega), by first | omega | (simp only; omega), hI, hC, hBl⟩
          | true =>
           have hlf := hL.out
           have hmu := muB_less hX.out hcb
           obtain ⟨f, rfl⟩ : ∃ f', f = f' + 1 := ⟨f - 1, by omega⟩
           rw [loopB, hcb] at hlf
           simp only [if_true] at hlf
           have hor : dp < 0 ∨ (dp = 0 ∧ ld < 5) := by
            unfold condB at hcb
            rw [hd, hld] at hcb
            simp only [Bool.or_eq_true, decide_eq_true_eq, Bool.and_eq_true] at hcb
            omega
           obtain ⟨e, rfl⟩ : ∃ e : Nat, dp = -(e : Int) := ⟨(-dp).toNat, by omega⟩
           unfold stepB at hlf
           simp only [hd, Int.neg_neg, Int.toNat_natCast] at hlf
           rw [hd, Int.neg_neg, Int.toNat_natCast] at hmu
           obtain ⟨p1, p2, _, _⟩ := pw_facts e
           have hok := (shl_ok p1 (show pw e ≤ 60 by omega) hX.out).1
           have hdp2 := shl_dp (pw e) y
           have hdl := dl_le (D := y.D) (nd := y.nd) p1 (show pw e ≤ 60 by omega)
           have HST : Hid (loopB f (shl (pw e) y, ex - (pw e : Nat)) = RB ∧ muB (shl (pw e) y) < muB y ∧ muB y ≤ f + 1 ∧ (shl (pw e) y).Ok ∧ (shl (pw e) y).dp ≤ 100 ∧ -400 ≤ (shl (pw e) y).dp ∧ -200000 ≤ ex - (pw e : Nat) - 27 * (muB (shl (pw e) y) : Int) ∧ gk = muB y) := Lib.hid ⟨hlf, hmu, hf, hok, by rw [hdp2]; omega, by rw [hdp2]; omega, by omega, hgk⟩
           have HE1 := Lib.hid e1
           have HSH := Lib.hid (fun n : Nat => shift_left g B (pw e) hB p1 (by omega) y hX.out (by rw [hd]; omega) (wr.drewN n) (hC.out.cheat.below (dBelow (Below.refl B wr) n)) (hI.out.drewN n))
           rw [show shlN (pw e) y = shl (pw e) y from shlN_small p1 (by omega)] at HSH
           have pb : 1 ≤ pw e ∧ pw e ≤ 27 := ⟨p1, p2⟩
           have HB9 : Hid (ex ≤ 16767 ∧ -200000 ≤ ex) := Lib.hid (by omega)
           clear hlf hmu hf hok hdp2 hL hX hgk p1 p2 hcb hdl
           by_cases h9 : 9 ≤ e
           · have hpe : pw e = 27 := by unfold pw; rw [if_pos h9]
             rw [hpe] at HSH HST
             have q9 : (9 : Int) ≤ (e : Int) := by omega
             have q1 : decide (-(e : Int) < 0) = true := decide_eq_true (by omega)
             have q1' : decide ((0 : Int) < (e : Int)) = true := decide_eq_true (by omega)
             have q1n : decide (0 < e) = true := decide_eq_true (by omega)
             have ew : IntKind.i64.wrap (e : Int) = (e : Int) := i64_mid _ (by omega)
             clear hpe pb hd e1 d1 d2 hpw hor e0
             go_wp2_with fail
             go_quiet (fail)
             go_wp2_with fail
             refine (HSH.out _).mono ?_
             rintro e2 w' ⟨rfl, y1, y2⟩
             have Y1 := Lib.hid y1
             have Y3 := Lib.hid (Below.trans (dBelow hBl.out _) y2)
             have Y2 := Lib.hid (hC.out.below (Below.trans (dBelow (Below.refl B wr) _) (y2.mono hB)))
             have ew2 : IntKind.i64.wrap (ex - (27 : Int)) = ex - (27 : Int) := i64_mid _ (by have := HST.out; have := HB9.out; omega)
             clear y1 y2
             go_wp2_with fail
             go_roundg (muB (shl 27 y))
             case measure => have := HST.out; omega
             case rel =>
              obtain ⟨z1, z2, z3, z4, z5, z6, z7, z8⟩ := HST.out
              exact ⟨f, (shl 27 y, ex - (27 : Nat)), rfl, by first | omega | (simp only; omega), rfl, Lib.hid z1, Lib.hid z4, by have := HB9.out; simp only; omega, z7, z5, z6, Y1, Y2, Y3⟩
           · have q9 : ¬ (9 : Int) ≤ (e : Int) := by omega
             have cpw := hpw e (by omega)
             obtain ⟨k, hk⟩ : ∃ k, pw e = k := ⟨_, rfl⟩
             rw [hk] at HSH HST cpw pb
             have e9 : e < 9 := by omega
             have e9i : (e : Int) < 9 := by omega
             have ew : IntKind.i64.wrap (e : Int) = (e : Int) := i64_mid _ (by omega)
             rcases hor with hor | ⟨hor, h5⟩
             · have q1 : decide (-(e : Int) < 0) = true := decide_eq_true hor
               have q1' : decide ((0 : Int) < (e : Int)) = true := decide_eq_true (by omega)
               have q1n : decide (0 < e) = true := decide_eq_true (by omega)
               clear hk hd e1 d1 d2 hpw hor e0
               go_wp2_with fail
               go_quiet (fail)
               go_wp2_with fail
               go_quiet (fail)
               go_wp2_with fail
               refine (HSH.out _).mono ?_
               rintro e2 w' ⟨rfl, y1, y2⟩
               have Y1 := Lib.hid y1
               have Y3 := Lib.hid (Below.trans (dBelow hBl.out _) y2)
               have Y2 := Lib.hid (hC.out.below (Below.trans (dBelow (Below.refl B wr) _) (y2.mono hB)))
               have ew2 : IntKind.i64.wrap (ex - (k : Int)) = ex - (k : Int) := i64_mid _ (by have := HST.out; have := HB9.out; omega)
               clear y1 y2
               go_wp2_with fail
               go_roundg (muB (shl k y))
               case measure => have := HST.out; omega
               case rel =>
                obtain ⟨z1, z2, z3, z4, z5, z6, z7, z8⟩ := HST.out
                exact ⟨f, (shl k y, ex - (k : Nat)), rfl, by first | omega | (simp only; omega), rfl, Lib.hid z1, Lib.hid z4, by have := HB9.out; simp only; omega, z7, z5, z6, Y1, Y2, Y3⟩
             · obtain rfl : e = 0 := by omega
               have q3 : decide ((b0 : Int) < 53) = true := decide_eq_true (by omega)
               have q3n : b0 < 53 := by omega
               rw [Nat.add_zero] at cpw
               clear hk hd e1 d1 d2 hpw hor e0
               go_wp2_with fail
               go_quiet (fail)
               go_wp2_with fail
               go_quiet (fail)
               go_wp2_with fail
               refine (HSH.out _).mono ?_
               rintro e2 w' ⟨rfl, y1, y2⟩
               have Y1 := Lib.hid y1
               have Y3 := Lib.hid (Below.trans (dBelow hBl.out _) y2)
               have Y2 := Lib.hid (hC.out.below (Below.trans (dBelow (Below.refl B wr) _) (y2.mono hB)))
               have ew2 : IntKind.i64.wrap (ex - (k : Int)) = ex - (k : Int) := i64_mid _ (by have := HST.out; have := HB9.out; omega)
               clear y1 y2
               go_wp2_with fail
               go_roundg (muB (shl k y))
               case measure => have := HST.out; omega
               case rel =>
                obtain ⟨z1, z2, z3, z4, z5, z6, z7, z8⟩ := HST.out
                exact ⟨f, (shl k y, ex - (k : Nat)), rfl, by first | omega | (simp only; omega), rfl, Lib.hid z1, Lib.hid z4, by have := HB9.out; simp only; omega, z7, z5, z6, Y1, Y2, Y3⟩
       case rest =>
        clear hX e0 e1 d1 d2 hI hC hBl HBB
        obtain ⟨rfl, hX, e0, e1, d1, d2, hI, hC, hBl⟩ := hcut
        obtain ⟨⟨y, ex⟩, hRBe⟩ : ∃ s, RB = s := ⟨_, rfl⟩
        subst hRBe
        simp only at hX e0 e1 d1 d2 hI
        have i2 := hC.out.bias
        have i1 := hC.out.expb
        have i0 := hC.out.mant
        have ew1 : IntKind.i64.wrap (ex - 1) = ex - 1 := i64_mid _ (by omega)
        have ewn : IntKind.i64.wrap (-1022 - (ex - 1)) = -1022 - (ex - 1) := i64_mid _ (by omega)
        have hlow := HLL.out
        unfold low at hlow
        simp only at hlow
        by_cases hlo : ex - 1 < -1022
        · rw [if_pos hlo] at hlow
          obtain ⟨k, hk⟩ : ∃ k : Nat, -1022 - (ex - 1) = (k : Int) := ⟨(-1022 - (ex - 1)).toNat, by omega⟩
          have k1 : 1 ≤ k := by omega
          have k2 : k ≤ 200000 := by omega
          rw [hk, Int.toNat_natCast] at hlow
          have HSH := Lib.hid (shift_right g k k1 (by omega) y hX.out (by omega) wc hI.out)
          obtain ⟨ok, o1, o2⟩ := shrF_ok k k y (Nat.le_refl _) k1 hX.out
          have HOK : Hid ((shrN k y).Ok ∧ (shrN k y).dp ≤ 100 ∧ -5000000 ≤ (shrN k y).dp) := Lib.hid ⟨ok, by show (shrF k k y).dp ≤ 100; omega, by show -5000000 ≤ (shrF k k y).dp; omega⟩
          have HRL := Lib.hid hlow
          have ewk : IntKind.i64.wrap (-(k : Int)) = -(k : Int) := i64_mid _ (by omega)
          have ewe : IntKind.i64.wrap (ex - 1 + (k : Int)) = -1022 := by rw [show ex - 1 + (k : Int) = -1022 by omega]; rfl
          have qlo : decide (ex - 1 < -1022) = true := decide_eq_true hlo
          rw [hk] at ewn
          have HFO : Hid (false = OV) := Lib.hid (by
           rw [← HOV.out, ← hlow]
           simp only
           rw [if_neg (by decide)]
           split <;> rfl)
          clear hlow ok o1 o2 HLL hlo
          go_wp2_with fail
          refine HSH.out.mono ?_
          rintro e2 w3 ⟨rfl, y1, y2⟩
          have HI3 := Lib.hid y1
          have HB3 : Hid (Below g w w3) := Lib.hid (Below.trans hBl.out y2)
          have HC3 : Hid (BitIn B w3) := Lib.hid (hC.out.below (y2.mono hB))
          clear y1 y2 HSH hI hC hBl i0 i1 i2
          have j0 := HC3.out.mant
          have j1 := HC3.out.expb
          have j2 := HC3.out.bias
          have hsl := shlF_ok 53 53 (shrN k y) (Nat.le_refl _) (by omega) HOK.out.1
          have HOK2 : Hid ((shlN 53 (shrN k y)).Ok ∧ -50000000 ≤ (shlN 53 (shrN k y)).dp ∧ (shlN 53 (shrN k y)).dp ≤ 50000000) := Lib.hid ⟨hsl.1, by show -50000000 ≤ (shlF 53 53 (shrN k y)).dp; have := HOK.out; omega, by show (shlF 53 53 (shrN k y)).dp ≤ 50000000; have := HOK.out; omega⟩
          clear hsl
          go_wp2_with fail
          go_quiet (fail)
          go_wp2_with fail
          refine (shift_left g B 53 hB (by omega) (by omega) (shrN k y) HOK.out.1 (by have := HOK.out; omega) _ (HC3.out.cheat.below (dBelow (Below.refl B _) _)) (HI3.out.drewN _)).mono ?_
          rintro e3 w4 ⟨rfl, y1, y2⟩
          have HI4 := Lib.hid y1
          have HB4 : Hid (Below g w w4) := Lib.hid (Below.trans (dBelow HB3.out _) y2)
          have HC4 : Hid (BitIn B w4) := Lib.hid (HC3.out.below (Below.trans (dBelow (Below.refl B _) _) (y2.mono hB)))
          clear y1 y2 HI3 HB3 HC3 j0 j1 j2
          have j0 := HC4.out.mant
          have j1 := HC4.out.expb
          have j2 := HC4.out.bias
          have HN4 := Lib.hid HI4.out.hneg
          obtain ⟨r, hr⟩ : ∃ r, rint (shlN 53 (shrN k y)) = r := ⟨_, rfl⟩
          have HR := Lib.hid (rounded_any g (shlN 53 (shrN k y)) HOK2.out.1 HOK2.out.2 w4 HI4.out)
          rw [hr] at HR
          have HRR := Lib.hid hr
          go_wp2_with fail
          refine HR.out.mono ?_
          rintro e4 w5 ⟨rfl, nn, rfl⟩
          clear HR
          by_cases hr53 : r = 9007199254740992
          · subst hr53
            go_wp2_with fail
            go_quiet (fail)
            clear hr
            go_wp2_with fail
            go_step3
            show Jump g B w OV 0 _ _
            refine ⟨.inl rfl, Lib.hid (HC4.out.below (dBelow (Below.refl B _) _)), Lib.hid (by rw [World.cell?_drewN]; exact HN4.out), Lib.hid (dBelow HB4.out _), ?_⟩
            exact fr_of (C := fun ov => 0 = 0 → ov = OV) _ (fun _ => HFO.out) rfl
          · have qr : ((r : Int) == 9007199254740992) = false := by simp only [beq_eq_false_iff_ne, ne_eq]; omega
            clear hr hr53
            cases hden : (bits .and .u64 (r : Int) 4503599627370496 == 0)
            all_goals
             go_wp2_with fail
             go_step3
             show Jump g B w OV 0 _ _
             refine ⟨.inl rfl, Lib.hid (HC4.out.below (dBelow (Below.refl B _) _)), Lib.hid (by rw [World.cell?_drewN]; exact HN4.out), Lib.hid (dBelow HB4.out _), ?_⟩
             exact fr_of (C := fun ov => 0 = 0 → ov = OV) _ (fun _ => HFO.out) rfl
        · rw [if_neg hlo] at hlow
          obtain ⟨E, hE⟩ : ∃ E : Int, ex - 1 = E := ⟨_, rfl⟩
          rw [hE] at hlow ew1 hlo
          have hEb : -1022 ≤ E ∧ E ≤ 16766 := by omega
          have hov2 := HOV.out
          rw [← hlow] at hov2
          simp only at hov2
          have HOK : Hid (y.Ok ∧ y.dp ≤ 100 ∧ -5000000 ≤ y.dp) := Lib.hid ⟨hX.out, by omega, by omega⟩
          have HI3 := hI
          have HB3 := hBl
          have HC3 := hC
          have qlo : decide (E < -1022) = false := decide_eq_false hlo
          have w1 : IntKind.i64.wrap (E - -1023) = E + 1023 := by rw [show E - -1023 = E + 1023 by omega]; exact i64_mid _ (by omega)
          have w2 : IntKind.i64.wrap (E + 1023) = E + 1023 := i64_mid _ (by omega)
          have w3 : IntKind.i64.wrap (E + 1) = E + 1 := i64_mid _ (by omega)
          have w4 : IntKind.i64.wrap (E + 1 - -1023) = E + 1024 := by rw [show E + 1 - -1023 = E + 1024 by omega]; exact i64_mid _ (by omega)
          have w5 : IntKind.i64.wrap (E + 1 + 1023) = E + 1024 := by rw [show E + 1 + 1023 = E + 1024 by omega]; exact i64_mid _ (by omega)
          clear hlow HLL hX e0 e1 hI hC hBl ewn HOV
          by_cases hbig : 1024 ≤ E
          · rw [if_pos hbig] at hov2
            have HOT : Hid (OV = true) := Lib.hid hov2.symm
            have q30 : decide (2047 ≤ E + 1023) = true := decide_eq_true (by omega)
            have q30i : 2047 ≤ E + 1023 := by omega
            have HN3 := Lib.hid HI3.out.hneg
            clear hov2 hbig hlo
            go_wp2_with fail
            go_quiet (fail)
            go_wp2_with fail
            go_step3
            show Jump g B w OV 1 _ _
            refine ⟨.inr ⟨rfl, HOT.out⟩, Lib.hid (HC3.out.below (dBelow (Below.refl B _) _)), Lib.hid (by rw [World.cell?_drewN]; exact HN3.out), Lib.hid (dBelow HB3.out _), ?_⟩
            exact fr_of (C := fun ov => 1 = 0 → ov = OV) _ (fun h => absurd h (by decide)) rfl
          · rw [if_neg hbig] at hov2
            have q30 : decide (2047 ≤ E + 1023) = false := decide_eq_false (by omega)
            have q30i : ¬ 2047 ≤ E + 1023 := by omega
            have HOV2 := Lib.hid hov2
            have j0 := HC3.out.mant
            have j1 := HC3.out.expb
            have j2 := HC3.out.bias
            clear hov2 hbig hlo i0 i1 i2
            have hsl := shlF_ok 53 53 y (Nat.le_refl _) (by omega) HOK.out.1
            have HOK2 : Hid ((shlN 53 y).Ok ∧ -50000000 ≤ (shlN 53 y).dp ∧ (shlN 53 y).dp ≤ 50000000) := Lib.hid ⟨hsl.1, by show -50000000 ≤ (shlF 53 53 y).dp; have := HOK.out; omega, by show (shlF 53 53 y).dp ≤ 50000000; have := HOK.out; omega⟩
            clear hsl
            go_wp2_with fail
            go_quiet (fail)
            go_wp2_with fail
            refine (shift_left g B 53 hB (by omega) (by omega) y HOK.out.1 (by have := HOK.out; omega) _ (HC3.out.cheat.below (dBelow (Below.refl B _) _)) (HI3.out.drewN _)).mono ?_
            rintro e3 w4 ⟨rfl, y1, y2⟩
            have HI4 := Lib.hid y1
            have HB4 : Hid (Below g w w4) := Lib.hid (Below.trans (dBelow HB3.out _) y2)
            have HC4 : Hid (BitIn B w4) := Lib.hid (HC3.out.below (Below.trans (dBelow (Below.refl B _) _) (y2.mono hB)))
            clear y1 y2 HI3 HB3 HC3 j0 j1 j2
            have j0 := HC4.out.mant
            have j1 := HC4.out.expb
            have j2 := HC4.out.bias
            have HN4 := Lib.hid HI4.out.hneg
            obtain ⟨r, hr⟩ : ∃ r, rint (shlN 53 y) = r := ⟨_, rfl⟩
            have HR := Lib.hid (rounded_any g (shlN 53 y) HOK2.out.1 HOK2.out.2 w4 HI4.out)
            rw [hr] at HR
            have HRR := Lib.hid hr
            go_wp2_with fail
            refine HR.out.mono ?_
            rintro e4 w5 ⟨rfl, nn, rfl⟩
            clear HR
            by_cases hr53 : r = 9007199254740992
            · subst hr53
              have hov3 := HOV2.out
              rw [hr, if_pos rfl] at hov3
              by_cases h1023 : 1023 ≤ E
              · have HOT : Hid (OV = true) := Lib.hid (by rw [← hov3]; exact decide_eq_true h1023)
                have q36 : decide (2047 ≤ E + 1024) = true := decide_eq_true (by omega)
                have q36i : 2047 ≤ E + 1024 := by omega
                clear hov3 hr h1023
                go_wp2_with fail
                go_quiet (fail)
                go_wp2_with fail
                go_step3
                show Jump g B w OV 1 _ _
                refine ⟨.inr ⟨rfl, HOT.out⟩, Lib.hid (HC4.out.below (by first | exact dBelow (Below.refl B _) _ | exact dBelow (dBelow (Below.refl B _) _) _)), Lib.hid (by simp only [World.cell?_drewN]; exact HN4.out), Lib.hid (by first | exact dBelow HB4.out _ | exact dBelow (dBelow HB4.out _) _), ?_⟩
                exact fr_of (C := fun ov => 1 = 0 → ov = OV) _ (fun h => absurd h (by decide)) rfl
              · have HFO : Hid (false = OV) := Lib.hid (by rw [← hov3, decide_eq_false h1023])
                have q36 : decide (2047 ≤ E + 1024) = false := decide_eq_false (by omega)
                have q36i : ¬ 2047 ≤ E + 1024 := by omega
                clear hov3 hr h1023
                go_wp2_with fail
                go_quiet (fail)
                go_wp2_with fail
                go_step3
                show Jump g B w OV 0 _ _
                refine ⟨.inl rfl, Lib.hid (HC4.out.below (dBelow (Below.refl B _) _)), Lib.hid (by rw [World.cell?_drewN]; exact HN4.out), Lib.hid (dBelow HB4.out _), ?_⟩
                exact fr_of (C := fun ov => 0 = 0 → ov = OV) _ (fun _ => HFO.out) rfl
            · have qr : ((r : Int) == 9007199254740992) = false := by simp only [beq_eq_false_iff_ne, ne_eq]; omega
              have HFO : Hid (false = OV) := Lib.hid (by rw [← HOV2.out, hr, if_neg hr53])
              clear hr hr53
              cases hden : (bits .and .u64 (r : Int) 4503599627370496 == 0)
              all_goals
               go_wp2_with fail
               go_step3
               show Jump g B w OV 0 _ _
               refine ⟨.inl rfl, Lib.hid (HC4.out.below (dBelow (Below.refl B _) _)), Lib.hid (by rw [World.cell?_drewN]; exact HN4.out), Lib.hid (dBelow HB4.out _), ?_⟩
               exact fr_of (C := fun ov => 0 = 0 → ov = OV) _ (fun _ => HFO.out) rfl
end Go.Proofs.YtmlclgkhnekmnaaGreatDoor
