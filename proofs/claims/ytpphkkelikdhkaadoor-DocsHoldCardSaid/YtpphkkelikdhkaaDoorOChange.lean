/-
  docs' places, of, changed AT EVERY TEXT, every change: what they return; no memory that was there turns. Conditions: the texts' lengths; what the variables that are read hold (Fx).
-/
import Derived.Test.YtpphkkelikdhkaaDoorOOpen
namespace Go.Proofs.YtpphkkelikdhkaaDoor
open Go.RowKit Go.Maps

/-- A change: of the whole?, its range, its text. -/
structure Chg where
  w : Bool
  a : Int
  b : Int
  c : Int
  d : Int
  s : ByteArray
def chgV (c : Chg) : Value := .agg #[.bool c.w, .int .i64 c.a, .int .i64 c.b, .int .i64 c.c, .int .i64 c.d, .string c.s]
/-- Where a change begins and ends in a text, and whether it may be. -/
def okC (c : Chg) (t : ByteArray) : Bool := c.w || (cutE t.data.toList c.a c.b c.c c.d == 0)
def fromN (c : Chg) (t : ByteArray) : Nat := if c.w then 0 else offP t.data.toList c.a c.b
def toN (c : Chg) (t : ByteArray) : Nat := if c.w then t.size else offP t.data.toList c.c c.d
theorem places_le {c : Chg} {t : ByteArray} (h : okC c t = true) : fromN c t ≤ toN c t ∧ toN c t ≤ t.size := by
  unfold okC at h
  unfold fromN toN
  cases hw : c.w with
  | true => exact ⟨Nat.zero_le _, Nat.le_refl _⟩
  | false =>
    rw [hw, Bool.false_or, beq_iff_eq] at h
    have h1 := offP_le t.data.toList c.c c.d
    rw [show t.data.toList.length = t.size from rfl] at h1
    refine ⟨?_, h1⟩
    show offP t.data.toList c.a c.b ≤ offP t.data.toList c.c c.d
    unfold cutE at h
    split at h
    · cases h
    · split at h
      · cases h
      · split at h
        · cases h
        · omega
/-- Why a text may not be changed so, or 0; the text behind. -/
def ofE (c : Chg) (t : ByteArray) : Int := if valid c.s.data.toList = false then 8 else if okC c t = false then 2 else if 65536 < c.s.size + (t.size - (toN c t - fromN c t)) then 3 else 0
def ofT (c : Chg) (t : ByteArray) : ByteArray := if ofE c t = 0 then t.extract 0 (fromN c t) ++ c.s ++ t.extract (toN c t) t.size else ⟨#[]⟩
theorem ofT_bad {c : Chg} {t : ByteArray} {e : Int} (h : ofE c t = e) (he : e ≠ 0) : ofT c t = ⟨#[]⟩ := by
  unfold ofT
  rw [h, if_neg he]
def plN (c : Chg) (t : ByteArray) (n : Nat) : Int := if okC c t = true then (n : Int) else 0
theorem ret_pl {a b : Int} {x : Bool} {c d : Int} {y : Bool} (h1 : a = c) (h2 : b = d) (h3 : x = y) : Ending.returned (.tuple #[.int .i64 a, .int .i64 b, .bool x]) = .returned (.tuple #[.int .i64 c, .int .i64 d, .bool y]) := by rw [h1, h2, h3]
set_option maxRecDepth 100000 in
set_option maxHeartbeats 1000000 in
theorem places_any (c : Chg) (t : ByteArray) (ht : t.size ≤ 1000000) (w : World) : Calls Tryd.prog 62 #[chgV c, .string t] w fun e w' => e = .returned (.tuple #[.int .i64 (plN c t (fromN c t)), .int .i64 (plN c t (toN c t)), .bool (okC c t)]) ∧ Below w.heap.size w w' := by
  obtain ⟨cw, a, b, c, d, s⟩ := c
  unfold chgV
  simp only
  cases cw with
  | true =>
    have e1 : plN ⟨true, a, b, c, d, s⟩ t (fromN ⟨true, a, b, c, d, s⟩ t) = 0 := rfl
    have e2 : plN ⟨true, a, b, c, d, s⟩ t (toN ⟨true, a, b, c, d, s⟩ t) = (t.size : Int) := rfl
    have e3 : okC ⟨true, a, b, c, d, s⟩ t = true := rfl
    rw [e1, e2, e3]
    clear e1 e2 e3
    go_enter Tryd.func62, Tryd.ntmps62
    go_wp2_with fail
    go_ret3
    exact ⟨rfl, alloc_below _ _⟩
  | false =>
    have HC := Lib.hid (fun w => cut_any t ht a b c d w)
    go_enter Tryd.func62, Tryd.ntmps62
    go_wp2_with fail
    refine (HC.out _).mono ?_
    rintro e w1 ⟨rfl, hb⟩
    have HB := Lib.hid ((alloc_below w _).trans (hb.mono (by simp)))
    clear hb
    go_wp2_with fail
    go_ret3
    refine ⟨ret_pl ?_ ?_ ?_, HB.out⟩
    · unfold cutA plN okC fromN
      by_cases h : cutE t.data.toList a b c d = 0 <;> simp [h]
    · unfold cutB plN okC toN
      by_cases h : cutE t.data.toList a b c d = 0 <;> simp [h]
    · unfold okC
      simp
theorem ret_si {a b : ByteArray} {x y : Int} (h : a = b) (k : x = y) : Ending.returned (.tuple #[.string a, .int .i64 x]) = .returned (.tuple #[.string b, .int .i64 y]) := by rw [h, k]
set_option maxRecDepth 100000 in
set_option maxHeartbeats 1000000 in
theorem of_any (c : Chg) (t : ByteArray) (ht : t.size ≤ 65536) (hs : c.s.size ≤ 1000000) (w : World) (hF : Fx w) : Calls Tryd.prog 53 #[chgV c, .string t] w fun e w' => e = .returned (.tuple #[.string (ofT c t), .int .i64 (ofE c t)]) ∧ Below w.heap.size w w' := by
  have HP := Lib.hid (fun w => places_any c t (by omega) w)
  have HV := Lib.hid (fun w (h : Fx w) => valid_any c.s w h.1)
  have HF := Lib.hid hF
  clear hF
  cases b1 : valid c.s.data.toList with
  | false =>
    have e : ofE c t = 8 := by unfold ofE; rw [if_pos b1]
    rw [ofT_bad e (by decide), e]
    rw [b1] at HV
    clear e b1 HP
    obtain ⟨cw, ca, cb, cc, cd, s⟩ := c
    unfold chgV
    simp only at HV hs ⊢
    go_enter Tryd.func53, Tryd.ntmps53
    go_wp2_with fail
    refine (HV.out _ (HF.out.keep (alloc_below w _))).mono ?_
    rintro e w1 ⟨rfl, hb⟩
    have HB := Lib.hid ((alloc_below w (.cells #[.bool cw, .int .i64 ca, .int .i64 cb, .int .i64 cc, .int .i64 cd, .string s] 54)).trans (hb.mono (by simp)))
    clear hb
    go_wp2_with fail
    go_ret2
    exact ⟨rfl, HB.out⟩
  | true =>
    rw [b1] at HV
    have hv : ¬ (valid c.s.data.toList = false) := by rw [b1]; decide
    cases b2 : okC c t with
    | false =>
      have e : ofE c t = 2 := by unfold ofE; rw [if_neg hv, if_pos b2]
      rw [ofT_bad e (by decide), e]
      have p1 : ∀ n, plN c t n = 0 := fun n => by unfold plN; rw [b2]; rfl
      rw [p1, p1, b2] at HP
      clear e b1 hv p1 b2
      obtain ⟨cw, ca, cb, cc, cd, s⟩ := c
      unfold chgV at HP ⊢
      simp only at HV HP hs ⊢
      go_enter Tryd.func53, Tryd.ntmps53
      go_wp2_with fail
      refine (HV.out _ (HF.out.keep (alloc_below w _))).mono ?_
      rintro e w1 ⟨rfl, hb⟩
      have HB := Lib.hid ((alloc_below w (.cells #[.bool cw, .int .i64 ca, .int .i64 cb, .int .i64 cc, .int .i64 cd, .string s] 54)).trans (hb.mono (by simp)))
      have k := heap_keep hb (alloc_top w #[.bool cw, .int .i64 ca, .int .i64 cb, .int .i64 cc, .int .i64 cd, .string s] 54)
      have c0 := cell_at (i := 0) k
      have c1 := cell_at (i := 1) k
      have c2 := cell_at (i := 2) k
      have c3 := cell_at (i := 3) k
      have c4 := cell_at (i := 4) k
      have c5 := cell_at (i := 5) k
      clear hb k
      go_wp2_with fail
      refine (HP.out _).mono ?_
      rintro e w2 ⟨rfl, hb⟩
      have HB2 := Lib.hid (HB.out.trans (hb.mono HB.out.size))
      clear hb
      go_wp2_with fail
      go_ret2
      exact ⟨rfl, HB2.out⟩
    | true =>
      obtain ⟨hft, htt⟩ := places_le b2
      have p1 : ∀ n, plN c t n = n := fun n => by unfold plN; rw [b2]; rfl
      rw [p1, p1, b2] at HP
      have ho : ¬ (okC c t = false) := by rw [b2]; decide
      by_cases b3 : 65536 < c.s.size + (t.size - (toN c t - fromN c t))
      · have e : ofE c t = 3 := by unfold ofE; rw [if_neg hv, if_neg ho, if_pos b3]
        rw [ofT_bad e (by decide), e]
        have q1 : (65536 : Int) - ((t.size : Int) - ((toN c t : Int) - (fromN c t : Int))) < (c.s.size : Int) := by omega
        clear e b1 hv p1 b2 ho
        generalize fromN c t = F at *
        generalize toN c t = T at *
        obtain ⟨cw, ca, cb, cc, cd, s⟩ := c
        unfold chgV at HP ⊢
        simp only at HV HP hs b3 q1 ⊢
        go_enter Tryd.func53, Tryd.ntmps53
        go_wp2_with fail
        refine (HV.out _ (HF.out.keep (alloc_below w _))).mono ?_
        rintro e w1 ⟨rfl, hb⟩
        have HB := Lib.hid ((alloc_below w (.cells #[.bool cw, .int .i64 ca, .int .i64 cb, .int .i64 cc, .int .i64 cd, .string s] 54)).trans (hb.mono (by simp)))
        have k := heap_keep hb (alloc_top w #[.bool cw, .int .i64 ca, .int .i64 cb, .int .i64 cc, .int .i64 cd, .string s] 54)
        have c0 := cell_at (i := 0) k
        have c1 := cell_at (i := 1) k
        have c2 := cell_at (i := 2) k
        have c3 := cell_at (i := 3) k
        have c4 := cell_at (i := 4) k
        have c5 := cell_at (i := 5) k
        have K := Lib.hid k
        clear hb k
        go_wp2_with fail
        refine (HP.out _).mono ?_
        rintro e w2 ⟨rfl, hb⟩
        have HB2 := Lib.hid (HB.out.trans (hb.mono HB.out.size))
        have k := heap_keep hb K.out
        have d5 := cell_at (i := 5) k
        clear hb k c0 c1 c2 c3 c4 c5
        go_wp2_with fail
        go_ret2
        exact ⟨rfl, HB2.out⟩
      · have e : ofE c t = 0 := by unfold ofE; rw [if_neg hv, if_neg ho, if_neg b3]
        have e2 : ofT c t = t.extract 0 (fromN c t) ++ c.s ++ t.extract (toN c t) t.size := by unfold ofT; rw [e, if_pos rfl]
        rw [e2, e]
        have q1 : (c.s.size : Int) ≤ (65536 : Int) - ((t.size : Int) - ((toN c t : Int) - (fromN c t : Int))) := by omega
        clear e e2 b1 hv p1 b2 ho
        generalize fromN c t = F at *
        generalize toN c t = T at *
        have z1 : (t.extract 0 F).size = F := by rw [ByteArray.size_extract]; omega
        have z2 : (t.extract T t.size).size = t.size - T := by rw [ByteArray.size_extract]; omega
        have z3 : (t.extract 0 F ++ c.s).size = F + c.s.size := by rw [ByteArray.size_append, z1]
        have HZ1 := Lib.hid z1
        obtain ⟨cw, ca, cb, cc, cd, s⟩ := c
        unfold chgV at HP ⊢
        simp only at HV HP hs b3 q1 z3 ⊢
        go_enter Tryd.func53, Tryd.ntmps53
        go_wp2_with fail
        refine (HV.out _ (HF.out.keep (alloc_below w _))).mono ?_
        rintro e w1 ⟨rfl, hb⟩
        have HB := Lib.hid ((alloc_below w (.cells #[.bool cw, .int .i64 ca, .int .i64 cb, .int .i64 cc, .int .i64 cd, .string s] 54)).trans (hb.mono (by simp)))
        have k := heap_keep hb (alloc_top w #[.bool cw, .int .i64 ca, .int .i64 cb, .int .i64 cc, .int .i64 cd, .string s] 54)
        have c0 := cell_at (i := 0) k
        have c1 := cell_at (i := 1) k
        have c2 := cell_at (i := 2) k
        have c3 := cell_at (i := 3) k
        have c4 := cell_at (i := 4) k
        have c5 := cell_at (i := 5) k
        have K := Lib.hid k
        clear hb k
        go_wp2_with fail
        refine (HP.out _).mono ?_
        rintro e w2 ⟨rfl, hb⟩
        have HB2 := Lib.hid (HB.out.trans (hb.mono HB.out.size))
        have k := heap_keep hb K.out
        have d5 := cell_at (i := 5) k
        clear hb k c0 c1 c2 c3 c4 c5
        go_wp2_with fail
        go_quiet (fail)
        go_wp2_with fail
        go_ret2
        exact ⟨rfl, drewN_below HB2.out _⟩
end Go.Proofs.YtpphkkelikdhkaaDoor
