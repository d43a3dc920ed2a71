/- Part of a proof. -/
import Derived.Test.YthaaolajbmafgaaGreatDoorPParse
import Derived.Test.YthaaolajbmafgaaGreatDoorPText
import Derived.Test.YthaaolajbmafgaaGreatDoorShelf3
namespace Go.Proofs.YthaaolajbmafgaaGreatDoor
open Go.RowKit
def inA : List UInt8 := [112, 97, 99, 107, 97, 103, 101, 32, 112, 10, 102, 117, 110, 99, 32, 102, 40, 41, 32, 123, 10]
def inZ : List UInt8 := [10, 125, 10]
def inP (s : List UInt8) : List UInt8 := inA ++ (s ++ inZ)
theorem inP_len (s : List UInt8) : (inP s).length = s.length + 24 := by
 unfold inP
 rw [List.length_append, List.length_append]
 show 21 + (s.length + 3) = _
 omega
set_option maxRecDepth 100000 in
set_option maxHeartbeats 1000000 in
theorem in_any (s : List UInt8) (hs : s.length ≤ 900000) (w : World) : Calls Tryz.prog 49 #[.string (txt s)] w fun e w' => e = .returned (.string (txt (inP s))) ∧ w = w' := by
 have a1 : (⟨#[112, 97, 99, 107, 97, 103, 101, 32, 112, 10, 102, 117, 110, 99, 32, 102, 40, 41, 32, 123, 10]⟩ : ByteArray) ++ txt s = txt (inA ++ s) := txt_app inA s
 have a2 : txt (inA ++ s) ++ (⟨#[10, 125, 10]⟩ : ByteArray) = txt (inP s) := by
  rw [show (⟨#[10, 125, 10]⟩ : ByteArray) = txt inZ from rfl, txt_app]
  unfold inP
  rw [List.append_assoc]
 have hb1 : ¬ 9223372036854775807 < 21 + (txt s).size := by show ¬ 9223372036854775807 < 21 + s.length; omega
 have hb2 : ¬ 9223372036854775807 < (txt (inA ++ s)).size + 3 := by
  show ¬ 9223372036854775807 < (inA ++ s).length + 3
  rw [List.length_append]
  show ¬ 9223372036854775807 < 21 + s.length + 3
  omega
 go_enter Tryz.func49, Tryz.ntmps49
 go_wp2_with fail
 go_ret
 exact ⟨rfl, rfl⟩
structure PW (FW : World → Prop) (w : World) : Prop where
 f : Facts w
 w : FW w
theorem PW.below {FW : World → Prop} {ff : List UInt8 → Nat} {OK : List UInt8 → Prop} (hS : FSpec FW ff OK) {w w' : World} (h : PW FW w) (hb : Below w.heap.size w w') : PW FW w' := ⟨h.f.below hb, hS.keep w w' h.w hb⟩
def noFl : List UInt8 → Bool
 | [] => true
 | c :: l => (tokK (c :: l)).1 != 4 && noFl l
theorem noFl_drop : ∀ (k : Nat) (x : List UInt8), k < x.length → noFl x = true → (tokK (x.drop k)).1 ≠ 4
 | _, [], h, _ => absurd h (Nat.not_lt_zero _)
 | 0, c :: l, _, h => by
  rw [noFl, Bool.and_eq_true] at h
  simpa using h.1
 | k + 1, c :: l, hk, h => by
  rw [noFl, Bool.and_eq_true] at h
  exact noFl_drop k l (Nat.lt_of_succ_lt_succ hk) h.2
theorem noFl_ok (OK : List UInt8 → Prop) {x : List UInt8} (h : noFl x = true) : floatsOk OK (txt x) := fun k hk h4 => absurd h4 (noFl_drop k x hk h)
theorem parse_at {FW : World → Prop} {ff : List UInt8 → Nat} {OK : List UInt8 → Prop} (hS : FSpec FW ff OK) (x : List UInt8) (hx : x.length ≤ 1000000) (hn : noFl x = true) (w : World) (h : PW FW w) : Calls Tryz.prog 13 #[.string (txt x)] w (PaEnd (parsR ff x) w) :=
 parse_any hS x hx (noFl_ok OK hn) w h.f h.w
def StEnd (l : List Nd) (w : World) (e : Ending) (w' : World) : Prop := ∃ A c, e = .returned (.slice A l.length c) ∧ l.length ≤ c ∧ SIn w' (fun b => w.heap.size ≤ b) l A ∧ Below w.heap.size w w'
set_option maxRecDepth 100000 in
set_option maxHeartbeats 4000000 in
theorem stmts_yes {FW : World → Prop} {ff : List UInt8 → Nat} {OK : List UInt8 → Prop} (hS : FSpec FW ff OK) (s : List UInt8) (hs : s.length ≤ 900000) (n k0 b0 b1 b2 d : Nd) (hN : noFl (inP s) = true) (hR : parsR ff (inP s) = .ok n) (h1 : n.kids = [k0]) (h4 : k0.kids = [b0, b1, b2, d]) (w : World) (hw : PW FW w) :
 Calls Tryz.prog 20 #[.string (txt s)] w (StEnd d.kids w) := by
 have HI := Lib.hid (in_any s hs)
 have HP := Lib.hid (parse_at hS (inP s) (by rw [inP_len]; omega) hN w hw)
 rw [hR] at HP
 clear hR hw hS
 go_enter Tryz.func20, Tryz.ntmps20
 go_wp2_with fail
 refine (HI.out w).mono ?_
 rintro ee wq ⟨rfl, rfl⟩
 go_wp2_with fail
 refine HP.out.mono ?_
 rintro ee w1 ⟨v, rfl, hn, hb⟩
 rw [show placeOf (Except.ok n : Except (Int × Nat) Nd) = 0 from rfl, show faultOf (Except.ok n : Except (Int × Nat) Nd) = 0 from rfl]
 have hn : NIn w1 (fun b => w.heap.size ≤ b) n v := hn
 obtain ⟨ja, jc, rfl, hjc, hj⟩ := hn.open
 obtain ⟨g, o, rfl, hg, hrow⟩ := hj (by rw [h1]; exact Nat.zero_lt_one)
 rw [h1] at hrow
 obtain ⟨ka, kc, d0, d1, d2, d3, d4, d5, hkc, hk⟩ := hrow.row (i := 0) (n := k0) rfl
 obtain ⟨g2, o2, rfl, hg2, hrow2⟩ := hk (by rw [h4]; exact Nat.zero_lt_succ _)
 rw [h4] at hrow2
 obtain ⟨la, lc, e0, e1, e2, e3, e4, e5, hlc, hl⟩ := hrow2.row (i := 3) (n := d) rfl
 have hlen1 : n.kids.length = 1 := by rw [h1]; rfl
 have hlen4 : k0.kids.length = 4 := by rw [h4]; rfl
 have HL := Lib.hid (And.intro hlc hl)
 have HB := Lib.hid hb
 have hgl := ncell_lt d0
 have hgl2 := ncell_lt e0
 simp only [Nat.zero_mul, Nat.add_zero] at d0 d1 d2 d3 d4 d5
 rw [hlen1]
 rw [hlen4] at d5
 clear hn hj hg hrow hk hg2 hrow2 hlc hl hb hlen1 hlen4 h1 h4
 go_wp2_with fail
 go_ret
 exact ⟨la, lc, rfl, HL.out.1, HL.out.2.below (alloc_below _ _), HB.out.trans ((alloc_below _ _).mono HB.out.size)⟩
def stmtR (ff : List UInt8 → Nat) (s : List UInt8) : Option Nd :=
 match parsR ff (inP s) with
 | .ok n => match n.kids with
  | [k0] => match k0.kids with
   | [_, _, _, d] => match d.kids with
    | [T] => some T
    | _ => none
   | _ => none
  | _ => none
 | .error _ => none
theorem stmtR_some {ff : List UInt8 → Nat} {s : List UInt8} {T : Nd} (h : stmtR ff s = some T) : ∃ n k0 b0 b1 b2 d, parsR ff (inP s) = .ok n ∧ n.kids = [k0] ∧ k0.kids = [b0, b1, b2, d] ∧ d.kids = [T] := by
 unfold stmtR at h
 split at h
 · rename_i n hn
   split at h
   · rename_i k0 hk
     split at h
     · rename_i b0 b1 b2 d hd
       split at h
       · rename_i T' hT
         injection h with h
         subst h
         exact ⟨n, k0, b0, b1, b2, d, hn, hk, hd, hT⟩
       · cases h
     · cases h
   · cases h
 · cases h
def tellsB (ff : List UInt8 → Nat) (s want : List UInt8) : Bool :=
 match stmtR ff s with
 | some T => kindB T && (decide (sz T ≤ 1000000) && (textN T == want && noFl (inP s)))
 | none => false
theorem tellsB_some {ff : List UInt8 → Nat} {s want : List UInt8} (h : tellsB ff s want = true) : ∃ T, stmtR ff s = some T ∧ kindB T = true ∧ sz T ≤ 1000000 ∧ textN T = want ∧ noFl (inP s) = true := by
 unfold tellsB at h
 split at h
 · rename_i T hT
   rw [Bool.and_eq_true, Bool.and_eq_true, Bool.and_eq_true] at h
   exact ⟨T, hT, h.1, of_decide_eq_true h.2.1, eq_of_beq h.2.2.1, h.2.2.2⟩
 · cases h
def YesEnd (w : World) (e : Ending) (w' : World) : Prop := e = .returned (.bool true) ∧ Below w.heap.size w w'
set_option maxRecDepth 100000 in
set_option maxHeartbeats 4000000 in
theorem tells_any {FW : World → Prop} {ff : List UInt8 → Nat} {OK : List UInt8 → Prop} (hS : FSpec FW ff OK) (s want : List UInt8) (hs : s.length ≤ 900000) (h : tellsB ff s want = true) (w : World) (hw : PW FW w) :
 Calls Tryz.prog 14 #[.string (txt s), .string (txt want)] w (YesEnd w) := by
 obtain ⟨T, hT, hk, hz, hx, hN⟩ := tellsB_some h
 obtain ⟨n, k0, b0, b1, b2, d, hR, h1, h4, h5⟩ := stmtR_some hT
 have HST := Lib.hid (stmts_yes hS s hs n k0 b0 b1 b2 d hN hR h1 h4 w hw)
 rw [h5] at HST
 have hq : ((txt (textN T)).toList == (txt want).toList) = true := by rw [hx]; simp
 have HK := Lib.hid hk
 have HZ := Lib.hid hz
 clear hT hR h1 h4 h5 hw hS h hk hz hx
 go_enter Tryz.func14, Tryz.ntmps14
 go_wp2_with fail
 refine HST.out.mono ?_
 rintro ee w1 ⟨A, c, rfl, hc, hj, hb⟩
 obtain ⟨g, o, rfl, hg, hrow⟩ := hj (by exact Nat.zero_lt_one)
 obtain ⟨xa, xc, d0, d1, d2, d3, d4, d5, hic, hkk⟩ := hrow.row (i := 0) (n := T) rfl
 simp only [Nat.zero_mul, Nat.add_zero] at d0 d1 d2 d3 d4 d5
 have HC : Hid (Calls Tryz.prog 48 #[.agg #[.int .i64 T.kind, .int .i64 T.fro, .int .i64 T.till, .int .i64 T.at', .string T.name, .slice xa T.kids.length xc]] w1 (TxEnd (textN T) w1)) := Lib.hid (ptext_any (sz T) T _ xa xc w1 (Nat.le_refl _) HZ.out HK.out hic hkk)
 have HB := Lib.hid hb
 rw [show [T].length = 1 from rfl]
 clear hj hg hrow hic hkk hb hc
 go_wp2_with fail
 refine HC.out.mono ?_
 rintro ee w2 ⟨rfl, hb⟩
 have HB2 := Lib.hid (HB.out.trans (hb.mono HB.out.size))
 clear hb
 go_wp2_with fail
 go_ret
 exact ⟨rfl, HB2.out⟩
def failsB (ff : List UInt8 → Nat) (s : List UInt8) (p : Nat) : Bool :=
 match parsR ff (inP s) with
 | .ok _ => false
 | .error (k, e) => decide (k = (p : Int) + 21) && (e == 4 && noFl (inP s))
set_option maxRecDepth 100000 in
set_option maxHeartbeats 4000000 in
theorem fails_any {FW : World → Prop} {ff : List UInt8 → Nat} {OK : List UInt8 → Prop} (hS : FSpec FW ff OK) (s : List UInt8) (p : Nat) (hs : s.length ≤ 900000) (hp : p ≤ 900000) (h : failsB ff s p = true) (w : World) (hw : PW FW w) :
 Calls Tryz.prog 15 #[.string (txt s), .int .i64 (p : Int)] w (YesEnd w) := by
 obtain ⟨hR, hN⟩ : parsR ff (inP s) = .error ((p : Int) + 21, 4) ∧ noFl (inP s) = true := by
  unfold failsB at h
  split at h
  · cases h
  · rename_i k e hR
    rw [Bool.and_eq_true, Bool.and_eq_true, decide_eq_true_eq, beq_iff_eq] at h
    exact ⟨by rw [hR, h.1, h.2.1], h.2.2⟩
 have HI := Lib.hid (in_any s hs)
 have HP := Lib.hid (parse_at hS (inP s) (by rw [inP_len]; omega) hN w hw)
 rw [hR] at HP
 clear hR hw hS h
 go_enter Tryz.func15, Tryz.ntmps15
 go_wp2_with fail
 refine (HI.out w).mono ?_
 rintro ee wq ⟨rfl, rfl⟩
 go_wp2_with fail
 refine HP.out.mono ?_
 rintro ee w1 ⟨v, rfl, hn, hb⟩
 have hn : NIn w1 (fun b => w.heap.size ≤ b) noTree v := hn
 obtain ⟨ja, jc, rfl, -, -⟩ := hn.open
 rw [show placeOf (Except.error ((p : Int) + 21, 4) : Except (Int × Nat) Nd) = (p : Int) + 21 from rfl, show faultOf (Except.error ((p : Int) + 21, 4) : Except (Int × Nat) Nd) = 4 from rfl]
 rw [show noTree.kind = 0 from rfl]
 have HB := Lib.hid hb
 clear hn hb
 go_wp2_with fail
 go_ret
 exact ⟨rfl, HB.out.trans ((alloc_below _ _).mono HB.out.size)⟩
end Go.Proofs.YthaaolajbmafgaaGreatDoor
namespace Go.Proofs.YthaaolajbmafgaaGreatDoor
open Go.RowKit
set_option maxRecDepth 100000
theorem tell_awake (ff : List UInt8 → Nat) : tellsB ff [120, 32, 61, 32, 97, 32, 43, 32, 98, 32, 42, 32, 50] [49, 51, 40, 50, 53, 120, 32, 51, 49, 43, 40, 50, 53, 97, 32, 51, 49, 42, 40, 50, 53, 98, 32, 50, 49, 50, 41, 41, 41] = true := by kernel_rfl
theorem tell_0 (ff : List UInt8 → Nat) : tellsB ff [120, 32, 61, 32, 49] [49, 51, 40, 50, 53, 120, 32, 50, 49, 49, 41] = true := by kernel_rfl
theorem tell_1 (ff : List UInt8 → Nat) : tellsB ff [105, 102, 32, 120, 32, 123, 125] [49, 52, 40, 50, 53, 120, 32, 49, 48, 32, 48, 48, 41] = true := by kernel_rfl
theorem tell_2 (ff : List UInt8 → Nat) : tellsB ff [105, 102, 32, 40, 84, 123, 125, 41, 32, 61, 61, 32, 121, 32, 123, 125] [49, 52, 40, 51, 49, 61, 61, 40, 51, 51, 40, 50, 56, 40, 48, 56, 84, 41, 41, 32, 50, 53, 121, 41, 32, 49, 48, 32, 48, 48, 41] = true := by kernel_rfl
theorem tell_3 (ff : List UInt8 → Nat) : tellsB ff [102, 111, 114, 32, 123, 125] [49, 53, 40, 48, 48, 32, 48, 48, 32, 48, 48, 32, 49, 48, 41] = true := by kernel_rfl
theorem tell_4 (ff : List UInt8 → Nat) : tellsB ff [102, 111, 114, 32, 120, 32, 123, 125] [49, 53, 40, 48, 48, 32, 50, 53, 120, 32, 48, 48, 32, 49, 48, 41] = true := by kernel_rfl
theorem tell_5 (ff : List UInt8 → Nat) : tellsB ff [102, 111, 114, 32, 59, 120, 59, 32, 123, 125] [49, 53, 40, 48, 48, 32, 50, 53, 120, 32, 48, 48, 32, 49, 48, 41] = true := by kernel_rfl
theorem tell_6 (ff : List UInt8 → Nat) : tellsB ff [97, 58, 32, 102, 111, 114, 32, 105, 32, 58, 61, 32, 48, 59, 32, 105, 32, 60, 32, 51, 59, 32, 105, 32, 61, 32, 105, 32, 43, 32, 49, 32, 123, 32, 99, 111, 110, 116, 105, 110, 117, 101, 32, 97, 32, 125] [49, 54, 97, 40, 49, 53, 40, 49, 50, 105, 40, 50, 49, 48, 41, 32, 51, 49, 60, 40, 50, 53, 105, 32, 50, 49, 51, 41, 32, 49, 51, 40, 50, 53, 105, 32, 51, 49, 43, 40, 50, 53, 105, 32, 50, 49, 49, 41, 41, 32, 49, 48, 40, 49, 56, 97, 41, 41, 41] = true := by kernel_rfl
theorem tell_7 (ff : List UInt8 → Nat) : tellsB ff [118, 97, 114, 32, 120, 32, 105, 110, 116] [49, 49, 120, 40, 48, 56, 105, 110, 116, 32, 48, 48, 41] = true := by kernel_rfl
theorem tell_8 (ff : List UInt8 → Nat) : tellsB ff [118, 97, 114, 32, 120, 32, 61, 32, 84, 123, 97, 58, 32, 49, 125] [49, 49, 120, 40, 48, 48, 32, 50, 56, 40, 48, 56, 84, 32, 50, 57, 97, 40, 50, 49, 49, 41, 41, 41] = true := by kernel_rfl
theorem tell_9 (ff : List UInt8 → Nat) : tellsB ff [120, 46, 121, 46, 122, 32, 61, 32, 45, 97, 46, 98, 40, 99, 44, 32, 33, 100, 41, 46, 101] [49, 51, 40, 50, 54, 122, 40, 50, 54, 121, 40, 50, 53, 120, 41, 41, 32, 51, 48, 45, 40, 50, 54, 101, 40, 50, 55, 40, 50, 54, 98, 40, 50, 53, 97, 41, 32, 50, 53, 99, 32, 51, 48, 33, 40, 50, 53, 100, 41, 41, 41, 41, 41] = true := by kernel_rfl
theorem tell_10 (ff : List UInt8 → Nat) : tellsB ff [114, 101, 116, 117, 114, 110] [49, 57] = true := by kernel_rfl
theorem tell_11 (ff : List UInt8 → Nat) : tellsB ff [120, 32, 58, 61, 32, 49, 32, 45, 32, 50, 32, 45, 32, 51] [49, 50, 120, 40, 51, 49, 45, 40, 51, 49, 45, 40, 50, 49, 49, 32, 50, 49, 50, 41, 32, 50, 49, 51, 41, 41] = true := by kernel_rfl
theorem tell_12 (ff : List UInt8 → Nat) : tellsB ff [120, 32, 58, 61, 32, 113, 46, 84, 123, 125] [49, 50, 120, 40, 50, 56, 40, 48, 57, 84, 40, 50, 53, 113, 41, 41, 41] = true := by kernel_rfl
theorem fail_0 (ff : List UInt8 → Nat) : failsB ff [120, 32, 43, 32, 121] 2 = true := by kernel_rfl
theorem fail_1 (ff : List UInt8 → Nat) : failsB ff [102, 40, 97, 44, 41] 4 = true := by kernel_rfl
theorem fail_2 (ff : List UInt8 → Nat) : failsB ff [49, 32, 61, 32, 50] 2 = true := by kernel_rfl
theorem fail_3 (ff : List UInt8 → Nat) : failsB ff [102, 40, 41, 40, 49, 41] 3 = true := by kernel_rfl
theorem fail_4 (ff : List UInt8 → Nat) : failsB ff [59] 0 = true := by kernel_rfl
theorem fail_5 (ff : List UInt8 → Nat) : failsB ff [120] 1 = true := by kernel_rfl
theorem fail_6 (ff : List UInt8 → Nat) : failsB ff [105, 102, 32, 84, 123, 125, 32, 123, 125] 7 = true := by kernel_rfl
theorem fail_7 (ff : List UInt8 → Nat) : failsB ff [84, 123, 97, 58, 32, 49, 44, 125] 7 = true := by kernel_rfl
theorem fail_8 (ff : List UInt8 → Nat) : failsB ff [97, 58, 32, 120, 32, 61, 32, 49] 3 = true := by kernel_rfl
theorem fail_9 (ff : List UInt8 → Nat) : failsB ff [102, 111, 114, 32, 120, 59, 32, 123, 125] 5 = true := by kernel_rfl
theorem fail_10 (ff : List UInt8 → Nat) : failsB ff [102, 111, 114, 32, 105, 32, 58, 61, 32, 48, 59, 32, 105, 32, 60, 32, 49, 59, 32, 105, 32, 58, 61, 32, 50, 32, 123, 125] 21 = true := by kernel_rfl
theorem fail_11 (ff : List UInt8 → Nat) : failsB ff [105, 110, 116, 40, 120, 41] 6 = true := by kernel_rfl
theorem fail_12 (ff : List UInt8 → Nat) : failsB ff [120, 32, 58, 61, 32] 6 = true := by kernel_rfl
theorem fail_13 (ff : List UInt8 → Nat) : failsB ff [40, 120, 41, 32, 61, 32, 49] 4 = true := by kernel_rfl
theorem fail_14 (ff : List UInt8 → Nat) : failsB ff [105, 102, 32, 120, 32, 123, 125, 10, 101, 108, 115, 101, 32, 123, 125] 8 = true := by kernel_rfl
theorem fail_15 (ff : List UInt8 → Nat) : failsB ff [120, 46, 121, 46, 122, 123, 125] 5 = true := by kernel_rfl
def prs_0 : List UInt8 := [112, 97, 99, 107, 97, 103, 101, 32, 112, 10]
def prs_1 : List UInt8 := [112, 97, 99, 107, 97, 103, 101, 32, 112, 10, 105, 109, 112, 111, 114, 116, 32, 34, 49, 34]
def prs_2 : List UInt8 := [112, 97, 99, 107, 97, 103, 101, 32, 112, 10, 102, 117, 110, 99, 32, 102, 40, 41, 32, 123]
def prs_3 : List UInt8 := [112, 97, 99, 107, 97, 103, 101, 32, 112, 10, 105, 109, 112, 111, 114, 116, 32, 34, 113, 34, 59, 32, 116, 121, 112, 101, 32, 84, 32, 115, 116, 114, 117, 99, 116, 32, 123, 32, 97, 32, 105, 110, 116, 59, 32, 98, 32, 113, 46, 84, 32, 125, 10, 102, 117, 110, 99, 32, 40, 116, 32, 84, 41, 32, 77, 40, 120, 32, 98, 111, 111, 108, 41, 32, 105, 110, 116, 32, 123, 32, 114, 101, 116, 117, 114, 110, 32, 49, 32, 125]
def nestP (n : Nat) : List UInt8 := inP ([120, 32, 61, 32] ++ (List.replicate n 40 ++ ([49] ++ List.replicate n 41)))
def okB (R : Except (Int × Nat) Nd) : Bool := match R with
 | .ok _ => true
 | .error _ => false
def badB (R : Except (Int × Nat) Nd) (k : Int) (e : Nat) : Bool := match R with
 | .ok _ => false
 | .error x => decide (x.1 = k) && x.2 == e
def smallT (R : Except (Int × Nat) Nd) : Bool := match R with
 | .ok n => decide (n.kind = 1) && (decide (n.fro = 0) && (decide (n.till = 10) && (decide (n.at' = 8) && (n.name.data.toList == [112] && n.kids.isEmpty))))
 | .error _ => false
theorem parse_0 (ff : List UInt8 → Nat) : smallT (parsR ff prs_0) = true := by kernel_rfl
theorem parse_1 (ff : List UInt8 → Nat) : badB (parsR ff prs_1) 17 9 = true := by kernel_rfl
theorem parse_2 (ff : List UInt8 → Nat) : badB (parsR ff prs_2) 20 4 = true := by kernel_rfl
theorem parse_3 (ff : List UInt8 → Nat) : okB (parsR ff prs_3) = true := by kernel_rfl
theorem float_0 : noFl prs_0 = true := by kernel_rfl
theorem float_1 : noFl prs_1 = true := by kernel_rfl
theorem float_2 : noFl prs_2 = true := by kernel_rfl
theorem float_3 : noFl prs_3 = true := by kernel_rfl
theorem float_127 : noFl (nestP 127) = true := by kernel_rfl
theorem float_128 : noFl (nestP 128) = true := by kernel_rfl
theorem nest_127 (ff : List UInt8 → Nat) : badB (parsR ff (nestP 127)) 85 3 = true := by kernel_rfl
theorem nest_128 (ff : List UInt8 → Nat) : badB (parsR ff (nestP 128)) 152 3 = true := by kernel_rfl
end Go.Proofs.YthaaolajbmafgaaGreatDoor
namespace Go.Proofs.YthaaolajbmafgaaGreatDoor
open Go.RowKit
theorem rep_one (c : UInt8) : ∀ n, Lib.repeatL [c] n = List.replicate n c
 | 0 => rfl
 | n + 1 => by
  have h := rep_one c n
  rw [List.replicate_succ, ← h]
  rfl
set_option maxRecDepth 100000 in
set_option maxHeartbeats 4000000 in
theorem nest_any (n : Nat) (hn : n ≤ 1000) (w : World) : Calls Tryz.prog 16 #[.int .i64 0, .int .i64 (n : Int)] w fun e w' => e = .returned (.string (txt (nestP n))) ∧ Below w.heap.size w w' := by
 have HR1 : Hid (∀ w : World, Calls Tryz.prog 50 #[.string ⟨#[40]⟩, .int .i64 (n : Int)] w fun e w' => e = .returned (.string (txt (List.replicate n 40))) ∧ Below w.heap.size w w') := Lib.hid (fun w => by
  have h := Tryz.strings_Repeat ⟨#[40]⟩ n w (by omega) (by show 1 * n ≤ _; omega)
  rw [show (⟨#[40]⟩ : ByteArray).data.toList = [40] from rfl, rep_one] at h
  exact h)
 have HR2 : Hid (∀ w : World, Calls Tryz.prog 50 #[.string ⟨#[41]⟩, .int .i64 (n : Int)] w fun e w' => e = .returned (.string (txt (List.replicate n 41))) ∧ Below w.heap.size w w') := Lib.hid (fun w => by
  have h := Tryz.strings_Repeat ⟨#[41]⟩ n w (by omega) (by show 1 * n ≤ _; omega)
  rw [show (⟨#[41]⟩ : ByteArray).data.toList = [41] from rfl, rep_one] at h
  exact h)
 have HI := Lib.hid (in_any ([120, 32, 61, 32] ++ (List.replicate n 40 ++ ([49] ++ List.replicate n 41))) (by simp; omega))
 have hl1 : (List.replicate n (40 : UInt8)).length = n := List.length_replicate ..
 have hl2 : (List.replicate n (41 : UInt8)).length = n := List.length_replicate ..
 obtain ⟨P1, hP1⟩ : ∃ P, P = List.replicate n (40 : UInt8) := ⟨_, rfl⟩
 obtain ⟨P2, hP2⟩ : ∃ P, P = List.replicate n (41 : UInt8) := ⟨_, rfl⟩
 unfold nestP
 rw [← hP1, ← hP2]
 rw [← hP1] at HR1 HI hl1
 rw [← hP2] at HR2 HI hl2
 clear hP1 hP2
 obtain ⟨Q1, hQ1⟩ : ∃ Q, Q = [120, 32, 61, 32] ++ P1 := ⟨_, rfl⟩
 obtain ⟨Q2, hQ2⟩ : ∃ Q, Q = Q1 ++ [49] := ⟨_, rfl⟩
 obtain ⟨Q3, hQ3⟩ : ∃ Q, Q = [120, 32, 61, 32] ++ (P1 ++ ([49] ++ P2)) := ⟨_, rfl⟩
 rw [← hQ3]
 rw [← hQ3] at HI
 have a1 : (⟨#[120, 32, 61, 32]⟩ : ByteArray) ++ txt P1 = txt Q1 := by rw [hQ1]; exact txt_app [120, 32, 61, 32] P1
 have a2 : txt Q1 ++ (⟨#[49]⟩ : ByteArray) = txt Q2 := by rw [hQ2]; exact txt_app _ [49]
 have a3 : txt Q2 ++ txt P2 = txt Q3 := by rw [hQ3, hQ2, hQ1, txt_app]; simp
 have h1 : Q1.length = 4 + n := by rw [hQ1, List.length_append, hl1]; rfl
 have h2 : Q2.length = 5 + n := by rw [hQ2, List.length_append, h1, List.length_singleton]; omega
 have b1 : ¬ 9223372036854775807 < 4 + (txt P1).size := by show ¬ 9223372036854775807 < 4 + P1.length; omega
 have b2 : ¬ 9223372036854775807 < (txt Q1).size + 1 := by show ¬ 9223372036854775807 < Q1.length + 1; omega
 have b3 : ¬ 9223372036854775807 < (txt Q2).size + (txt P2).size := by show ¬ 9223372036854775807 < Q2.length + P2.length; omega
 clear hl1 hl2 hQ1 hQ2 hQ3 h1 h2
 go_enter Tryz.func16, Tryz.ntmps16
 go_wp2_with fail
 refine (HR1.out w).mono ?_
 rintro ee w1 ⟨rfl, hb⟩
 have HB1 := Lib.hid hb
 clear hb
 go_wp2_with fail
 refine (HR2.out w1).mono ?_
 rintro ee w2 ⟨rfl, hb⟩
 have HB2 := Lib.hid (HB1.out.trans (hb.mono HB1.out.size))
 clear hb
 go_wp2_with fail
 refine (HI.out w2).mono ?_
 rintro ee w3 ⟨rfl, rfl⟩
 go_wp2_with fail
 go_ret
 exact ⟨rfl, HB2.out⟩
end Go.Proofs.YthaaolajbmafgaaGreatDoor
