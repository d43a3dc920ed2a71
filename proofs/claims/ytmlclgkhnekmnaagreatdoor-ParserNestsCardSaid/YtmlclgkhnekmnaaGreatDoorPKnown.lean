/- Part of a proof. -/
import Derived.Test.YtmlclgkhnekmnaaGreatDoorPParse
import Derived.Test.YtmlclgkhnekmnaaGreatDoorPText
import Derived.Test.YtmlclgkhnekmnaaGreatDoorShelf3
namespace Go.Proofs.YtmlclgkhnekmnaaGreatDoor
open Go.RowKit
def inA : List UInt8 := [112, 97, 99, 107, 97, 103, 101, 32, 112, 10, 102, 117, 110, 99, 32, 102, 40, 41, 32, 123, 10]
def inZ : List UInt8 := [10, 125, 10]
def inP (s : List UInt8) : List UInt8 := inA ++ (s ++ inZ)
theorem inP_len (s : List UInt8) : (inP s).length = s.length + 24 := by
 unfold inP
 rw [List.length_append, List.length_append]
 show 21 + (s.length + 3) = _
 omega
set_option maxRecDepth 100000 in
set_option maxHeartbeats 1000000 in
theorem in_any (s : List UInt8) (hs : s.length ≤ 900000) (w : World) : Calls Tryz.prog 45 #[.string (txt s)] w fun e w' => e = .returned (.string (txt (inP s))) ∧ w = w' := by
 have a1 : (⟨#[112, 97, 99, 107, 97, 103, 101, 32, 112, 10, 102, 117, 110, 99, 32, 102, 40, 41, 32, 123, 10]⟩ : ByteArray) ++ txt s = txt (inA ++ s) := ptxt_app inA s
 have a2 : txt (inA ++ s) ++ (⟨#[10, 125, 10]⟩ : ByteArray) = txt (inP s) := by
  rw [show (⟨#[10, 125, 10]⟩ : ByteArray) = txt inZ from rfl, ptxt_app]
  unfold inP
  rw [List.append_assoc]
 have hb1 : ¬ 9223372036854775807 < 21 + (txt s).size := by show ¬ 9223372036854775807 < 21 + s.length; omega
 have hb2 : ¬ 9223372036854775807 < (txt (inA ++ s)).size + 3 := by
  show ¬ 9223372036854775807 < (inA ++ s).length + 3
  rw [List.length_append]
  show ¬ 9223372036854775807 < 21 + s.length + 3
  omega
 go_enter Tryz.func45, Tryz.ntmps45
 go_wp2_with fail
 go_ret
 exact ⟨rfl, rfl⟩
structure PW (FW : World → Prop) (w : World) : Prop where
 f : Facts w
 w : FW w
theorem PW.below {FW : World → Prop} {ff : List UInt8 → Nat} {OK : List UInt8 → Prop} (hS : FSpec FW ff OK) {w w' : World} (h : PW FW w) (hb : Below w.heap.size w w') : PW FW w' := ⟨h.f.below hb, hS.keep w w' h.w hb⟩
def noFl : List UInt8 → Bool
 | [] => true
 | c :: l => (tokK (c :: l)).1 != 4 && noFl l
theorem noFl_drop : ∀ (k : Nat) (x : List UInt8), k < x.length → noFl x = true → (tokK (x.drop k)).1 ≠ 4
 | _, [], h, _ => absurd h (Nat.not_lt_zero _)
 | 0, c :: l, _, h => by
  rw [noFl, Bool.and_eq_true] at h
  simpa using h.1
 | k + 1, c :: l, hk, h => by
  rw [noFl, Bool.and_eq_true] at h
  exact noFl_drop k l (Nat.lt_of_succ_lt_succ hk) h.2
theorem noFl_ok (OK : List UInt8 → Prop) {x : List UInt8} (h : noFl x = true) : floatsOk OK (txt x) := fun k hk h4 => absurd h4 (noFl_drop k x hk h)
theorem parse_at {FW : World → Prop} {ff : List UInt8 → Nat} {OK : List UInt8 → Prop} (hS : FSpec FW ff OK) (x : List UInt8) (hx : x.length ≤ 1000000) (hn : noFl x = true) (w : World) (h : PW FW w) : Calls Tryz.prog 13 #[.string (txt x)] w (PaEnd (parsR ff x) w) :=
 parse_any hS x hx (noFl_ok OK hn) w h.f h.w
def StEnd (l : List Nd) (w : World) (e : Ending) (w' : World) : Prop := ∃ A c, e = .returned (.slice A l.length c) ∧ l.length ≤ c ∧ SIn w' (fun b => w.heap.size ≤ b) l A ∧ Below w.heap.size w w'
set_option maxRecDepth 100000 in
set_option maxHeartbeats 4000000 in
theorem stmts_yes {FW : World → Prop} {ff : List UInt8 → Nat} {OK : List UInt8 → Prop} (hS : FSpec FW ff OK) (s : List UInt8) (hs : s.length ≤ 900000) (n k0 b0 b1 b2 d : Nd) (hN : noFl (inP s) = true) (hR : parsR ff (inP s) = .ok n) (h1 : n.kids = [k0]) (h4 : k0.kids = [b0, b1, b2, d]) (w : World) (hw : PW FW w) :
 Calls Tryz.prog 16 #[.string (txt s)] w (StEnd d.kids w) := by
 have HI := Lib.hid (in_any s hs)
 have HP := Lib.hid (parse_at hS (inP s) (by rw [inP_len]; omega) hN w hw)
 rw [hR] at HP
 clear hR hw hS
 go_enter Tryz.func16, Tryz.ntmps16
 go_wp2_with fail
 refine (HI.out w).mono ?_
 rintro ee wq ⟨rfl, rfl⟩
 go_wp2_with fail
 refine HP.out.mono ?_
 rintro ee w1 ⟨v, rfl, hn, hb⟩
 rw [show placeOf (Except.ok n : Except (Int × Nat) Nd) = 0 from rfl, show faultOf (Except.ok n : Except (Int × Nat) Nd) = 0 from rfl]
 have hn : NIn w1 (fun b => w.heap.size ≤ b) n v := hn
 obtain ⟨ja, jc, rfl, hjc, hj⟩ := hn.open
 obtain ⟨g, o, rfl, hg, hrow⟩ := hj (by rw [h1]; exact Nat.zero_lt_one)
 rw [h1] at hrow
 obtain ⟨ka, kc, d0, d1, d2, d3, d4, d5, hkc, hk⟩ := hrow.row (i := 0) (n := k0) rfl
 obtain ⟨g2, o2, rfl, hg2, hrow2⟩ := hk (by rw [h4]; exact Nat.zero_lt_succ _)
 rw [h4] at hrow2
 obtain ⟨la, lc, e0, e1, e2, e3, e4, e5, hlc, hl⟩ := hrow2.row (i := 3) (n := d) rfl
 have hlen1 : n.kids.length = 1 := by rw [h1]; rfl
 have hlen4 : k0.kids.length = 4 := by rw [h4]; rfl
 have HL := Lib.hid (And.intro hlc hl)
 have HB := Lib.hid hb
 have hgl := ncell_lt d0
 have hgl2 := ncell_lt e0
 simp only [Nat.zero_mul, Nat.add_zero] at d0 d1 d2 d3 d4 d5
 rw [hlen1]
 rw [hlen4] at d5
 clear hn hj hg hrow hk hg2 hrow2 hlc hl hb hlen1 hlen4 h1 h4
 go_wp2_with fail
 go_ret
 exact ⟨la, lc, rfl, HL.out.1, HL.out.2.below (alloc_below _ _), HB.out.trans ((alloc_below _ _).mono HB.out.size)⟩
def stmtR (ff : List UInt8 → Nat) (s : List UInt8) : Option Nd :=
 match parsR ff (inP s) with
 | .ok n => match n.kids with
  | [k0] => match k0.kids with
   | [_, _, _, d] => match d.kids with
    | [T] => some T
    | _ => none
   | _ => none
  | _ => none
 | .error _ => none
theorem stmtR_some {ff : List UInt8 → Nat} {s : List UInt8} {T : Nd} (h : stmtR ff s = some T) : ∃ n k0 b0 b1 b2 d, parsR ff (inP s) = .ok n ∧ n.kids = [k0] ∧ k0.kids = [b0, b1, b2, d] ∧ d.kids = [T] := by
 unfold stmtR at h
 split at h
 · rename_i n hn
   split at h
   · rename_i k0 hk
     split at h
     · rename_i b0 b1 b2 d hd
       split at h
       · rename_i T' hT
         injection h with h
         subst h
         exact ⟨n, k0, b0, b1, b2, d, hn, hk, hd, hT⟩
       · cases h
     · cases h
   · cases h
 · cases h
def tellsB (ff : List UInt8 → Nat) (s want : List UInt8) : Bool :=
 match stmtR ff s with
 | some T => kindB T && (decide (sz T ≤ 1000000) && (textN T == want && noFl (inP s)))
 | none => false
theorem tellsB_some {ff : List UInt8 → Nat} {s want : List UInt8} (h : tellsB ff s want = true) : ∃ T, stmtR ff s = some T ∧ kindB T = true ∧ sz T ≤ 1000000 ∧ textN T = want ∧ noFl (inP s) = true := by
 unfold tellsB at h
 split at h
 · rename_i T hT
   rw [Bool.and_eq_true, Bool.and_eq_true, Bool.and_eq_true] at h
   exact ⟨T, hT, h.1, of_decide_eq_true h.2.1, eq_of_beq h.2.2.1, h.2.2.2⟩
 · cases h
def YesEnd (w : World) (e : Ending) (w' : World) : Prop := e = .returned (.bool true) ∧ Below w.heap.size w w'
set_option maxRecDepth 100000 in
set_option maxHeartbeats 4000000 in
theorem tells_any {FW : World → Prop} {ff : List UInt8 → Nat} {OK : List UInt8 → Prop} (hS : FSpec FW ff OK) (s want : List UInt8) (hs : s.length ≤ 900000) (h : tellsB ff s want = true) (w : World) (hw : PW FW w) :
 Calls Tryz.prog 44 #[.string (txt s), .string (txt want)] w (YesEnd w) := by
 obtain ⟨T, hT, hk, hz, hx, hN⟩ := tellsB_some h
 obtain ⟨n, k0, b0, b1, b2, d, hR, h1, h4, h5⟩ := stmtR_some hT
 have HST := Lib.hid (stmts_yes hS s hs n k0 b0 b1 b2 d hN hR h1 h4 w hw)
 rw [h5] at HST
 have hq : ((txt (textN T)).toList == (txt want).toList) = true := by rw [hx]; simp
 have HK := Lib.hid hk
 have HZ := Lib.hid hz
 clear hT hR h1 h4 h5 hw hS h hk hz hx
 go_enter Tryz.func44, Tryz.ntmps44
 go_wp2_with fail
 refine HST.out.mono ?_
 rintro ee w1 ⟨A, c, rfl, hc, hj, hb⟩
 obtain ⟨g, o, rfl, hg, hrow⟩ := hj (by exact Nat.zero_lt_one)
 obtain ⟨xa, xc, d0, d1, d2, d3, d4, d5, hic, hkk⟩ := hrow.row (i := 0) (n := T) rfl
 simp only [Nat.zero_mul, Nat.add_zero] at d0 d1 d2 d3 d4 d5
 have HC : Hid (Calls Tryz.prog 69 #[.agg #[.int .i64 T.kind, .int .i64 T.fro, .int .i64 T.till, .int .i64 T.at', .string T.name, .slice xa T.kids.length xc]] w1 (TxEnd (textN T) w1)) := Lib.hid (ptext_any (sz T) T _ xa xc w1 (Nat.le_refl _) HZ.out HK.out hic hkk)
 have HB := Lib.hid hb
 rw [show [T].length = 1 from rfl]
 clear hj hg hrow hic hkk hb hc
 go_wp2_with fail
 refine HC.out.mono ?_
 rintro ee w2 ⟨rfl, hb⟩
 have HB2 := Lib.hid (HB.out.trans (hb.mono HB.out.size))
 clear hb
 go_wp2_with fail
 go_ret
 exact ⟨rfl, HB2.out⟩
end Go.Proofs.YtmlclgkhnekmnaaGreatDoor
namespace Go.Proofs.YtmlclgkhnekmnaaGreatDoor
open Go.RowKit
set_option maxRecDepth 100000
theorem tell_awake (ff : List UInt8 → Nat) : tellsB ff [120, 32, 61, 32, 97, 32, 43, 32, 98, 32, 42, 32, 50] [49, 51, 40, 50, 53, 120, 32, 51, 49, 43, 40, 50, 53, 97, 32, 51, 49, 42, 40, 50, 53, 98, 32, 50, 49, 50, 41, 41, 41] = true := by kernel_rfl
def okB (R : Except (Int × Nat) Nd) : Bool := match R with
 | .ok _ => true
 | .error _ => false
end Go.Proofs.YtmlclgkhnekmnaaGreatDoor
namespace Go.Proofs.YtmlclgkhnekmnaaGreatDoor
open Go.RowKit
end Go.Proofs.YtmlclgkhnekmnaaGreatDoor
namespace Go.Proofs.YtmlclgkhnekmnaaGreatDoor
open Go.RowKit
section
variable {FW : World → Prop} {ff : List UInt8 → Nat} {OK : List UInt8 → Prop}
set_option maxRecDepth 100000 in
set_option maxHeartbeats 1000000 in
theorem pawake_any (hS : FSpec FW ff OK) (w : World) (hw : PW FW w) : Calls Tryz.prog 14 #[] w (YesEnd w) := by
 have HA := Lib.hid (tells_any hS _ _ (by decide) (tell_awake ff) w hw)
 clear hw hS
 go_enter Tryz.func14, Tryz.ntmps14
 go_wp2_with fail
 refine HA.out.mono ?_
 rintro ee w1 ⟨rfl, hb⟩
 have HB := Lib.hid hb
 clear hb
 go_wp2_with fail
 go_ret
 exact ⟨rfl, HB.out⟩
end
end Go.Proofs.YtmlclgkhnekmnaaGreatDoor
