/-
  THE LAW FrameReads: whatever comes in, in whatever parts, and however often one asks between, a reader answers as the document's does. Conditions: what the variables that are read hold (Facts).
-/
import Derived.Test.YtmaihiklcdidbaaDoorRefG
import Derived.Test.YtmaihiklcdidbaaDoorBack
import Derived.Deep.QuietTactic
import Derived.BigQuiet
import Derived.WalkSmall
namespace Go.Proofs.YtmaihiklcdidbaaDoor
open Go.RowKit

/-- A slice that reads as parts: a text and how often one asks. -/
def PReads (W : World) (A : Option Addr) (M : List (ByteArray × UInt8)) : Prop :=
  (0 < M.length → ∃ b o, A = some ⟨b, o, none⟩ ∧ ∀ j s, M[j]? = some s → W.cell? ⟨b, o + j * 2, none⟩ = some (.string s.1) ∧ W.cell? ⟨b, o + j * 2 + 1, none⟩ = some (.int .u8 (s.2.toNat : Int))) ∧ ∀ s ∈ M, s.1.size ≤ maxLen
/-- Both readers, apart, made since a world. -/
structure RQ (w W : World) (R Q : Nat) (g : Option Nat) (r r' : RS) : Prop where
  below : Below w.heap.size w W
  rd : RdIn W R g r
  qn : QIn W Q r'
  lo : ∀ k, rdX R g k → w.heap.size ≤ k
  loQ : w.heap.size ≤ Q
  ap : ¬ rdX R g Q
theorem RQ.stepR {w W W' : World} {R Q : Nat} {g : Option Nat} {r r' r2 : RS} (h : RQ w W R Q g r r') (e : RdEnd W R g r2 W') : ∃ g', RQ w W' R Q g' r2 r' := by
  obtain ⟨g', h1, h2, h3⟩ := e
  have hlt := h.qn.lt
  have hx : ∀ k, rdX R g' k → rdX R g k ∨ W.heap.size ≤ k := fun k hk => by
    rcases hk with hk | hk
    · exact .inl (.inl hk)
    · exact (h1 k hk).imp (fun h => .inr h) id
  refine ⟨g', h.below.trans (h3.to_below h.below.size h.lo), h2, h.qn.keep (h3.block Q hlt h.ap), fun k hk => ?_, h.loQ, fun hk => ?_⟩
  · rcases hx k hk with h' | h'
    · exact h.lo k h'
    · exact Nat.le_trans h.below.size h'
  · rcases hx Q hk with h' | h'
    · exact h.ap h'
    · omega
theorem RQ.stepQ {w W W' : World} {R Q : Nat} {g : Option Nat} {r r' r2 : RS} (h : RQ w W R Q g r r') (hq : QIn W' Q r2) (hf : Fr (· = Q) W W') : RQ w W' R Q g r r2 :=
  ⟨h.below.trans (hf.to_below h.below.size (fun k hk => by have := h.loQ; omega)), h.rd.keep hf.size (fun k hk hx => hf.block k hk (fun e => h.ap (e ▸ hx))), hq, h.lo, h.loQ, h.ap⟩
theorem RQ.more {w W W' : World} {R Q : Nat} {g : Option Nat} {r r' : RS} (h : RQ w W R Q g r r') (hb : Below W.heap.size W W') : RQ w W' R Q g r r' :=
  ⟨h.below.trans (hb.mono h.below.size), h.rd.below hb, h.qn.below hb, h.lo, h.loQ, h.ap⟩
theorem RQ.inR {w W : World} {R Q : Nat} {g : Option Nat} {r r' : RS} (h : RQ w W R Q g r r') (s : ByteArray) (hs : r.held + s.size ≤ 100000000) :
    Calls Tryd.prog 10 #[.pointer (some ⟨R, 0, none⟩), .string s] W fun e w' => e = .returned (.int .i64 (pushE r : Int)) ∧ ∃ g', RQ w w' R Q g' (pushR s.data.toList r) r' := by
  cases r with
  | live l => exact (push_live R g l s hs W h.rd).mono fun _ _ ⟨a, b⟩ => ⟨a, h.stepR b⟩
  | dead n => exact (push_dead R n g s W h.rd).mono fun _ _ ⟨a, b⟩ => ⟨a, by subst b; exact ⟨g, h⟩⟩
theorem RQ.inQ {w W : World} {R Q : Nat} {g : Option Nat} {r r' : RS} (h : RQ w W R Q g r r') (s : ByteArray) (hs : r'.held + s.size ≤ 100000000) :
    Calls Tryd.prog 11 #[.pointer (some ⟨Q, 0, none⟩), .string s] W fun e w' => e = .returned (.int .i64 (pushE r' : Int)) ∧ RQ w w' R Q g r (pushR s.data.toList r') := by
  cases r' with
  | live l => exact (refPush_live Q l s hs W h.qn).mono fun _ _ ⟨a, b, c⟩ => ⟨a, h.stepQ b c⟩
  | dead n => exact (refPush_dead Q n s W h.qn).mono fun _ _ ⟨a, b⟩ => ⟨a, by subst b; exact h⟩
theorem RQ.askR {w W : World} {R Q : Nat} {g : Option Nat} {r r' : RS} (h : RQ w W R Q g r r') (hF : Facts w) :
    Calls Tryd.prog 12 #[.pointer (some ⟨R, 0, none⟩)] W fun e w' => e = .returned (nextV (nextE r)) ∧ ∃ g', RQ w w' R Q g' (nextR r) r' :=
  (next_any R g r W h.rd (hF.below h.below)).mono fun _ _ ⟨a, b⟩ => ⟨a, h.stepR b⟩
theorem RQ.askQ {w W : World} {R Q : Nat} {g : Option Nat} {r r' : RS} (h : RQ w W R Q g r r') :
    Calls Tryd.prog 13 #[.pointer (some ⟨Q, 0, none⟩)] W fun e w' => e = .returned (nextV (nextE r')) ∧ RQ w w' R Q g r (nextR r') := by
  cases r' with
  | live l => exact (refNext_live Q l W h.qn).mono fun _ _ ⟨a, b, c⟩ => ⟨a, h.stepQ b c⟩
  | dead n => exact (refNext_dead Q n W h.qn).mono fun _ _ ⟨a, b, c⟩ => ⟨a, h.stepQ b c⟩
theorem nextR_held (r : RS) : (nextR r).held ≤ r.held := by
  cases r with
  | dead n => exact Nat.le_refl _
  | live l =>
    unfold nextR
    simp only
    split
    · exact Nat.le_refl _
    · exact Nat.le_refl _
    · show (List.drop _ l).length ≤ l.length
      rw [List.length_drop]; omega
theorem pushR_held (s : List UInt8) (r : RS) : (pushR s r).held ≤ r.held + s.length := by
  cases r with
  | dead n => exact Nat.le_add_right _ _
  | live l => show (l ++ s).length ≤ _; rw [List.length_append]; exact Nat.le_refl _
/-- What the document's reader's cells hold. -/
theorem QIn.cells {W : World} {Q : Nat} {r : RS} (h : QIn W Q r) : ∃ S : ByteArray, W.cell? ⟨Q, 0, none⟩ = some (.string S) ∧ W.cell? ⟨Q, 1, none⟩ = some (.bool r.isDead) ∧ S.size = r.held := by
  cases r with
  | live l => exact ⟨txt l, cell_at h.1 0, cell_at h.1 1, by rw [Lib.size_eq, txt_list]; rfl⟩
  | dead n => obtain ⟨S, h, hn⟩ := h; exact ⟨S, cell_at h 0, cell_at h 1, hn⟩
set_option maxRecDepth 100000 in
set_option maxHeartbeats 1500000 in
theorem reads_any (A : Option Addr) (M : List (ByteArray × UInt8)) (c : Nat) (w : World) (hM : PReads w A M) (hF : Facts w) :
    Calls Tryd.prog 3 #[.slice A M.length c] w fun e w' => e = .returned (.bool true) ∧ Below w.heap.size w w' := by
  have HC := Lib.hid (fun (s : ByteArray × UInt8) (h : s ∈ M) (W : World) => cut_any s.1 (by have := hM.2 s h; unfold maxLen at this; omega) W)
  have HM := Lib.hid hM
  have HF := Lib.hid hF
  have HN := Lib.hid (new_any w)
  clear hM hF
  go_enter Tryd.func3, Tryd.ntmps3
  go_wp2_with fail
  refine HN.out.mono ?_
  rintro e w1 ⟨rfl, hr1, hb1, hz1⟩
  obtain ⟨R, hR⟩ : ∃ R, R = w.heap.size := ⟨_, rfl⟩
  rw [← hR] at hr1 ⊢
  have hlt1 := hr1.lt
  have hQ : RQ w (w1.alloc (.cells #[.string ⟨#[]⟩, .bool false] 27)) R w1.heap.size none (.live []) (.live []) := by
    have hb := alloc_below w1 (.cells #[.string ⟨#[]⟩, .bool false] 27)
    refine ⟨hb1.trans (hb.mono hb1.size), hr1.below hb, ⟨alloc_top w1 _ _, by simp⟩, fun k hk => ?_, hb1.size, fun hk => ?_⟩
    · rw [rdX_none hk]; omega
    · have := rdX_none hk; omega
  have HQ := Lib.hid hQ
  clear hr1 hb1 hQ HN hR hlt1 hz1
  obtain ⟨Q, hQQ⟩ : ∃ Q, Q = w1.heap.size := ⟨_, rfl⟩
  go_wp2_with fail
  rw [← hQQ] at HQ ⊢
  clear hQQ
  go_loopw [5] (fun n wr => ∃ (i : Nat) (r : RS) (g : Option Nat), n = .int .i64 (i : Int) ∧ i ≤ 40 ∧ r.held ≤ 3000 * i ∧ Hid (RQ w wr R Q g r r)) (fun n _ => 40 - (intOf n).toNat)
  case atStart => exact ⟨0, .live [], none, rfl, by omega, by simp [RS.held], HQ⟩
  case round =>
    obtain ⟨i, r, g, rfl, hi, hr, hQ⟩ := hrel
    clear HQ
    by_cases hiM : i < M.length
    · by_cases hi40 : i < 40
      · have q1 : (i : Int) < (M.length : Int) := by omega
        have q2 : (i : Int) < 40 := by omega
        obtain ⟨b, o, rfl, hcell⟩ := HM.out.1 (by omega)
        have hcw := hcell i M[i] (List.getElem?_eq_getElem hiM)
        have hmem : M[i] ∈ M := List.getElem_mem hiM
        clear hcell
        generalize M[i] = s at *
        have HC1 := Lib.hid (HC.out s hmem wr)
        have HCW := Lib.hid hcw
        have c0 := cell_keep hQ.out.below hcw.1
        obtain ⟨s1, s2⟩ := s
        have hbl : (s1.data.toList.take 3000).length ≤ 3000 := by rw [List.length_take]; omega
        generalize hbb : s1.data.toList.take 3000 = bb at *
        have hbs : (txt bb).size = bb.length := by rw [Lib.size_eq, txt_list]
        have HP := Lib.hid (hQ.out.inR (txt bb) (by omega))
        have hr2 := pushR_held bb r
        have HP2 := Lib.hid (fun (W : World) (g2 : Option Nat) (h : RQ w W R Q g2 (pushR bb r) r) => h.inQ (txt bb) (by omega))
        rw [txt_list] at HP HP2
        generalize pushE r = pe at *
        generalize pushR bb r = r2 at *
        generalize txt bb = T at *
        have hr3 : r2.held ≤ 3000 * (i + 1) := by omega
        clear hbb hbs hcw hmem hr2 hbl hr hQ
        go_wp2_with fail
        refine HC1.out.mono ?_
        rintro e w2 ⟨rfl, rfl⟩
        go_wp2_with fail
        refine HP.out.mono ?_
        rintro e w3 ⟨rfl, g2, hq2⟩
        have HP3 := Lib.hid (HP2.out _ _ hq2)
        clear hq2 HP
        go_wp2_with fail
        refine HP3.out.mono ?_
        rintro e w4 ⟨rfl, hq3⟩
        have HQ3 := Lib.hid hq3
        clear hq3 HP3 HP2 c0
        go_wp2_with fail
        go_loopw [9] (fun n wq => ∃ (j : Nat) (r1 : RS) (g1 : Option Nat), n = .int .u8 (j : Int) ∧ j ≤ 5 ∧ r1.held ≤ 3000 * (i + 1) ∧ Hid (RQ w wq R Q g1 r1 r1)) (fun n _ => 5 - (intOf n).toNat)
        case atStart => exact ⟨0, r2, g2, rfl, by omega, hr3, HQ3⟩
        case round =>
          obtain ⟨j, r1, g1, rfl, hj, hr1, hq1⟩ := hrel
          clear HQ3
          have c1 := cell_keep hq1.out.below HCW.out.2
          by_cases hja : j < s2.toNat % 5
          · have q3 : (j : Int) < (s2.toNat : Int) % 5 := by omega
            have hj4 : j < 5 := by omega
            have HX := Lib.hid (hq1.out.askR HF.out)
            have HX2 := Lib.hid (fun (W : World) (g2 : Option Nat) (h : RQ w W R Q g2 (nextR r1) r1) => h.askQ)
            have hh := nextR_held r1
            have hr5 : (nextR r1).held ≤ 3000 * (i + 1) := by omega
            generalize nextR r1 = r5 at *
            generalize nextE r1 = x at *
            obtain ⟨body, is, er⟩ := x
            unfold nextV at HX HX2
            simp only at HX HX2
            generalize txt body = BT at *
            clear hh hq1 hr1
            go_wp2_with fail
            refine HX.out.mono ?_
            rintro e w5 ⟨rfl, g5, hq5⟩
            have HX5 := Lib.hid (HX2.out _ _ hq5)
            clear hq5 HX HX2
            go_wp2_with fail
            refine HX5.out.mono ?_
            rintro e w6 ⟨rfl, hq6⟩
            have HQ6 := Lib.hid hq6
            clear hq6 HX5
            go_wp2_with fail
            refine ⟨⟨j + 1, r5, g5, by go_num, by omega, hr5, HQ6⟩, ?_⟩
            simp [intOf]
            omega
          · have q3 : ¬ (j : Int) < (s2.toNat : Int) % 5 := by omega
            obtain ⟨S, d0, d1, hS⟩ := hq1.out.qn.cells
            have HH := Lib.hid (fun (W : World) (h : RQ w W R Q g1 r1 r1) => (held_any R g1 r1 W h.rd).mono (R' := fun e w' => e = .returned (.int .i64 (r1.held : Int)) ∧ w' = W) fun _ _ ⟨a, b⟩ => ⟨a, b.symm⟩)
            have HK := Lib.hid (fun (W : World) (h : RQ w W R Q g1 r1 r1) => (broken_any R g1 r1 W h.rd).mono (R' := fun e w' => e = .returned (.bool r1.isDead) ∧ w' = W) fun _ _ ⟨a, b⟩ => ⟨a, b.symm⟩)
            rw [← hS] at HH
            generalize r1.isDead = dd at *
            clear hS
            go_wp2_with fail
            go_quiet (first | exact Calls.quiet_of_same (HH.out _ (hq1.out.more (below_drewN (Below.refl _ _) _))) | exact Calls.quiet_of_same (HK.out _ (hq1.out.more (below_drewN (Below.refl _ _) _))))
            go_wp2_with fail
            refine ⟨⟨i + 1, r1, g1, by go_num, by omega, hr1, Lib.hid (hq1.out.more (below_drewN (Below.refl _ _) _))⟩, ?_⟩
            simp [intOf]
            omega
      · have q1 : (i : Int) < (M.length : Int) := by omega
        have q2 : ¬ (i : Int) < 40 := by omega
        have HA := Lib.hid (awake_any _ (HF.out.below hQ.out.below))
        go_wp2_with fail
        refine HA.out.mono ?_
        rintro e w7 ⟨rfl, hb7⟩
        have HB7 := Lib.hid (hQ.out.below.trans (hb7.mono hQ.out.below.size))
        clear hb7
        go_wp2_with fail
        go_ret
        exact ⟨rfl, HB7.out⟩
    · have q1 : ¬ (i : Int) < (M.length : Int) := by omega
      have HA := Lib.hid (awake_any _ (HF.out.below hQ.out.below))
      go_wp2_with fail
      refine HA.out.mono ?_
      rintro e w7 ⟨rfl, hb7⟩
      have HB7 := Lib.hid (hQ.out.below.trans (hb7.mono hQ.out.below.size))
      clear hb7
      go_wp2_with fail
      go_ret
      exact ⟨rfl, HB7.out⟩
end Go.Proofs.YtmaihiklcdidbaaDoor
