/- Part of a proof. -/
import Derived.Test.YtmlclgkhnekmnaaGreatDoorDPlain2
import Derived.Test.YtmlclgkhnekmnaaGreatDoorLCardKit
import Derived.Laws.BitsLemmas
import Derived.BigFrame
import Derived.BigRegion
import Derived.BigQuiet
import Derived.Test.YtmlclgkhnekmnaaGreatDoorLAwake
import Derived.Test.YtmlclgkhnekmnaaGreatDoorDPlain3
import Derived.Test.YtmlclgkhnekmnaaGreatDoorRead3
import Derived.Deep.CutBlock
import Derived.Deep.LoopGhost
namespace Go.Proofs.YtmlclgkhnekmnaaGreatDoor
open Go.RowKit
structure RIn (W : World) (g : Nat) (f : Nat → Nat) (nd dp : Int) (tr : Bool) : Prop where
 thaw : ∀ i, W.frozen? ⟨g, i, none⟩ = false
 byte : ∀ i, i < 800 → W.cell? ⟨g, i, none⟩ = some (.int .u8 (f i : Int))
 small : ∀ i, i < 800 → f i < 256
 hnd : W.cell? ⟨g, 800, none⟩ = some (.int .i64 nd)
 hdp : W.cell? ⟨g, 801, none⟩ = some (.int .i64 dp)
 hneg : W.cell? ⟨g, 802, none⟩ = some (.bool false)
 htr : W.cell? ⟨g, 803, none⟩ = some (.bool tr)
theorem other_cell (W : World) (g i j : Nat) (v : Value) (h : i ≠ j) : (W.setCell ⟨g, i, none⟩ v).cell? ⟨g, j, none⟩ = W.cell? ⟨g, j, none⟩ := World.cell?_setCell_other _ _ _ _ (by intro e; injection e with _ e2; exact h e2)
def upd (f : Nat → Nat) (i v : Nat) : Nat → Nat := fun j => if j = i then v else f j
theorem upd_same (f : Nat → Nat) (i v : Nat) : upd f i v i = v := if_pos rfl
theorem upd_other (f : Nat → Nat) (i v j : Nat) (h : j ≠ i) : upd f i v j = f j := if_neg h
theorem RIn.put {W : World} {g : Nat} {f : Nat → Nat} {nd dp : Int} {tr : Bool} (h : RIn W g f nd dp tr) (i : Nat) (hi : i < 800) (v : Nat) (hv : v < 256) : RIn (W.setCell ⟨g, i, none⟩ (.int .u8 (v : Int))) g (upd f i v) nd dp tr := by
 refine ⟨fun j => ?_, fun j hj => ?_, fun j hj => ?_, ?_, ?_, ?_, ?_⟩
 · rw [World.frozen?_setCell]; exact h.thaw j
 · by_cases e : j = i
   · subst e
     rw [upd_same]
     exact World.cell?_setCell_same _ _ _ (h.byte j hj)
   · rw [other_cell _ _ _ _ _ (fun x => e x.symm), upd_other _ _ _ _ e]
     exact h.byte j hj
 · by_cases e : j = i
   · subst e; rw [upd_same]; exact hv
   · rw [upd_other _ _ _ _ e]; exact h.small j hj
 · rw [other_cell _ _ _ _ _ (by omega)]; exact h.hnd
 · rw [other_cell _ _ _ _ _ (by omega)]; exact h.hdp
 · rw [other_cell _ _ _ _ _ (by omega)]; exact h.hneg
 · rw [other_cell _ _ _ _ _ (by omega)]; exact h.htr
theorem RIn.putNd {W : World} {g : Nat} {f : Nat → Nat} {nd dp : Int} {tr : Bool} (h : RIn W g f nd dp tr) (n : Int) : RIn (W.setCell ⟨g, 800, none⟩ (.int .i64 n)) g f n dp tr := by
 refine ⟨fun j => ?_, fun j hj => ?_, h.small, ?_, ?_, ?_, ?_⟩
 · rw [World.frozen?_setCell]; exact h.thaw j
 · rw [other_cell _ _ _ _ _ (by omega)]; exact h.byte j hj
 · exact World.cell?_setCell_same _ _ _ h.hnd
 · rw [other_cell _ _ _ _ _ (by omega)]; exact h.hdp
 · rw [other_cell _ _ _ _ _ (by omega)]; exact h.hneg
 · rw [other_cell _ _ _ _ _ (by omega)]; exact h.htr
theorem RIn.putDp {W : World} {g : Nat} {f : Nat → Nat} {nd dp : Int} {tr : Bool} (h : RIn W g f nd dp tr) (n : Int) : RIn (W.setCell ⟨g, 801, none⟩ (.int .i64 n)) g f nd n tr := by
 refine ⟨fun j => ?_, fun j hj => ?_, h.small, ?_, ?_, ?_, ?_⟩
 · rw [World.frozen?_setCell]; exact h.thaw j
 · rw [other_cell _ _ _ _ _ (by omega)]; exact h.byte j hj
 · rw [other_cell _ _ _ _ _ (by omega)]; exact h.hnd
 · exact World.cell?_setCell_same _ _ _ h.hdp
 · rw [other_cell _ _ _ _ _ (by omega)]; exact h.hneg
 · rw [other_cell _ _ _ _ _ (by omega)]; exact h.htr
theorem RIn.putTr {W : World} {g : Nat} {f : Nat → Nat} {nd dp : Int} {tr : Bool} (h : RIn W g f nd dp tr) (b : Bool) : RIn (W.setCell ⟨g, 803, none⟩ (.bool b)) g f nd dp b := by
 refine ⟨fun j => ?_, fun j hj => ?_, h.small, ?_, ?_, ?_, ?_⟩
 · rw [World.frozen?_setCell]; exact h.thaw j
 · rw [other_cell _ _ _ _ _ (by omega)]; exact h.byte j hj
 · rw [other_cell _ _ _ _ _ (by omega)]; exact h.hnd
 · rw [other_cell _ _ _ _ _ (by omega)]; exact h.hdp
 · rw [other_cell _ _ _ _ _ (by omega)]; exact h.hneg
 · exact World.cell?_setCell_same _ _ _ h.htr
def DIn (W : World) (g : Nat) (x : Dc) : Prop := ∃ f, RIn W g f (x.nd : Int) x.dp x.tr ∧ ∀ i, i < x.nd → f i = 48 + dig x.D x.nd i
theorem RIn.below {W W' : World} {g : Nat} {f : Nat → Nat} {nd dp : Int} {tr : Bool} (h : RIn W g f nd dp tr) (hb : Below W.heap.size W W') (hg : W'.heap[g]? = W.heap[g]?) : RIn W' g f nd dp tr := by
 refine ⟨fun i => ?_, fun i hi => cell_keep2 hb (h.byte i hi), h.small, cell_keep2 hb h.hnd, cell_keep2 hb h.hdp, cell_keep2 hb h.hneg, cell_keep2 hb h.htr⟩
 have := h.thaw i
 simp only [World.frozen?] at this ⊢
 rw [hg]; exact this
theorem RIn.drewN {W : World} {g : Nat} {f : Nat → Nat} {nd dp : Int} {tr : Bool} (h : RIn W g f nd dp tr) (n : Nat) : RIn (W.drewN n) g f nd dp tr := by
 refine ⟨fun j => ?_, fun j hj => ?_, h.small, ?_, ?_, ?_, ?_⟩
 · rw [World.frozen?_drewN]; exact h.thaw j
 · rw [World.cell?_drewN]; exact h.byte j hj
 · rw [World.cell?_drewN]; exact h.hnd
 · rw [World.cell?_drewN]; exact h.hdp
 · rw [World.cell?_drewN]; exact h.hneg
 · rw [World.cell?_drewN]; exact h.htr
theorem dBelow {w w' : World} {B : Nat} (h : Below B w w') (n : Nat) : Below B w (w'.drewN n) := h.trans ⟨rfl, rfl, rfl, Nat.le_refl _, fun _ _ => rfl⟩
theorem mask_mod (n k : Nat) (hk : k ≤ 60) (h : n < 18446744073709551616) : bits .and .u64 (n : Int) ((2 : Int) ^ k - 1) = ((n % 2 ^ k : Nat) : Int) := by
 rw [bits_mask .u64 64 (by decide) (fun n h0 h1 => by rw [IntKind.wrap_u64]; omega) k (by omega) n (by omega) (by omega)]
 simp
theorem RIn.putNeg {W : World} {g : Nat} {f : Nat → Nat} {nd dp : Int} {tr : Bool} (h : RIn W g f nd dp tr) : RIn (W.setCell ⟨g, 802, none⟩ (.bool false)) g f nd dp tr := by
 refine ⟨fun j => ?_, fun j hj => ?_, h.small, ?_, ?_, ?_, ?_⟩
 · rw [World.frozen?_setCell]; exact h.thaw j
 · rw [other_cell _ _ _ _ _ (by omega)]; exact h.byte j hj
 · rw [other_cell _ _ _ _ _ (by omega)]; exact h.hnd
 · rw [other_cell _ _ _ _ _ (by omega)]; exact h.hdp
 · exact World.cell?_setCell_same _ _ _ h.hneg
 · rw [other_cell _ _ _ _ _ (by omega)]; exact h.htr
end Go.Proofs.YtmlclgkhnekmnaaGreatDoor
namespace Go.Proofs.YtmlclgkhnekmnaaGreatDoor
open Go.RowKit
def ndOf (W : World) (g : Nat) : Nat := match W.cell? ⟨g, 800, none⟩ with | some (.int _ n) => n.toNat | _ => 0
theorem RIn.ndOf {W : World} {g : Nat} {f : Nat → Nat} {nd dp : Int} {tr : Bool} (h : RIn W g f nd dp tr) : ndOf W g = nd.toNat := by
 unfold Go.Proofs.YtmlclgkhnekmnaaGreatDoor.ndOf
 rw [h.hnd]
set_option maxRecDepth 100000 in
set_option maxHeartbeats 1000000 in
theorem trim_any (g : Nat) (D nd : Nat) (f : Nat → Nat) (dp : Int) (tr : Bool) (hl : Len D nd) (h8 : nd ≤ 800) (w : World) (h : RIn w g f (nd : Int) dp tr) (hf : ∀ i, i < nd → f i = 48 + dig D nd i) :
 Calls Tryz.prog 252 #[.pointer (some ⟨g, 0, none⟩)] w fun e w' => e = .returned (.tuple #[]) ∧ RIn w' g f ((stripN D nd).2 : Int) dp tr ∧ (∀ i, i < (stripN D nd).2 → f i = 48 + dig (stripN D nd).1 (stripN D nd).2 i) ∧ Below g w w' := by
 obtain ⟨R, hR⟩ : ∃ R, stripN D nd = R := ⟨_, rfl⟩
 rw [hR]
 have HR := Lib.hid hR
 have HL := Lib.hid hl
 have HI := Lib.hid h
 have HF := Lib.hid hf
 clear hR hl h hf
 go_enter Tryz.func252, Tryz.ntmps252
 go_wp2_with fail
 go_loopw [] (fun wr => ∃ (D' n : Nat), n ≤ nd ∧ Hid (Len D' n) ∧ Hid (stripN D' n = R) ∧ Hid (RIn wr g f (n : Int) dp tr) ∧ Hid (∀ i, i < n → f i = 48 + dig D' n i) ∧ Hid (Below g w wr)) (fun wr => ndOf wr g)
 case atStart => exact ⟨D, nd, Nat.le_refl _, HL, HR, HI, HF, Lib.hid (Below.refl _ _)⟩
 case round =>
  obtain ⟨D', n, hn, hL, hS, hI, hF, hB⟩ := hrel
  have n1 := hL.out.n1
  have c0 := hI.out.hnd
  have c1 := hI.out.hdp
  have cb := hI.out.byte (n - 1) (by omega)
  have t0 := hI.out.thaw 800
  have hfv := hF.out (n - 1) (by omega)
  obtain ⟨m, rfl⟩ : ∃ m, n = m + 1 := ⟨n - 1, by omega⟩
  rw [Nat.add_sub_cancel] at cb hfv
  rw [dig_last] at hfv
  rw [hfv] at cb
  have ec : ((m + 1 : Nat) : Int) = (m : Int) + 1 := by omega
  rw [ec] at c0
  have m8 : (m : Int) < 800 := by omega
  have m8n : m < 800 := by omega
  have ew : IntKind.i64.wrap (m : Int) = (m : Int) := IntWalk.i64_in _ (by omega)
  have ec1 : (m : Int) + 1 - 1 = (m : Int) := by omega
  have egt : decide (0 < (m : Int) + 1) = true := by rw [decide_eq_true_eq]; omega
  by_cases hz : D' % 10 = 0
  · rw [hz] at cb
    have hst := hS.out
    rw [stripN, if_pos hz] at hst
    have HT := Lib.hid (hL.out.tail hz)
    have HST := Lib.hid hst
    clear hst hz
    go_wp2_with fail
    go_quiet (fail)
    go_wp2_with fail
    go_roundw
    case rel =>
     refine ⟨D' / 10, m, by omega, HT, HST, Lib.hid ((hI.out.drewN nq).putNd _), Lib.hid (fun i hi => ?_), Lib.hid ?_⟩
     · rw [hF.out i (by omega), dig_div _ _ _ hi]
     · exact Below.setCell (p := ⟨g, 800, none⟩) (dBelow hB.out _) (Nat.le_refl g) _
    case measure =>
     rw [((hI.out.drewN nq).putNd _).ndOf, hI.out.ndOf]
     omega
  · have hst := hS.out
    rw [stripN, if_neg hz] at hst
    have e48 : ((48 + D' % 10 : Nat) : Int) = 48 + ((D' % 10 : Nat) : Int) := by omega
    have ene : (48 + ((D' % 10 : Nat) : Int) == 48) = false := by simp only [beq_eq_false_iff_ne, ne_eq]; omega
    have e0 : ((m : Int) + 1 == 0) = false := by simp only [beq_eq_false_iff_ne, ne_eq]; omega
    rw [e48] at cb
    generalize ((D' % 10 : Nat) : Int) = d at *
    have HST := Lib.hid hst
    clear hst hz e48 hfv
    go_wp2_with fail
    go_quiet (fail)
    go_wp2_with fail
    go_end0
    have e := HST.out
    subst e
    exact ⟨rfl, hI.out.drewN nq, hF.out, dBelow hB.out nq⟩
end Go.Proofs.YtmlclgkhnekmnaaGreatDoor
namespace Go.Proofs.YtmlclgkhnekmnaaGreatDoor
open Go.RowKit
set_option maxRecDepth 100000 in
set_option maxHeartbeats 1000000 in
theorem prefix_less (g D nd cap : Nat) (hn : nd ≤ 800) (hl : D < 10 ^ nd) (C m : Nat) (hc : C < 10 ^ m) (hc0 : C % 10 ≠ 0) (s : ByteArray) (hs : s.size = m) (hm : m ≤ 1000)
 (hd : ∀ i (h : i < s.size), s[i].toNat = 48 + dig C m i) (w : World) (hb : ∀ i, i < nd → w.cell? ⟨g, i, none⟩ = some (.int .u8 ((48 + dig D nd i : Nat) : Int))) :
 Calls Tryz.prog 251 #[.slice (some ⟨g, 0, none⟩) nd cap, .string s] w fun e w' => e = .returned (.bool (decide (D * 10 ^ m < C * 10 ^ nd))) ∧ ∃ n, w' = w.drewN n := by
 have HB := Lib.hid hb
 have HD := Lib.hid hd
 have H0 := Lib.hid (same_zero hl hc)
 have HC := Lib.hid hc0
 obtain ⟨R, hR⟩ : ∃ R, decide (D * 10 ^ m < C * 10 ^ nd) = R := ⟨_, rfl⟩
 rw [hR]
 have HR := Lib.hid hR
 clear hb hd hl hc hc0 hR
 go_enter Tryz.func251, Tryz.ntmps251
 go_wp2_with fail
 go_loopw [4, 5] (fun v u wr => v = .bool false ∧ ∃ i : Nat, u = .int .i64 (i : Int) ∧ i ≤ m ∧ Hid (SameTo D nd C m i) ∧ Hid (∃ n, wr = w.drewN n)) (fun _ u _ => m - (intOf u).toNat)
 case atStart => exact ⟨rfl, 0, rfl, by omega, H0, Lib.hid ⟨0, rfl⟩⟩
 case round =>
  obtain ⟨rfl, i, rfl, hi, hS, hW⟩ := hrel
  obtain ⟨n, rfl⟩ := hW.out
  have i1 := hS.out.1
  by_cases h1 : i < m
  · have h1s : i < s.size := by omega
    by_cases h2 : i < nd
    · have c := HB.out i h2
      have hsd := HD.out i h1s
      have l8 := dig_lt D nd i
      have l9 := dig_lt C m i
      have q1 : decide ((nd : Int) ≤ (i : Int)) = false := by rw [decide_eq_false_iff_not]; omega
      by_cases he : dig D nd i = dig C m i
      · have HN := Lib.hid (same_next hS.out h2 h1 he)
        rw [he] at c
        have q2 : ((((48 + dig C m i : Nat) : Int)) != ((48 + dig C m i : Nat) : Int)) = false := by simp
        generalize 48 + dig C m i = d at *
        clear he l8 l9
        go_wp2_with fail
        go_quiet (fail)
        go_wp2_with fail
        exact ⟨⟨rfl, i + 1, by go_num, by omega, HN, Lib.hid ⟨_, rfl⟩⟩, by simp [intOf]; omega⟩
      · have q2 : ((((48 + dig D nd i : Nat) : Int)) != ((48 + dig C m i : Nat) : Int)) = true := by simp only [bne_iff_ne, ne_eq]; omega
        have p1 := pre_digit D nd i h2
        have p2 := pre_digit C m i h1
        rw [hS.out.2.2] at p1
        have HRR : Hid (decide (48 + dig D nd i < 48 + dig C m i) = R) := Lib.hid (by
         rw [← HR.out]
         by_cases hlt : dig D nd i < dig C m i
         · rw [decide_eq_true (by omega), decide_eq_true (front_lt (i := i + 1) (by omega) (by omega) (by rw [p1, p2]; omega))]
         · rw [decide_eq_false (by omega), decide_eq_false (front_ge (i := i + 1) (by omega) (by omega) (by rw [p1, p2]; omega))])
        generalize 48 + dig D nd i = d at *
        generalize 48 + dig C m i = e at *
        clear he l8 l9 p1 p2
        go_wp2_with fail
        go_quiet (fail)
        go_wp2_with fail
        go_quiet (fail)
        go_wp2_with fail
        try rw [Exit.noGoto_ret]
        go_ret
        exact ⟨ret_bool HRR.out, _, by rw [World.drewN_drewN, World.drewN_drewN]⟩
    · have q1n : nd ≤ i := by omega
      have q1 : decide ((nd : Int) ≤ (i : Int)) = true := by rw [decide_eq_true_eq]; omega
      have HRR : Hid (true = R) := Lib.hid (by
       have hS2 := hS.out
       obtain rfl : i = nd := by omega
       rw [← HR.out, decide_eq_true (same_short hS2 h1 HC.out)])
      go_wp2_with fail
      try rw [Exit.noGoto_ret]
      go_ret
      exact ⟨ret_bool HRR.out, _, rfl⟩
  · have HRR : Hid (false = R) := Lib.hid (by
     have hS2 := hS.out
     obtain rfl : i = m := by omega
     rw [← HR.out, decide_eq_false (same_long hS2)])
    have q1n : ¬ i < s.size := by omega
    go_wp2_with fail
    go_ret
    exact ⟨ret_bool HRR.out, _, rfl⟩
end Go.Proofs.YtmlclgkhnekmnaaGreatDoor
namespace Go.Proofs.YtmlclgkhnekmnaaGreatDoor
open Go.RowKit
structure SetAt (l : List UInt8) (g : Nat) (w : World) (j : Nat) (W : World) : Prop where
 row : ∃ f, RIn W g f ((rfAt l j).nd : Int) (rfAt l j).dp false ∧ ∀ i, i < (rfAt l j).nd → f i = 48 + dig (dAt l j) (rfAt l j).nd i
 below : Below g w W
set_option maxRecDepth 100000 in
set_option maxHeartbeats 4000000 in
theorem set_any (g : Nat) (s : ByteArray) (hs : s.size ≤ 60) (p q : Nat) (hq : floatQ s.data.toList = q) (F : FForm s.data.toList p q) (hE : q = s.size ∨ (q < s.size ∧ EForm s.data.toList q (floatX s.data.toList))) (w : World) (h : RIn w g (fun _ => 0) 0 0 false) :
 Calls Tryz.prog 217 #[.pointer (some ⟨g, 0, none⟩), .string s] w fun e w' => e = .returned (.bool true) ∧ (∃ f, RIn w' g f ((rfAt s.data.toList q).nd : Int) (rfDp s.data.toList) false ∧ ∀ i, i < (rfAt s.data.toList q).nd → f i = 48 + dig (dAt s.data.toList q) (rfAt s.data.toList q).nd i) ∧ Below g w w' := by
 have hsz : s.data.toList.length = s.size := rfl
 obtain ⟨p1, pq, ql, hdot, hdig⟩ := id F
 rw [hsz] at ql
 have N := fun j (h : j < s.size) => nth_at2 s j h
 have h0 : 0 < s.size := by omega
 have d0 : 48 ≤ s[0].toNat ∧ s[0].toNat ≤ 57 := by rw [← N 0 h0]; exact hdig 0 (by omega) (by omega)
 obtain ⟨x0, hx0⟩ : ∃ x, s[0].toNat = x := ⟨_, rfl⟩
 rw [hx0] at d0
 have q1 : (((x0 : Nat) : Int) == 43) = false := by simp only [beq_eq_false_iff_ne, ne_eq]; omega
 have q2 : (((x0 : Nat) : Int) == 45) = false := by simp only [beq_eq_false_iff_ne, ne_eq]; omega
 have qe : decide (s = ByteArray.empty) = false := by
  rw [decide_eq_false_iff_not]
  intro h
  rw [h] at h0
  exact absurd h0 (by decide)
 have c2 := h.hneg
 have c3 := h.htr
 have ht := h.thaw
 have HF := Lib.hid F
 have HN := Lib.hid N
 have HQ := Lib.hid hq
 have HD := Lib.hid hdig
 have HDOT := Lib.hid hdot
 have HE := Lib.hid hE
 have hI1 := (h.putNeg).putTr false
 have HI : Hid (SetAt s.data.toList g w 0 ((w.setCell ⟨g, 802, none⟩ (.bool false)).setCell ⟨g, 803, none⟩ (.bool false))) := Lib.hid ⟨⟨_, hI1, fun i hi => by simp [rfAt, rf0] at hi⟩, Below.setCell (p := ⟨g, 803, none⟩) (Below.setCell (p := ⟨g, 802, none⟩) (Below.refl _ _) (Nat.le_refl g) _) (Nat.le_refl g) _⟩
 clear F N hdig hdot hq hE h hI1
 go_enter Tryz.func217, Tryz.ntmps217
 go_upto_block 1 with fail
 clear c2 c3 ht q1 q2 qe d0 hx0
 generalize (w.setCell ⟨g, 802, none⟩ (.bool false)).setCell ⟨g, 803, none⟩ (.bool false) = W1 at *
 go_cut [5, 6, 7] (fun i d sd wx => i = .int .i64 (q : Int) ∧ d = .bool true ∧ sd = .bool true ∧ Hid (SetAt s.data.toList g w q wx))
 case first =>
  as_aux_lemma =>
   go_wp2_with fail
   go_loopg [5, 6, 7] q (fun gk i d sd wr => ∃ (j : Nat) (b c : Bool), j ≤ q ∧ q - j = gk ∧ i = .int .i64 (j : Int) ∧ d = .bool b ∧ sd = .bool c ∧ Hid (b = decide (p < j) ∧ c = (rfAt s.data.toList j).sd) ∧ Hid (SetAt s.data.toList g w j wr))
   case atStart => exact ⟨0, false, false, by omega, rfl, rfl, rfl, rfl, Lib.hid ⟨by simp, rfl⟩, HI⟩
   case round =>
    clear HI
    obtain ⟨j, b, c, hj, hgk, rfl, rfl, rfl, hbc, hI⟩ := hrel
    have hb := rf_bounds s.data.toList j
    obtain ⟨b1, _, b3, b4, _⟩ := hb
    have row := hI.out.row
    obtain ⟨f, hR, hf⟩ := row
    obtain ⟨nd, hnd⟩ : ∃ n, (rfAt s.data.toList j).nd = n := ⟨_, rfl⟩
    obtain ⟨dp, hdp⟩ : ∃ n, (rfAt s.data.toList j).dp = n := ⟨_, rfl⟩
    rw [hnd, hdp] at hR
    rw [hnd] at hf b1
    rw [hdp] at b3 b4
    have c0 := hR.hnd
    have c1 := hR.hdp
    have ht := hR.thaw
    by_cases hjq : j < q
    · have hjs : j < s.size := by omega
      have hnt := HN.out j hjs
      have hnd1 := rf_nd s.data.toList j
      have hdp1 := rf_dp s.data.toList j
      have hda : dAt s.data.toList (j + 1) = if nth s.data.toList j = 46 then dAt s.data.toList j else if nth s.data.toList j = 48 ∧ (rfAt s.data.toList j).nd = 0 then dAt s.data.toList j else dAt s.data.toList j * 10 + (nth s.data.toList j - 48) := rfl
      have hsd1 := rf_sd HF.out (j + 1) (by omega) (by omega)
      obtain ⟨x, hx⟩ : ∃ x, s[j].toNat = x := ⟨_, rfl⟩
      rw [hx] at hnt
      rw [hnt] at hnd1 hdp1 hda
      rw [hnd] at hnd1 hdp1 hda
      rw [hdp] at hdp1
      by_cases hjp : j = p
      · have hx46 : x = 46 := by rw [← hnt, hjp]; exact HDOT.out
        subst hx46
        rw [if_pos rfl] at hnd1 hdp1 hda
        have hbf : b = false := by rw [hbc.out.1]; exact decide_eq_false (by omega)
        subst hbf
        have hc2 : c = (rfAt s.data.toList j).sd := hbc.out.2
        have hsj : (rfAt s.data.toList j).sd = true := rf_sd HF.out j (by omega) (by omega)
        rw [hsj] at hc2
        subst hc2
        have HNEW : Hid (SetAt s.data.toList g w (j + 1) (wr.setCell ⟨g, 801, none⟩ (.int .i64 (nd : Int))) ∧ true = decide (p < j + 1) ∧ true = (rfAt s.data.toList (j + 1)).sd) := Lib.hid ⟨⟨⟨f, by rw [hnd1, hdp1]; exact hR.putDp _, by rw [hnd1, hda]; exact hf⟩, Below.setCell (p := ⟨g, 801, none⟩) hI.out.below (Nat.le_refl g) _⟩, (decide_eq_true (by omega)).symm, hsd1.symm⟩
        clear hsd1 hda hdp1 hnd1 hsj hjp hnt hR hf hnd hdp
        go_wp2_with fail
        go_roundg (q - (j + 1))
        case measure => omega
        case rel => exact ⟨j + 1, true, true, by omega, rfl, by go_num, rfl, rfl, Lib.hid HNEW.out.2, Lib.hid HNEW.out.1⟩
      · have hcd := HD.out j hjq hjp
        rw [hnt] at hcd
        obtain ⟨x1, x2⟩ := hcd
        have e1 : ((x : Int) == 95) = false := by simp only [beq_eq_false_iff_ne, ne_eq]; omega
        have e2 : ((x : Int) == 46) = false := by simp only [beq_eq_false_iff_ne, ne_eq]; omega
        have e3 : decide ((48 : Int) ≤ (x : Int)) = true := by rw [decide_eq_true_eq]; omega
        have e4 : decide ((x : Int) ≤ 57) = true := by rw [decide_eq_true_eq]; omega
        have x46 : ¬ x = 46 := by omega
        rw [if_neg x46] at hnd1 hdp1 hda
        have hbn : b = decide (p < j + 1) := by
         rw [hbc.out.1]
         apply decide_eq_decide.2
         omega
        by_cases gz : x = 48 ∧ nd = 0
        · rw [if_pos gz] at hnd1 hdp1 hda
          have e5 : ((x : Int) == 48) = true := by simp only [beq_iff_eq]; omega
          have e6 : ((nd : Int) == 0) = true := by simp only [beq_iff_eq]; omega
          have ew : IntKind.i64.wrap (dp - 1) = dp - 1 := IntWalk.i64_in _ (by omega)
          have HNEW : Hid (SetAt s.data.toList g w (j + 1) (wr.setCell ⟨g, 801, none⟩ (.int .i64 (dp - 1))) ∧ b = decide (p < j + 1) ∧ true = (rfAt s.data.toList (j + 1)).sd) := Lib.hid ⟨⟨⟨f, by rw [hnd1, hdp1]; exact hR.putDp _, by rw [hnd1, hda]; exact hf⟩, Below.setCell (p := ⟨g, 801, none⟩) hI.out.below (Nat.le_refl g) _⟩, hbn, hsd1.symm⟩
          clear hsd1 hda hdp1 hnd1 hjp hnt hR hf hnd hdp gz hbn x46
          go_wp2_with fail
          go_roundg (q - (j + 1))
          case measure => omega
          case rel => exact ⟨j + 1, b, true, by omega, rfl, by go_num, rfl, rfl, Lib.hid HNEW.out.2, Lib.hid HNEW.out.1⟩
        · rw [if_neg gz] at hnd1 hdp1 hda
          have HNEW : Hid (SetAt s.data.toList g w (j + 1) ((wr.setCell ⟨g, nd, none⟩ (.int .u8 (x : Int))).setCell ⟨g, 800, none⟩ (.int .i64 ((nd : Int) + 1))).drew ∧ b = decide (p < j + 1) ∧ true = (rfAt s.data.toList (j + 1)).sd) := Lib.hid ⟨⟨⟨upd f nd x, by rw [hnd1, hdp1]; exact ((hR.put nd (by omega) x (by omega)).putNd _).drewN 1, by
           rw [hnd1, hda]
           intro i hi
           by_cases e : i = nd
           · subst e
             rw [upd_same, (dig_push (D := dAt s.data.toList j) (nd := i) (i := 0) (show x - 48 < 10 by omega)).2]
             omega
           · rw [upd_other _ _ _ _ e, (dig_push (D := dAt s.data.toList j) (nd := nd) (i := i) (show x - 48 < 10 by omega)).1 (by omega)]
             exact hf i (by omega)⟩, dBelow (Below.setCell (p := ⟨g, 800, none⟩) (Below.setCell (p := ⟨g, nd, none⟩) hI.out.below (Nat.le_refl g) _) (Nat.le_refl g) _) 1⟩, hbn, hsd1.symm⟩
          have cp := hR.byte nd (by omega)
          have n8 : (nd : Int) < 800 := by omega
          have n8n : nd < 800 := by omega
          clear hsd1 hda hdp1 hnd1 hjp hnt hR hf hnd hdp hbn x46
          by_cases g48 : x = 48
          · have e5 : ((x : Int) == 48) = true := by simp only [beq_iff_eq]; omega
            have e6 : ((nd : Int) == 0) = false := by simp only [beq_eq_false_iff_ne, ne_eq]; omega
            clear gz g48
            go_wp2_with fail
            go_region
            go_wp2_with fail
            go_roundg (q - (j + 1))
            case measure => omega
            case rel => exact ⟨j + 1, b, true, by omega, rfl, by go_num, rfl, rfl, Lib.hid HNEW.out.2, Lib.hid HNEW.out.1⟩
          · have e5 : ((x : Int) == 48) = false := by simp only [beq_eq_false_iff_ne, ne_eq]; omega
            clear gz g48
            go_wp2_with fail
            go_region
            go_wp2_with fail
            go_roundg (q - (j + 1))
            case measure => omega
            case rel => exact ⟨j + 1, b, true, by omega, rfl, by go_num, rfl, rfl, Lib.hid HNEW.out.2, Lib.hid HNEW.out.1⟩
    · obtain rfl : j = q := by omega
      have hbt : b = true := by rw [hbc.out.1]; exact decide_eq_true (by omega)
      have hct : c = true := by rw [hbc.out.2]; exact rf_sd HF.out j (by omega) (by omega)
      subst hbt hct
      clear hR hf hnd hdp hjq
      by_cases hlast : j < s.size
      · have hE := HE.out.resolve_left (by omega)
        have hcq := hE.2.e
        rw [HN.out j hlast] at hcq
        clear hE
        go_wp2_with fail
        go_meet
        exact ⟨rfl, rfl, rfl, hI⟩
      · go_wp2_with fail
        go_meet
        exact ⟨rfl, rfl, rfl, hI⟩
 case rest =>
  clear HI
  obtain ⟨rfl, rfl, rfl, hI⟩ := hcut
  have hb := rf_bounds s.data.toList q
  obtain ⟨b1, _, b3, b4, _⟩ := hb
  have row := hI.out.row
  obtain ⟨f, hR, hf⟩ := row
  obtain ⟨nd, hnd⟩ : ∃ n, (rfAt s.data.toList q).nd = n := ⟨_, rfl⟩
  obtain ⟨dp, hdp⟩ : ∃ n, (rfAt s.data.toList q).dp = n := ⟨_, rfl⟩
  rw [hnd, hdp] at hR
  rw [hnd] at hf b1
  rw [hdp] at b3 b4
  have HND := Lib.hid hnd
  have c1 := hR.hdp
  have ht := hR.thaw
  have HR := Lib.hid hR
  have HFD := Lib.hid hf
  have HBL := Lib.hid hI.out.below
  have HDP := Lib.hid hdp
  clear hI hR hf hnd hdp
  rcases HE.out with hE | ⟨hE, eE⟩
  · have hDp : rfDp s.data.toList = dp := by
     unfold rfDp
     rw [HQ.out, HDP.out, if_pos (by rw [hsz]; exact hE), Int.add_zero]
    have HDD := Lib.hid hDp
    have hqn : ¬ q < s.size := by omega
    have hqe : ((q : Int) != (s.size : Int)) = false := by simp only [bne_eq_false_iff_eq]; omega
    clear hDp HE
    go_wp2_with fail
    try rw [Exit.noGoto_ret]
    go_ret
    exact ⟨rfl, ⟨f, by rw [HND.out, HDD.out]; exact HR.out, by rw [HND.out]; exact HFD.out⟩, HBL.out⟩
  · obtain ⟨fx, hfx⟩ : ∃ f, floatX s.data.toList = f := ⟨_, rfl⟩
    rw [hfx] at eE
    have HEF := Lib.hid eE
    have hcq := eE.e
    rw [HN.out q hE] at hcq
    obtain ⟨_, ef1, ef2, ef3, esg, _⟩ := eE
    rw [hsz] at ef2 ef3
    have l1 : q + 1 < s.size := by omega
    obtain ⟨y, hy⟩ : ∃ y, s[q + 1].toNat = y := ⟨_, rfl⟩
    have hyn := HN.out (q + 1) l1
    rw [hy] at hyn
    rw [hyn] at esg
    obtain ⟨z, hz⟩ : ∃ z, s[fx].toNat = z := ⟨_, rfl⟩
    have hzd := HEF.out.dig fx (Nat.le_refl _) (by rw [hsz]; exact ef2)
    rw [HN.out fx ef2, hz] at hzd
    have w1 : decide (((z : Nat) : Int) < 48) = false := by rw [decide_eq_false_iff_not]; omega
    have w2 : decide ((57 : Int) < ((z : Nat) : Int)) = false := by rw [decide_eq_false_iff_not]; omega
    have or101 : bits .or .u8 101 32 = 101 := rfl
    obtain ⟨sgn, hsgn⟩ : ∃ sgn : Int, sgn = if nth s.data.toList (q + 1) = 45 then -1 else 1 := ⟨_, rfl⟩
    have hDp : rfDp s.data.toList = dp + exAt s.data.toList fx (s.size - fx) * sgn := by
     unfold rfDp
     rw [HQ.out, HDP.out, if_neg (by rw [hsz]; omega), hfx, hsz, hsgn]
    have HDD := Lib.hid hDp
    rw [hyn] at hsgn
    have HL := Lib.hid (fun c w => Tryz.internal_strconv_lower c w)
    clear hDp hyn hfx
    have hz1 : ∀ i (hi : i < s.size), i = fx → s[i].toNat = z := by rintro i hi rfl; exact hz
    rcases esg with ⟨hf, rfl⟩ | ⟨hf, rfl⟩ | ⟨hf, hy1, hy2⟩
    case' inr.inr.inr =>
     obtain rfl : y = z := hy.symm.trans (hz1 _ l1 hf.symm)
     have y1 : (((y : Nat) : Int) == 43) = false := by simp only [beq_eq_false_iff_ne, ne_eq]; omega
     have y2 : (((y : Nat) : Int) == 45) = false := by simp only [beq_eq_false_iff_ne, ne_eq]; omega
     rw [if_neg (by omega)] at hsgn
     clear hy1 hy2
    case' inr.inl =>
     have l2 : q + 2 < s.size := by omega
     have hz2 := hz1 (q + 2) l2 hf.symm
     rw [if_neg (by decide)] at hsgn
    case' inr.inr.inl =>
     have l2 : q + 2 < s.size := by omega
     have hz2 := hz1 (q + 2) l2 hf.symm
     rw [if_pos rfl] at hsgn
    all_goals
     subst hsgn
     have HSZ := Lib.hid hsz
     have HFF := Lib.hid hf
     have HF3 := Lib.hid ef3
     have HF2 := Lib.hid ef2
     clear hzd hz hz1 hf ef1 ef3 ef2
     go_wp2_with fail
     refine (HL.out _ _).mono ?_
     rintro e w' ⟨rfl, rfl⟩
     go_wp2_with fail
     go_loopg [5, 9] (s.size - fx) (fun gk a5 a9 wr => w' = wr ∧ ∃ (i : Nat) (e : Int), i ≤ s.size ∧ s.size - i = gk ∧ 0 ≤ e ∧ e ≤ 999 ∧ a5 = .int .i64 i ∧ a9 = .int .i64 e ∧ Hid (fx ≤ i ∧ exAt s.data.toList fx (i - fx) = e ∧ ((i = fx ∧ e = 0) ∨ (i = fx + 1 ∧ e ≤ 9) ∨ (i = fx + 2 ∧ e ≤ 99) ∨ i = fx + 3)))
     case atStart =>
      have hf := HFF.out
      have hf2 := HF2.out
      exact ⟨rfl, fx, 0, by omega, rfl, by omega, by omega, (by first | (rw [hf]; go_num) | go_num), rfl, Lib.hid ⟨Nat.le_refl _, by rw [Nat.sub_self]; rfl, .inl ⟨rfl, rfl⟩⟩⟩
     case round =>
      obtain ⟨rfl, i, e, hi, hgk, he0, he9, rfl, rfl, hex⟩ := hrel
      by_cases hil : i < s.size
      · have hdc := HEF.out.dig i hex.out.1 (by rw [HSZ.out]; exact hil)
        have hni := HN.out i hil
        rw [hni] at hdc
        obtain ⟨c, hc⟩ : ∃ c, s[i].toNat = c := ⟨_, rfl⟩
        rw [hc] at hdc hni
        obtain ⟨c1', c2'⟩ := hdc
        have v1 : decide ((48 : Int) ≤ ((c : Nat) : Int)) = true := by rw [decide_eq_true_eq]; omega
        have v2 : decide (((c : Nat) : Int) ≤ 57) = true := by rw [decide_eq_true_eq]; omega
        have v3 : (((c : Nat) : Int) == 95) = false := by simp only [beq_eq_false_iff_ne, ne_eq]; omega
        have v4 : decide (e < 10000) = true := by rw [decide_eq_true_eq]; omega
        have HX2 : Hid (fx ≤ i + 1 ∧ exAt s.data.toList fx (i + 1 - fx) = e * 10 + (c : Int) - 48 ∧ ((i + 1 = fx ∧ e * 10 + (c : Int) - 48 = 0) ∨ (i + 1 = fx + 1 ∧ e * 10 + (c : Int) - 48 ≤ 9) ∨ (i + 1 = fx + 2 ∧ e * 10 + (c : Int) - 48 ≤ 99) ∨ i + 1 = fx + 3)) := Lib.hid (by
         obtain ⟨x1, x2, x3⟩ := hex.out
         have hf3 := HF3.out
         refine ⟨by omega, ?_, by omega⟩
         rw [show i + 1 - fx = (i - fx) + 1 by omega, exAt, x2, show fx + (i - fx) = i by omega, hni])
        have hb9 : 0 ≤ e * 10 + (c : Int) - 48 ∧ e * 10 + (c : Int) - 48 ≤ 999 := by
         obtain ⟨x1, x2, x3⟩ := hex.out
         have hf3 := HF3.out
         omega
        clear hex hni
        go_wp2_with fail
        go_roundg (s.size - (i + 1))
        case measure => omega
        case rel => exact ⟨rfl, i + 1, e * 10 + (c : Int) - 48, by omega, rfl, hb9.1, hb9.2, by go_num, by go_num, HX2⟩
      · obtain rfl : i = s.size := by omega
        have HDP2 : Hid (dp + e * _ = rfDp s.data.toList) := Lib.hid (by rw [HDD.out, hex.out.2.1])
        clear hex hgk
        go_wp2_with fail
        try rw [Exit.noGoto_ret]
        go_ret
        have hD2 := HDP2.out
        refine ⟨rfl, ⟨f, ?_, by rw [HND.out]; exact HFD.out⟩, Below.setCell (p := ⟨g, 801, none⟩) HBL.out (Nat.le_refl g) _⟩
        rw [HND.out, ← hD2]
        first
         | (rw [Int.mul_one]; exact HR.out.putDp _)
         | (rw [show e * -1 = -e by omega]; exact HR.out.putDp _)
end Go.Proofs.YtmlclgkhnekmnaaGreatDoor
