/-
  strconv's decimal IN MEMORY: its bytes, how many, its point, its flags; what a store turns. No condition but those that each theorem says.
  strconv's trim AT EVERY DECIMAL that is not nought: noughts at the end go. Condition: the decimal lies in a block; no other block turns.
  strconv's prefixIsLessThan AT EVERY DECIMAL's digits and every text of digits: whether the one is less than the other as a fraction. Conditions: the digits lie in a block; nothing turns.
-/
import Derived.Test.YtkpddjbdmjbefaaGreatDoorDPlain2
import Derived.Test.YtkpddjbdmjbefaaGreatDoorLMem
import Derived.Laws.BitsLemmas
import Derived.BigFrame
import Derived.BigRegion
import Derived.BigQuiet
import Derived.Test.YtkpddjbdmjbefaaGreatDoorLTok
namespace Go.Proofs.YtkpddjbdmjbefaaGreatDoor
open Go.RowKit

/-- A decimal's cells in a block. -/
structure RIn (W : World) (g : Nat) (f : Nat → Nat) (nd dp : Int) (tr : Bool) : Prop where
  thaw : ∀ i, W.frozen? ⟨g, i, none⟩ = false
  byte : ∀ i, i < 800 → W.cell? ⟨g, i, none⟩ = some (.int .u8 (f i : Int))
  small : ∀ i, i < 800 → f i < 256
  hnd : W.cell? ⟨g, 800, none⟩ = some (.int .i64 nd)
  hdp : W.cell? ⟨g, 801, none⟩ = some (.int .i64 dp)
  hneg : W.cell? ⟨g, 802, none⟩ = some (.bool false)
  htr : W.cell? ⟨g, 803, none⟩ = some (.bool tr)
theorem other_cell (W : World) (g i j : Nat) (v : Value) (h : i ≠ j) : (W.setCell ⟨g, i, none⟩ v).cell? ⟨g, j, none⟩ = W.cell? ⟨g, j, none⟩ := World.cell?_setCell_other _ _ _ _ (by intro e; injection e with _ e2; exact h e2)
def upd (f : Nat → Nat) (i v : Nat) : Nat → Nat := fun j => if j = i then v else f j
theorem upd_same (f : Nat → Nat) (i v : Nat) : upd f i v i = v := if_pos rfl
theorem upd_other (f : Nat → Nat) (i v j : Nat) (h : j ≠ i) : upd f i v j = f j := if_neg h
theorem RIn.put {W : World} {g : Nat} {f : Nat → Nat} {nd dp : Int} {tr : Bool} (h : RIn W g f nd dp tr) (i : Nat) (hi : i < 800) (v : Nat) (hv : v < 256) : RIn (W.setCell ⟨g, i, none⟩ (.int .u8 (v : Int))) g (upd f i v) nd dp tr := by
  refine ⟨fun j => ?_, fun j hj => ?_, fun j hj => ?_, ?_, ?_, ?_, ?_⟩
  · rw [World.frozen?_setCell]; exact h.thaw j
  · by_cases e : j = i
    · subst e
      rw [upd_same]
      exact World.cell?_setCell_same _ _ _ (h.byte j hj)
    · rw [other_cell _ _ _ _ _ (fun x => e x.symm), upd_other _ _ _ _ e]
      exact h.byte j hj
  · by_cases e : j = i
    · subst e; rw [upd_same]; exact hv
    · rw [upd_other _ _ _ _ e]; exact h.small j hj
  · rw [other_cell _ _ _ _ _ (by omega)]; exact h.hnd
  · rw [other_cell _ _ _ _ _ (by omega)]; exact h.hdp
  · rw [other_cell _ _ _ _ _ (by omega)]; exact h.hneg
  · rw [other_cell _ _ _ _ _ (by omega)]; exact h.htr
theorem RIn.putNd {W : World} {g : Nat} {f : Nat → Nat} {nd dp : Int} {tr : Bool} (h : RIn W g f nd dp tr) (n : Int) : RIn (W.setCell ⟨g, 800, none⟩ (.int .i64 n)) g f n dp tr := by
  refine ⟨fun j => ?_, fun j hj => ?_, h.small, ?_, ?_, ?_, ?_⟩
  · rw [World.frozen?_setCell]; exact h.thaw j
  · rw [other_cell _ _ _ _ _ (by omega)]; exact h.byte j hj
  · exact World.cell?_setCell_same _ _ _ h.hnd
  · rw [other_cell _ _ _ _ _ (by omega)]; exact h.hdp
  · rw [other_cell _ _ _ _ _ (by omega)]; exact h.hneg
  · rw [other_cell _ _ _ _ _ (by omega)]; exact h.htr
theorem RIn.putDp {W : World} {g : Nat} {f : Nat → Nat} {nd dp : Int} {tr : Bool} (h : RIn W g f nd dp tr) (n : Int) : RIn (W.setCell ⟨g, 801, none⟩ (.int .i64 n)) g f nd n tr := by
  refine ⟨fun j => ?_, fun j hj => ?_, h.small, ?_, ?_, ?_, ?_⟩
  · rw [World.frozen?_setCell]; exact h.thaw j
  · rw [other_cell _ _ _ _ _ (by omega)]; exact h.byte j hj
  · rw [other_cell _ _ _ _ _ (by omega)]; exact h.hnd
  · exact World.cell?_setCell_same _ _ _ h.hdp
  · rw [other_cell _ _ _ _ _ (by omega)]; exact h.hneg
  · rw [other_cell _ _ _ _ _ (by omega)]; exact h.htr
theorem RIn.putTr {W : World} {g : Nat} {f : Nat → Nat} {nd dp : Int} {tr : Bool} (h : RIn W g f nd dp tr) (b : Bool) : RIn (W.setCell ⟨g, 803, none⟩ (.bool b)) g f nd dp b := by
  refine ⟨fun j => ?_, fun j hj => ?_, h.small, ?_, ?_, ?_, ?_⟩
  · rw [World.frozen?_setCell]; exact h.thaw j
  · rw [other_cell _ _ _ _ _ (by omega)]; exact h.byte j hj
  · rw [other_cell _ _ _ _ _ (by omega)]; exact h.hnd
  · rw [other_cell _ _ _ _ _ (by omega)]; exact h.hdp
  · rw [other_cell _ _ _ _ _ (by omega)]; exact h.hneg
  · exact World.cell?_setCell_same _ _ _ h.htr
/-- A decimal in memory: its digits are its number's. -/
def DIn (W : World) (g : Nat) (x : Dc) : Prop := ∃ f, RIn W g f (x.nd : Int) x.dp x.tr ∧ ∀ i, i < x.nd → f i = 48 + dig x.D x.nd i
theorem RIn.below {W W' : World} {g : Nat} {f : Nat → Nat} {nd dp : Int} {tr : Bool} (h : RIn W g f nd dp tr) (hb : Below W.heap.size W W') (hg : W'.heap[g]? = W.heap[g]?) : RIn W' g f nd dp tr := by
  refine ⟨fun i => ?_, fun i hi => cell_keep2 hb (h.byte i hi), h.small, cell_keep2 hb h.hnd, cell_keep2 hb h.hdp, cell_keep2 hb h.hneg, cell_keep2 hb h.htr⟩
  have := h.thaw i
  simp only [World.frozen?] at this ⊢
  rw [hg]; exact this
theorem RIn.drewN {W : World} {g : Nat} {f : Nat → Nat} {nd dp : Int} {tr : Bool} (h : RIn W g f nd dp tr) (n : Nat) : RIn (W.drewN n) g f nd dp tr := by
  refine ⟨fun j => ?_, fun j hj => ?_, h.small, ?_, ?_, ?_, ?_⟩
  · rw [World.frozen?_drewN]; exact h.thaw j
  · rw [World.cell?_drewN]; exact h.byte j hj
  · rw [World.cell?_drewN]; exact h.hnd
  · rw [World.cell?_drewN]; exact h.hdp
  · rw [World.cell?_drewN]; exact h.hneg
  · rw [World.cell?_drewN]; exact h.htr
theorem dBelow {w w' : World} {B : Nat} (h : Below B w w') (n : Nat) : Below B w (w'.drewN n) := h.trans ⟨rfl, rfl, rfl, Nat.le_refl _, fun _ _ => rfl⟩
theorem mask_mod (n k : Nat) (hk : k ≤ 60) (h : n < 18446744073709551616) : bits .and .u64 (n : Int) ((2 : Int) ^ k - 1) = ((n % 2 ^ k : Nat) : Int) := by
  rw [bits_mask .u64 64 (by decide) (fun n h0 h1 => by rw [IntKind.wrap_u64]; omega) k (by omega) n (by omega) (by omega)]
  simp
theorem RIn.putNeg {W : World} {g : Nat} {f : Nat → Nat} {nd dp : Int} {tr : Bool} (h : RIn W g f nd dp tr) : RIn (W.setCell ⟨g, 802, none⟩ (.bool false)) g f nd dp tr := by
  refine ⟨fun j => ?_, fun j hj => ?_, h.small, ?_, ?_, ?_, ?_⟩
  · rw [World.frozen?_setCell]; exact h.thaw j
  · rw [other_cell _ _ _ _ _ (by omega)]; exact h.byte j hj
  · rw [other_cell _ _ _ _ _ (by omega)]; exact h.hnd
  · rw [other_cell _ _ _ _ _ (by omega)]; exact h.hdp
  · exact World.cell?_setCell_same _ _ _ h.hneg
  · rw [other_cell _ _ _ _ _ (by omega)]; exact h.htr
end Go.Proofs.YtkpddjbdmjbefaaGreatDoor
namespace Go.Proofs.YtkpddjbdmjbefaaGreatDoor
open Go.RowKit

def ndOf (W : World) (g : Nat) : Nat := match W.cell? ⟨g, 800, none⟩ with | some (.int _ n) => n.toNat | _ => 0
theorem RIn.ndOf {W : World} {g : Nat} {f : Nat → Nat} {nd dp : Int} {tr : Bool} (h : RIn W g f nd dp tr) : ndOf W g = nd.toNat := by
  unfold Go.Proofs.YtkpddjbdmjbefaaGreatDoor.ndOf
  rw [h.hnd]
set_option maxRecDepth 100000 in
set_option maxHeartbeats 1000000 in
theorem trim_any (g : Nat) (D nd : Nat) (f : Nat → Nat) (dp : Int) (tr : Bool) (hl : Len D nd) (h8 : nd ≤ 800) (w : World) (h : RIn w g f (nd : Int) dp tr) (hf : ∀ i, i < nd → f i = 48 + dig D nd i) :
    Calls Tryz.prog 179 #[.pointer (some ⟨g, 0, none⟩)] w fun e w' => e = .returned (.tuple #[]) ∧ RIn w' g f ((stripN D nd).2 : Int) dp tr ∧ (∀ i, i < (stripN D nd).2 → f i = 48 + dig (stripN D nd).1 (stripN D nd).2 i) ∧ Below g w w' := by
  obtain ⟨R, hR⟩ : ∃ R, stripN D nd = R := ⟨_, rfl⟩
  rw [hR]
  have HR := Lib.hid hR
  have HL := Lib.hid hl
  have HI := Lib.hid h
  have HF := Lib.hid hf
  clear hR hl h hf
  go_enter Tryz.func179, Tryz.ntmps179
  go_wp2_with fail
  go_loopw [] (fun wr => ∃ (D' n : Nat), n ≤ nd ∧ Hid (Len D' n) ∧ Hid (stripN D' n = R) ∧ Hid (RIn wr g f (n : Int) dp tr) ∧ Hid (∀ i, i < n → f i = 48 + dig D' n i) ∧ Hid (Below g w wr)) (fun wr => ndOf wr g)
  case atStart => exact ⟨D, nd, Nat.le_refl _, HL, HR, HI, HF, Lib.hid (Below.refl _ _)⟩
  case round =>
    obtain ⟨D', n, hn, hL, hS, hI, hF, hB⟩ := hrel
    have n1 := hL.out.n1
    have c0 := hI.out.hnd
    have c1 := hI.out.hdp
    have cb := hI.out.byte (n - 1) (by omega)
    have t0 := hI.out.thaw 800
    have hfv := hF.out (n - 1) (by omega)
    obtain ⟨m, rfl⟩ : ∃ m, n = m + 1 := ⟨n - 1, by omega⟩
    rw [Nat.add_sub_cancel] at cb hfv
    rw [dig_last] at hfv
    rw [hfv] at cb
    have ec : ((m + 1 : Nat) : Int) = (m : Int) + 1 := by omega
    rw [ec] at c0
    have m8 : (m : Int) < 800 := by omega
    have m8n : m < 800 := by omega
    have ew : IntKind.i64.wrap (m : Int) = (m : Int) := IntWalk.i64_in _ (by omega)
    have ec1 : (m : Int) + 1 - 1 = (m : Int) := by omega
    have egt : decide (0 < (m : Int) + 1) = true := by rw [decide_eq_true_eq]; omega
    by_cases hz : D' % 10 = 0
    · rw [hz] at cb
      have hst := hS.out
      rw [stripN, if_pos hz] at hst
      have HT := Lib.hid (hL.out.tail hz)
      have HST := Lib.hid hst
      clear hst hz
      go_wp2_with fail
      go_quiet (fail)
      go_wp2_with fail
      go_roundw
      case rel =>
        refine ⟨D' / 10, m, by omega, HT, HST, Lib.hid ((hI.out.drewN nq).putNd _), Lib.hid (fun i hi => ?_), Lib.hid ?_⟩
        · rw [hF.out i (by omega), dig_div _ _ _ hi]
        · exact Below.setCell (p := ⟨g, 800, none⟩) (dBelow hB.out _) (Nat.le_refl g) _
      case measure =>
        rw [((hI.out.drewN nq).putNd _).ndOf, hI.out.ndOf]
        omega
    · have hst := hS.out
      rw [stripN, if_neg hz] at hst
      have e48 : ((48 + D' % 10 : Nat) : Int) = 48 + ((D' % 10 : Nat) : Int) := by omega
      have ene : (48 + ((D' % 10 : Nat) : Int) == 48) = false := by simp only [beq_eq_false_iff_ne, ne_eq]; omega
      have e0 : ((m : Int) + 1 == 0) = false := by simp only [beq_eq_false_iff_ne, ne_eq]; omega
      rw [e48] at cb
      generalize ((D' % 10 : Nat) : Int) = d at *
      have HST := Lib.hid hst
      clear hst hz e48 hfv
      go_wp2_with fail
      go_quiet (fail)
      go_wp2_with fail
      go_end0
      have e := HST.out
      subst e
      exact ⟨rfl, hI.out.drewN nq, hF.out, dBelow hB.out nq⟩
end Go.Proofs.YtkpddjbdmjbefaaGreatDoor
namespace Go.Proofs.YtkpddjbdmjbefaaGreatDoor
open Go.RowKit

theorem i64_small (n : Nat) (h : n ≤ 1000000) : IntKind.i64.wrap (n : Int) = (n : Int) := IntWalk.i64_in _ (by omega)
set_option maxRecDepth 100000 in
set_option maxHeartbeats 1000000 in
theorem prefix_less (g D nd cap : Nat) (hn : nd ≤ 800) (hl : D < 10 ^ nd) (C m : Nat) (hc : C < 10 ^ m) (hc0 : C % 10 ≠ 0) (s : ByteArray) (hs : s.size = m) (hm : m ≤ 1000)
    (hd : ∀ i (h : i < s.size), s[i].toNat = 48 + dig C m i) (w : World) (hb : ∀ i, i < nd → w.cell? ⟨g, i, none⟩ = some (.int .u8 ((48 + dig D nd i : Nat) : Int))) :
    Calls Tryz.prog 178 #[.slice (some ⟨g, 0, none⟩) nd cap, .string s] w fun e w' => e = .returned (.bool (decide (D * 10 ^ m < C * 10 ^ nd))) ∧ ∃ n, w' = w.drewN n := by
  have HB := Lib.hid hb
  have HD := Lib.hid hd
  have H0 := Lib.hid (same_zero hl hc)
  have HC := Lib.hid hc0
  obtain ⟨R, hR⟩ : ∃ R, decide (D * 10 ^ m < C * 10 ^ nd) = R := ⟨_, rfl⟩
  rw [hR]
  have HR := Lib.hid hR
  clear hb hd hl hc hc0 hR
  go_enter Tryz.func178, Tryz.ntmps178
  go_wp2_with fail
  go_loopw [4, 5] (fun v u wr => v = .bool false ∧ ∃ i : Nat, u = .int .i64 (i : Int) ∧ i ≤ m ∧ Hid (SameTo D nd C m i) ∧ Hid (∃ n, wr = w.drewN n)) (fun _ u _ => m - (intOf u).toNat)
  case atStart => exact ⟨rfl, 0, rfl, by omega, H0, Lib.hid ⟨0, rfl⟩⟩
  case round =>
    obtain ⟨rfl, i, rfl, hi, hS, hW⟩ := hrel
    obtain ⟨n, rfl⟩ := hW.out
    have i1 := hS.out.1
    by_cases h1 : i < m
    · have h1s : i < s.size := by omega
      by_cases h2 : i < nd
      · have c := HB.out i h2
        have hsd := HD.out i h1s
        have l8 := dig_lt D nd i
        have l9 := dig_lt C m i
        have q1 : decide ((nd : Int) ≤ (i : Int)) = false := by rw [decide_eq_false_iff_not]; omega
        by_cases he : dig D nd i = dig C m i
        · have HN := Lib.hid (same_next hS.out h2 h1 he)
          rw [he] at c
          have q2 : ((((48 + dig C m i : Nat) : Int)) != ((48 + dig C m i : Nat) : Int)) = false := by simp
          generalize 48 + dig C m i = d at *
          clear he l8 l9
          go_wp2_with fail
          go_quiet (fail)
          go_wp2_with fail
          exact ⟨⟨rfl, i + 1, by go_num, by omega, HN, Lib.hid ⟨_, rfl⟩⟩, by simp [intOf]; omega⟩
        · have q2 : ((((48 + dig D nd i : Nat) : Int)) != ((48 + dig C m i : Nat) : Int)) = true := by simp only [bne_iff_ne, ne_eq]; omega
          have p1 := pre_digit D nd i h2
          have p2 := pre_digit C m i h1
          rw [hS.out.2.2] at p1
          have HRR : Hid (decide (48 + dig D nd i < 48 + dig C m i) = R) := Lib.hid (by
            rw [← HR.out]
            by_cases hlt : dig D nd i < dig C m i
            · rw [decide_eq_true (by omega), decide_eq_true (front_lt (i := i + 1) (by omega) (by omega) (by rw [p1, p2]; omega))]
            · rw [decide_eq_false (by omega), decide_eq_false (front_ge (i := i + 1) (by omega) (by omega) (by rw [p1, p2]; omega))])
          generalize 48 + dig D nd i = d at *
          generalize 48 + dig C m i = e at *
          clear he l8 l9 p1 p2
          go_wp2_with fail
          go_quiet (fail)
          go_wp2_with fail
          go_quiet (fail)
          go_wp2_with fail
          try rw [Exit.noGoto_ret]
          go_ret
          exact ⟨ret_bool HRR.out, _, by rw [World.drewN_drewN, World.drewN_drewN]⟩
      · have q1n : nd ≤ i := by omega
        have q1 : decide ((nd : Int) ≤ (i : Int)) = true := by rw [decide_eq_true_eq]; omega
        have HRR : Hid (true = R) := Lib.hid (by
          have hS2 := hS.out
          obtain rfl : i = nd := by omega
          rw [← HR.out, decide_eq_true (same_short hS2 h1 HC.out)])
        go_wp2_with fail
        try rw [Exit.noGoto_ret]
        go_ret
        exact ⟨ret_bool HRR.out, _, rfl⟩
    · have HRR : Hid (false = R) := Lib.hid (by
        have hS2 := hS.out
        obtain rfl : i = m := by omega
        rw [← HR.out, decide_eq_false (same_long hS2)])
      have q1n : ¬ i < s.size := by omega
      go_wp2_with fail
      go_ret
      exact ⟨ret_bool HRR.out, _, rfl⟩
end Go.Proofs.YtkpddjbdmjbefaaGreatDoor
