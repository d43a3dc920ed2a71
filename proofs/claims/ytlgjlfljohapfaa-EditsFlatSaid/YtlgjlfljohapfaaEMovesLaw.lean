/-
  THE WALK OF emendlaw07.EditsMoves: at every list of splices and every place it returns true; no memory that was there turns. Condition: what can be read at all.
-/
import Derived.Test.YtlgjlfljohapfaaEAwake
namespace Go.Proofs.Ytlgjlfljohapfaa
open Go.RowKit

/-- What a list of splices that is read has. -/
def inL (L : List Spl) : Prop := ∀ x ∈ L, (-9223372036854775808 ≤ x.f ∧ x.f ≤ 9223372036854775807 ∧ -9223372036854775808 ≤ x.t ∧ x.t ≤ 9223372036854775807) ∧ x.s.size ≤ maxLen
theorem few_ok {L : List Spl} (h : inL L) : ∀ x ∈ fewL L, okS x := by
  intro x hx
  obtain ⟨y, hy, rfl⟩ := List.mem_map.1 hx
  have := (h y (List.mem_of_mem_take hy)).1
  exact ⟨this.1, this.2.1, this.2.2.1, this.2.2.2, cutS_le _ _⟩
set_option maxRecDepth 100000 in
set_option maxHeartbeats 1000000 in
theorem editsMoves_walk (A : Option Addr) (L : List Spl) (c : Nat) (p : Int) (w : World) (hS : SR w A L) (hL : inL L) :
    Calls Try.prog 4 #[.slice A L.length c, .int .i64 p] w fun e w' => e = .returned (.bool true) ∧ Below w.heap.size w w' := by
  have HF := Lib.hid (few_any A L c (fun x hx => (hL x hx).2) w hS)
  have hlen := fewL_len L
  have hok := few_ok hL
  unfold FewEnd at HF
  generalize fewL L = F at *
  have HM := Lib.hid (fun A c W h => moved_any p A F c (by omega) hok W h)
  have HN := Lib.hid (fun A c W h => refMoved_any p A F c (by omega) hok W h)
  have HW := Lib.hid awake_any
  unfold movE at HM HN
  generalize movV F p = mv at *
  generalize movOk F p = mo at *
  clear hok hlen hL hS
  cases mo
  all_goals
    go_enter Try.func4, Try.ntmps4
    go_wp2_with fail
    refine HF.out.mono ?_
    rintro e w1 ⟨v1, rfl, ho1, hb1⟩
    obtain ⟨A1, c1, rfl, hr1⟩ := ho1.reads
    have HR1 := Lib.hid hr1
    have HB1 := Lib.hid hb1
    clear ho1 hr1 hb1 HF
    go_wp2_with fail
    refine (HM.out _ _ _ HR1.out).mono ?_
    rintro e w2 ⟨rfl, hb2⟩
    have HR2 := Lib.hid (HR1.out.keep hb2)
    have HB2 := Lib.hid (HB1.out.trans (hb2.mono HB1.out.size))
    clear hb2 HB1 HR1
    go_wp2_with fail
    refine (HN.out _ _ _ HR2.out).mono ?_
    rintro e w3 ⟨rfl, hb3⟩
    have HB3 := Lib.hid (HB2.out.trans (hb3.mono HB2.out.size))
    clear hb3 HB2 HR2
    go_wp2_with fail
    refine (HW.out _).mono ?_
    rintro e w4 ⟨rfl, hb4⟩
    have HB4 := Lib.hid (HB3.out.trans (hb4.mono HB3.out.size))
    clear hb4 HB3
    go_wp2_with fail
    go_ret
    exact ⟨rfl, HB4.out⟩
end Go.Proofs.Ytlgjlfljohapfaa
