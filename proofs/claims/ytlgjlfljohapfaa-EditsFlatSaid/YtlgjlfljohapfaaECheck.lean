/-
  edits' Check AT EVERY LIST of splices: whether they fit; no memory that was there turns. Condition: the list's length.
-/
import Derived.Test.YtlgjlfljohapfaaEKit
namespace Go.Proofs.Ytlgjlfljohapfaa
open Go.RowKit

def chkE (b : Bool) : Int := if b = true then 0 else 2
set_option maxRecDepth 100000 in
set_option maxHeartbeats 1000000 in
theorem check_any (n : Int) (A : Option Addr) (L : List Spl) (c : Nat) (hL : L.length ≤ 1000000) (w : World) (hS : SR w A L) :
    Calls Try.prog 21 #[.int .i64 n, .slice A L.length c] w fun e w' => e = .returned (.int .i64 (chkE (fits n L))) ∧ Below w.heap.size w w' := by
  have HS := Lib.hid hS
  clear hS
  by_cases hn : n < 0
  · have hr : fits n L = false := by unfold fits; rw [decide_eq_false (by omega)]; rfl
    rw [hr]
    clear hr
    go_enter Try.func21, Try.ntmps21
    go_wp2_with fail
    go_ret
    exact ⟨rfl, Below.refl _ _⟩
  · have hr0 : fits n L = fitsF n 0 L := by unfold fits; rw [decide_eq_true (by omega)]; rfl
    obtain ⟨r, hr⟩ : ∃ r, fits n L = r := ⟨_, rfl⟩
    rw [hr]
    have HR : Hid (r = fitsF n 0 (L.drop 0)) := Lib.hid (by rw [← hr, hr0]; rfl)
    clear hr hr0
    go_enter Try.func21, Try.ntmps21
    go_wp2_with fail
    go_loopw [5, 12] (fun a k wr => ∃ (i : Nat) (fr : Int), a = .int .i64 fr ∧ k = .int .i64 (i : Int) ∧ i ≤ L.length ∧ Hid (r = fitsF n fr (L.drop i)) ∧ Hid (Below w.heap.size w wr)) (fun _ k _ => L.length - (intOf k).toNat)
    case atStart => exact ⟨0, 0, rfl, rfl, Nat.zero_le _, HR, Lib.hid (Below.refl _ _)⟩
    case round =>
      obtain ⟨i, fr, rfl, rfl, hi, hf, hb⟩ := hrel
      clear HR
      by_cases hlt : i < L.length
      · obtain ⟨x, hx⟩ : ∃ x, L[i]? = some x := ⟨_, List.getElem?_eq_getElem hlt⟩
        obtain ⟨b, o, rfl, d0, d1, d2⟩ := HS.out.at hx
        have hbw := cell_lt d0
        have c0 := cell_keep2 hb.out d0 hbw
        have c1 := cell_keep2 hb.out d1 hbw
        have c2 := cell_keep2 hb.out d2 hbw
        have q : decide ((i : Int) < (L.length : Int)) = true := by simpa using hlt
        have HB2 := Lib.hid (hb.out.trans ((alloc_below wr (.cells #[.int .i64 x.f, .int .i64 x.t, .string x.s] 62)).mono hb.out.size))
        have hd := drop_at hx
        rw [hd] at hf
        clear hx hd d0 d1 d2 hbw
        by_cases hok : fr ≤ x.f ∧ x.f ≤ x.t ∧ x.t ≤ n
        · obtain ⟨h1, h2, h3⟩ := hok
          have hy := fitsF_yes (l := L.drop (i + 1)) h1 h2 h3
          have HF : Hid (r = fitsF n x.t (L.drop (i + 1))) := Lib.hid (by rw [hf.out, hy])
          clear hf hy
          have e1 : ¬ x.f < fr := by omega
          have e2 : ¬ x.t < x.f := by omega
          have e3 : ¬ n < x.t := by omega
          go_wp2_with fail
          go_roundw
          case rel => exact ⟨i + 1, x.t, rfl, by go_num, by omega, HF, HB2⟩
          case measure => simp [intOf]; omega
        · have hno := fitsF_no (l := L.drop (i + 1)) hok
          have hr : r = false := by rw [hf.out, hno]
          subst hr
          clear hno hf
          go_wp2_with fail
          all_goals first
            | (exfalso; omega)
            | (go_ret; exact ⟨rfl, HB2.out⟩)
      · have hr : r = true := by rw [hf.out, List.drop_eq_nil_of_le (by omega)]; rfl
        subst hr
        clear hf
        have q : decide ((i : Int) < (L.length : Int)) = false := by simp; omega
        go_wp2_with fail
        go_ret
        exact ⟨rfl, hb.out⟩
end Go.Proofs.Ytlgjlfljohapfaa
