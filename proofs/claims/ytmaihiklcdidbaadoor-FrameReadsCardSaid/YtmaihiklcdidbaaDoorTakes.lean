/-
  THE LAW FrameTakes: what has come out, put again, is no longer than what went in, but for heads; what is held is the end of what came in. Conditions: what the variables that are read hold (Facts).
-/
import Derived.Test.YtmaihiklcdidbaaDoorAll
namespace Go.Proofs.YtmaihiklcdidbaaDoor
open Go.RowKit

/-- The bodies that all hands back of a reader that was made since. -/
theorem all_mine (w W : World) (hF : Facts w) (R : Nat) (r : RS) (h : Mine w W R r) :
    Calls Tryd.prog 19 #[.pointer (some ⟨R, 0, none⟩)] W fun e w' => ∃ v, e = .returned (.tuple #[v, .int .i64 ((allR 200 r).e : Int)]) ∧ SRow w' W.heap.size v (allR 200 r).bodies ∧ Mine w w' R (allR 200 r).r := by
  obtain ⟨h1, h2, g, h3, h4⟩ := h
  refine (all_any w W hF h1 R g r h4 h2 h3).mono ?_
  rintro e w' ⟨v, rfl, hs, g', a, b, c, d⟩
  exact ⟨v, rfl, hs, Mine.step h1 h2 h3 ⟨g', a, c, d⟩⟩
theorem sizes_take (ls : List (List UInt8)) (i : Nat) (l : List UInt8) (h : ls[i]? = some l) : sizes (ls.take (i + 1)) = sizes (ls.take i) + (l.length + 19) := by
  have hi := (List.getElem?_eq_some_iff.1 h).1
  have hl := (List.getElem?_eq_some_iff.1 h).2
  rw [List.take_succ_eq_append_getElem hi, hl]
  simp [sizes]
theorem sizes_app (a b : List (List UInt8)) : sizes (a ++ b) = sizes a + sizes b := by simp [sizes]
theorem sizes_le (ls : List (List UInt8)) (i : Nat) : sizes (ls.take i) ≤ sizes ls := by
  have h := sizes_app (ls.take i) (ls.drop i)
  rw [List.take_append_drop] at h
  omega
set_option maxRecDepth 100000 in
set_option maxHeartbeats 2000000 in
theorem takes_any (s : ByteArray) (w : World) (hs : s.size ≤ maxLen) (hF : Facts w) : Calls Tryd.prog 7 #[.string s] w fun e w' => e = .returned (.bool true) ∧ Below w.heap.size w w' := by
  have HC := Lib.hid (cut_any s (by unfold maxLen at hs; omega) w)
  have hl : (s.data.toList.take 3000).length ≤ 3000 := by rw [List.length_take]; omega
  obtain ⟨T, hT⟩ : ∃ T, T = txt (s.data.toList.take 3000) := ⟨_, rfl⟩
  have hTl : T.data.toList = s.data.toList.take 3000 := by rw [hT]; rfl
  have hTs : T.size ≤ 3000 := by rw [Lib.size_eq, hTl]; exact hl
  rw [← hT] at HC
  obtain ⟨ht1, ht2⟩ := allR_takes 200 ([] ++ T.data.toList)
  have hTl2 : ([] ++ T.data.toList).length = T.size := rfl
  rw [hTl2] at ht1
  have HF := Lib.hid hF
  have HN := Lib.hid (new_mine w w (Below.refl _ _))
  have HP := Lib.hid (fun W h => push_mine w W w.heap.size [] T (by simp; omega) h)
  have HA := Lib.hid (fun W h => all_mine w W hF w.heap.size (.live ([] ++ T.data.toList)) h)
  have HAW := Lib.hid (fun W (h : Below w.heap.size w W) => awake_any W (hF.below h))
  obtain ⟨a, ha⟩ : ∃ a, a = allR 200 (.live ([] ++ T.data.toList)) := ⟨_, rfl⟩
  rw [← ha] at ht1 ht2 HA
  clear hT hTl hl hF ha hTl2
  go_enter Tryd.func7, Tryd.ntmps7
  go_wp2_with fail
  refine HC.out.mono ?_
  rintro e w1 ⟨rfl, rfl⟩
  go_wp2_with fail
  refine HN.out.mono ?_
  rintro e w1 ⟨rfl, hm1⟩
  have HM1 := Lib.hid hm1
  clear hm1
  go_wp2_with fail
  refine (HP.out _ HM1.out).mono ?_
  rintro e w2 ⟨rfl, hm2⟩
  have HM2 := Lib.hid hm2
  clear hm2
  go_wp2_with fail
  refine (HA.out _ HM2.out).mono ?_
  rintro e w3 ⟨v, rfl, hrow, hm3⟩
  obtain ⟨p, cap, hv⟩ := hrow.shape
  subst hv
  have HM3 := Lib.hid hm3
  have HROW := Lib.hid hrow
  clear hm3 hrow HA HP HN HC
  obtain ⟨bs, er, r⟩ := a
  simp only at ht1 ht2 HM3 HROW ⊢
  have hbl : bs.length ≤ 3000 := by
    have : ∀ l : List (List UInt8), l.length ≤ sizes l := fun l => by
      induction l with
      | nil => simp
      | cons b l ih => rw [sizes_cons, List.length_cons]; omega
    have := this bs
    omega
  go_wp2_with fail
  go_loopw [6, 7] (fun m n wr => ∃ i : Nat, m = .int .i64 (sizes (bs.take i) : Int) ∧ n = .int .i64 (i : Int) ∧ i ≤ bs.length ∧ wr = w3) (fun _ n _ => bs.length - (intOf n).toNat)
  case atStart => exact ⟨0, rfl, rfl, Nat.zero_le _, rfl⟩
  case round =>
    obtain ⟨i, rfl, rfl, hi, rfl⟩ := hrel
    have hsl := sizes_le bs i
    by_cases hib : i < bs.length
    · have hib2 : (i : Int) < (bs.length : Int) := by omega
      have hbi : bs[i]? = some bs[i] := List.getElem?_eq_getElem hib
      obtain ⟨g, rfl, hc⟩ := HROW.out.cell hbi
      have hst := sizes_take bs i _ hbi
      have hsl2 := sizes_le bs (i + 1)
      have hz : (txt bs[i]).size = bs[i].length := by show (List.toArray _).size = _; simp
      generalize hb : bs[i] = b at *
      go_wp2_with fail
      refine ⟨⟨i + 1, by rw [hst]; congr 1, by go_num, by omega, trivial⟩, ?_⟩
      simp [intOf]
      omega
    · obtain rfl : i = bs.length := by omega
      rw [List.take_of_length_le (Nat.le_refl _)]
      clear hsl
      generalize hsz : sizes bs = n at *
      have HH := Lib.hid (held_mine w wr w.heap.size r HM3.out)
      have HBR := Lib.hid (broken_mine w wr w.heap.size r HM3.out)
      have hcmp : (n : Int) + (r.held : Int) ≤ (T.size : Int) := by omega
      cases r with
      | live l =>
        have he0 : er = 0 := by
          rcases Nat.eq_zero_or_pos er with h | h
          · exact h
          · have := ht2.2 (by omega); cases this
        subst he0
        have hll : l.length ≤ T.size := by have : RS.held (.live l) = l.length := rfl; omega
        have HPX := Lib.hid (push_mine w wr w.heap.size l ⟨#[120]⟩ (by show l.length + 1 ≤ _; omega) HM3.out)
        rw [show RS.isDead (.live l) = false from rfl] at HBR
        generalize RS.held (.live l) = hd at *
        go_wp2_with fail
        refine HH.out.mono ?_
        rintro e w4 ⟨rfl, rfl⟩
        go_wp2_with fail
        refine HBR.out.mono ?_
        rintro e w4 ⟨rfl, rfl⟩
        go_wp2_with fail
        refine HPX.out.mono ?_
        rintro e w5 ⟨rfl, hm5⟩
        have HM5 := Lib.hid hm5
        clear hm5 HPX
        go_wp2_with fail
        refine (HAW.out _ HM5.out.1).mono ?_
        rintro e w6 ⟨rfl, hb6⟩
        have HB6 := Lib.hid (HM5.out.1.trans (hb6.mono HM5.out.1.size))
        clear hb6
        go_wp2_with fail
        go_ret
        exact ⟨rfl, HB6.out⟩
      | dead k =>
        have he0 : er ≠ 0 := ht2.1 rfl
        have he2 : ((er : Int) = 0) = False := by simp; exact he0
        have he3 : ((er : Int) != 0) = true := by simp; exact he0
        have he4 : ((er : Int) == 0) = false := by simp; exact he0
        have HPX := Lib.hid (push_deadM w wr w.heap.size k ⟨#[120]⟩ HM3.out)
        rw [show RS.isDead (.dead k) = true from rfl] at HBR
        generalize RS.held (.dead k) = hd at *
        go_wp2_with fail
        refine HH.out.mono ?_
        rintro e w4 ⟨rfl, rfl⟩
        go_wp2_with fail
        refine HBR.out.mono ?_
        rintro e w4 ⟨rfl, rfl⟩
        go_wp2_with fail
        refine HPX.out.mono ?_
        rintro e w5 ⟨rfl, hm5⟩
        have HM5 := Lib.hid hm5
        clear hm5 HPX
        go_wp2_with fail
        refine (HAW.out _ HM5.out.1).mono ?_
        rintro e w6 ⟨rfl, hb6⟩
        have HB6 := Lib.hid (HM5.out.1.trans (hb6.mono HM5.out.1.size))
        clear hb6
        go_wp2_with fail
        go_ret
        exact ⟨rfl, HB6.out⟩
end Go.Proofs.YtmaihiklcdidbaaDoor
