/- Part of a proof. -/
import Derived.Test.YtmlclgkhnekmnaaGreatDoorDSet
import Derived.Test.YtmlclgkhnekmnaaGreatDoorDPlain2
import Derived.Deep.CutBlock
import Derived.Deep.DeepCutAuto
import Derived.Deep.LoopGhost
import Derived.Test.YtmlclgkhnekmnaaGreatDoorDPlain3
namespace Go.Proofs.YtmlclgkhnekmnaaGreatDoor
open Go.RowKit
theorem qr_cut {k D nd r e : Nat} {tr : Bool} (h : 1 ≤ r) (hz : Qr k D nd r % 10 = 0) : cutT tr (Qr k D nd r) (e + 1) = cutT tr (Qr k D nd (r - 1)) e := by
 unfold cutT
 have := qr_more (k := k) (D := D) (nd := nd) (e := e) h
 by_cases g : Qr k D nd (r - 1) % 10 ^ e ≠ 0
 · rw [decide_eq_true g, decide_eq_true (this.2 (.inl g))]
 · rw [decide_eq_false g, decide_eq_false (fun x => (this.1 x).elim g (fun y => y hz))]
theorem qr_cut_true {k D nd r e : Nat} {tr : Bool} (h : 1 ≤ r) (hz : Qr k D nd r % 10 ≠ 0) : cutT tr (Qr k D nd r) (e + 1) = true := by
 unfold cutT
 rw [decide_eq_true ((qr_more h).2 (.inr hz)), Bool.or_true]
set_option maxRecDepth 100000 in
set_option maxHeartbeats 4000000 in
theorem right_any (g k : Nat) (k1 : 1 ≤ k) (k2 : k ≤ 60) (x : Dc) (hx : x.Ok) (hdp : -100000000 ≤ x.dp ∧ x.dp ≤ 100000000) (w : World) (h : DIn w g x) :
 Calls Tryz.prog 246 #[.pointer (some ⟨g, 0, none⟩), .int .u64 (k : Int)] w fun e w' => e = .returned (.tuple #[]) ∧ DIn w' g (shr k x) ∧ Below g w w' := by
 obtain ⟨D, nd, dp, tr⟩ := x
 obtain ⟨f, hR, hf⟩ := h
 have hl := hx.len
 have h8 := hx.n8
 simp only at hl h8 hR hf hdp
 have hA := rA_facts k1 k2 hl
 have hE := er_first k1 k2 hl
 have HSH : Hid (shr k ⟨D, nd, dp, tr⟩ = ⟨(stripN (Qr k D nd (rB k D nd - 1) / 10 ^ (rB k D nd - rA k D nd - 800)) (min (rB k D nd - rA k D nd) 800)).1, (stripN (Qr k D nd (rB k D nd - 1) / 10 ^ (rB k D nd - rA k D nd - 800)) (min (rB k D nd - rA k D nd) 800)).2, dp - ((rA k D nd : Int) - 1), cutT tr (Qr k D nd (rB k D nd - 1)) (rB k D nd - rA k D nd - 800)⟩) := Lib.hid rfl
 have HQL := Lib.hid (qr_len k1 k2 hl)
 have HBI := Lib.hid (fun R => rB_is (k := k) (D := D) (nd := nd) (R := R))
 obtain ⟨A, hAA⟩ : ∃ A, rA k D nd = A := ⟨_, rfl⟩
 rw [hAA] at hA hE HSH HQL HBI
 obtain ⟨a1, a2, a3, a4⟩ := hA
 have hless : ∀ i, i < A → Pr D nd i < 2 ^ k := fun i hi => Nat.lt_of_le_of_lt (pr_mono (by omega)) a4
 have HLess := Lib.hid hless
 have HGe := Lib.hid a3
 have HL := Lib.hid hl
 have HI := Lib.hid hR
 have HF := Lib.hid hf
 have HE := Lib.hid hE
 have hk2 := pow2le k2
 have HK2 := Lib.hid hk2
 have c0 := hR.hnd
 have hMi : Hid ((2 : Int) ^ k = ((2 ^ k : Nat) : Int)) := Lib.hid (by simp)
 have hn8 : (nd : Int) ≤ 800 := by omega
 clear hR hf hl hx hE a3 a4 hless hAA hk2
 go_enter Tryz.func246, Tryz.ntmps246
 go_upto_block 0 with fail
 go_cut [4, 6] (fun r u wx => w = wx ∧ r = .int .i64 (A : Int) ∧ u = .int .u64 (Pr D nd A : Nat))
 case first =>
  as_aux_lemma =>
   go_wp2_with fail
   go_loopg [4, 6] A (fun gk r u wr => w = wr ∧ ∃ i : Nat, i ≤ A ∧ gk = A - i ∧ r = .int .i64 (i : Int) ∧ u = .int .u64 (Pr D nd i : Nat))
   case atStart => exact ⟨rfl, 0, by omega, by omega, rfl, by rw [pr_zero HL.out.hi]; rfl⟩
   case round =>
    obtain ⟨rfl, i, hi, rfl, rfl, rfl⟩ := hrel
    have hP : Pr D nd i < 2 ^ k ∨ i = A := by
     by_cases e : i = A
     · exact .inr e
     · exact .inl (HLess.out i (by omega))
    rcases hP with hP | hP
    · have hiA : i < A := by
       rcases Nat.lt_or_ge i A with g | g
       · exact g
       · have := HGe.out
         have e : i = A := by omega
         rw [e] at hP; omega
      by_cases hnd : i < nd
      · have hs := pr_step (D := D) hnd
        have cb := HI.out.byte i (by omega)
        rw [HF.out i hnd] at cb
        have ld := dig_lt D nd i
        obtain ⟨c, hc⟩ : ∃ c, 48 + dig D nd i = c := ⟨_, rfl⟩
        rw [hc] at cb
        have k2i := HK2.out
        have hm := hMi.out
        obtain ⟨P, hPP⟩ : ∃ P, Pr D nd i = P := ⟨_, rfl⟩
        obtain ⟨P', hPP'⟩ : ∃ P, Pr D nd (i + 1) = P := ⟨_, rfl⟩
        rw [hPP] at hP hs ⊢
        rw [hPP'] at hs
        have q0 : ((P : Int) / 2 ^ k == 0) = true := by
         rw [hm, beq_iff_eq]
         exact Int.ediv_eq_zero_of_lt (by omega) (by omega)
        have E0 : IntKind.u64.wrap (c : Int) = (c : Int) := by rw [IntKind.wrap_u64]; omega
        have E1 : IntKind.u64.wrap (IntKind.u64.wrap (IntKind.u64.wrap ((P : Int) * 10) + (c : Int)) - 48) = (P' : Int) := by
         rw [IntKind.wrap_u64 (_ * 10), IntKind.wrap_u64 (_ + _), IntKind.wrap_u64]; omega
        have HP' := Lib.hid hPP'
        have hi8 : (i : Int) < 800 := by omega
        have hi8n : i < 800 := by omega
        have hndi : (i : Int) < (nd : Int) := by omega
        clear hP hs ld hc k2i hm hPP hPP'
        go_wp2_with fail
        go_roundg (A - (i + 1))
        case measure => omega
        case rel => exact ⟨rfl, i + 1, by omega, rfl, by go_num, by rw [HP'.out]⟩
      · have hs0 := pr_high (D := D) (show nd ≤ i by omega)
        have hp0 : Pr D nd i ≠ 0 := by
         rw [hs0]
         exact Nat.ne_of_gt (Nat.mul_pos HL.out.pos (p10 _))
        have k2i := HK2.out
        have hm := hMi.out
        obtain ⟨P, hPP⟩ : ∃ P, Pr D nd i = P := ⟨_, rfl⟩
        rw [hPP] at hP hp0 ⊢
        have q0 : ((P : Int) / 2 ^ k == 0) = true := by
         rw [hm, beq_iff_eq]
         exact Int.ediv_eq_zero_of_lt (by omega) (by omega)
        have q1 : ((P : Int) == 0) = false := by simp only [beq_eq_false_iff_ne, ne_eq]; omega
        have q2 : decide ((nd : Int) ≤ (i : Int)) = true := by rw [decide_eq_true_eq]; omega
        have q2n : nd ≤ i := by omega
        have HPP := Lib.hid hPP
        have hAi := Lib.hid hiA
        clear hP hs0 hp0 k2i hm hPP hnd hiA hi
        go_wp2_with fail
        go_loopg [4, 6] (A - i) (fun gk r u wr => w = wr ∧ ∃ j : Nat, j ≤ A ∧ nd ≤ j ∧ gk = A - j ∧ r = .int .i64 (j : Int) ∧ u = .int .u64 (Pr D nd j : Nat))
        case atStart => exact ⟨rfl, i, by have := hAi.out; omega, q2n, rfl, rfl, by rw [HPP.out]⟩
        case round =>
         obtain ⟨rfl, j, hj, hnj, rfl, rfl, rfl⟩ := hrel
         clear q0 q1 q2
         by_cases hjA : j = A
         · subst hjA
           have hg := HGe.out
           have hm := hMi.out
           have q0 : (((Pr D nd j : Nat) : Int) / 2 ^ k == 0) = false := by
            rw [hm]
            simp only [beq_eq_false_iff_ne, ne_eq]
            have := Nat.div_pos hg (Nat.pow_pos (n := k) (show 0 < 2 by decide))
            have : 0 < ((Pr D nd j / 2 ^ k : Nat) : Int) := by omega
            rw [Int.natCast_ediv] at this
            omega
           clear hg hm
           go_wp2_with fail
           go_meet
           exact ⟨rfl, rfl, rfl⟩
         · have hlt := HLess.out j (by omega)
           have hs := pr_more (D := D) hnj
           have k2i := HK2.out
           have hm := hMi.out
           obtain ⟨P2, hPP2⟩ : ∃ P, Pr D nd j = P := ⟨_, rfl⟩
           obtain ⟨P', hPP'⟩ : ∃ P, Pr D nd (j + 1) = P := ⟨_, rfl⟩
           rw [hPP2] at hlt hs ⊢
           rw [hPP'] at hs
           have q0 : ((P2 : Int) / 2 ^ k == 0) = true := by
            rw [hm, beq_iff_eq]
            exact Int.ediv_eq_zero_of_lt (by omega) (by omega)
           have E1 : IntKind.u64.wrap ((P2 : Int) * 10) = (P' : Int) := by rw [IntKind.wrap_u64]; omega
           have HP' := Lib.hid hPP'
           have hj20 : j ≤ 20 := by omega
           have hjA2 : Hid (j < A) := Lib.hid (by omega)
           clear hlt hs k2i hm hPP2 hPP' hjA
           go_wp2_with fail
           go_roundg (A - (j + 1))
           case measure => have := hjA2.out; omega
           case rel => exact ⟨rfl, j + 1, by have := hjA2.out; omega, by omega, rfl, by go_num, by rw [HP'.out]⟩
    · subst hP
      have hg := HGe.out
      have hm := hMi.out
      have q0 : (((Pr D nd i : Nat) : Int) / 2 ^ k == 0) = false := by
       rw [hm]
       simp only [beq_eq_false_iff_ne, ne_eq]
       have := Nat.div_pos hg (Nat.pow_pos (n := k) (show 0 < 2 by decide))
       have : 0 < ((Pr D nd i / 2 ^ k : Nat) : Int) := by omega
       rw [Int.natCast_ediv] at this
       omega
      clear hg hm
      go_wp2_with fail
      go_meet
      exact ⟨rfl, rfl, rfl⟩
 case rest =>
  obtain ⟨rfl, rfl, rfl⟩ := hcut
  have c1 := HI.out.hdp
  have ht := HI.out.thaw
  have e1 : IntKind.i64.wrap ((A : Int) - 1) = (A : Int) - 1 := IntWalk.i64_in _ (by omega)
  have e2 : IntKind.i64.wrap (dp - ((A : Int) - 1)) = dp - ((A : Int) - 1) := IntWalk.i64_in _ (by omega)
  rw [← HE.out.1]
  have hN0 : Er k D nd A ≠ 0 := by
   rw [HE.out.1]
   have := HGe.out
   have : 0 < 2 ^ k := Nat.pow_pos (by decide)
   omega
  have hAle : A < nd + k + 1 := by
   rcases Nat.lt_or_ge A (nd + k + 1) with g | g
   · exact g
   · exact absurd (er_end g) hN0
  have HN0 := Lib.hid hN0
  have HAle := Lib.hid hAle
  have k2i := HK2.out
  obtain ⟨msk, hmsk⟩ : ∃ m, 2 ^ k - 1 = m := ⟨_, rfl⟩
  have hpk : 0 < 2 ^ k := Nat.pow_pos (by decide)
  have EM : IntKind.u64.wrap (IntKind.u64.wrap ((2 : Int) ^ k) - 1) = (msk : Int) := by
   rw [hMi.out, IntKind.wrap_u64 (_ ^ _ : Nat), IntKind.wrap_u64]; omega
  have HMM : Hid (∀ n : Nat, n < 10 * 2 ^ k → bits .and .u64 (n : Int) (msk : Int) = ((n % 2 ^ k : Nat) : Int) ∧ (n : Int) / 2 ^ k = ((n / 2 ^ k : Nat) : Int)) := Lib.hid (fun n hn => by
   constructor
   · rw [show (msk : Int) = (2 : Int) ^ k - 1 by rw [hMi.out]; omega]
     exact mask_mod n k k2 (by omega)
   · simp)
  obtain ⟨dp', hdp'⟩ : ∃ d, dp - ((A : Int) - 1) = d := ⟨_, rfl⟩
  rw [hdp'] at e2 HSH
  have hI1 := Lib.hid (HI.out.putDp dp')
  have hB1 : Hid (Below g w (w.setCell ⟨g, 801, none⟩ (.int .i64 dp'))) := Lib.hid (Below.setCell (p := ⟨g, 801, none⟩) (Below.refl _ _) (Nat.le_refl g) _)
  have HDP := Lib.hid hdp'
  clear hN0 hAle k2i hmsk hpk
  rw [← hdp'] at e2
  go_wp2_with fail
  clear EM e1 e2 hdp' c1
  generalize w.setCell ⟨g, 801, none⟩ (.int .i64 dp') = W1 at *
  go_loopg [4, 5, 6] (nd - A) (fun gk r v u wr => ∃ (i p n : Nat) (f' : Nat → Nat), A ≤ i ∧ (i ≤ nd ∨ i = A) ∧ gk = nd - i ∧ p = i - A ∧ r = .int .i64 (i : Int) ∧ v = .int .i64 (p : Int) ∧ u = .int .u64 (n : Int) ∧ Hid (n = Er k D nd i) ∧ Hid (RIn wr g f' nd dp' tr) ∧ Hid (∀ j, j < p → f' j = 48 + Qr k D nd (A + j) % 10) ∧ Hid (∀ j, i ≤ j → j < nd → f' j = 48 + dig D nd j) ∧ Hid (Below g w wr))
  case atStart => exact ⟨A, 0, Er k D nd A, f, Nat.le_refl _, .inr rfl, rfl, by omega, rfl, rfl, rfl, Lib.hid rfl, hI1, Lib.hid (fun j hj => by omega), Lib.hid (fun j _ hj => HF.out j hj), hB1⟩
  case round =>
   obtain ⟨i, p, n, f', hAi, hin, rfl, hp, rfl, rfl, rfl, hn, hI, hQ, hG, hBl⟩ := hrel
   have c0 := hI.out.hnd
   have ht := hI.out.thaw
   by_cases hi : i < nd
   · have hii : (i : Int) < (nd : Int) := by omega
     have cb := hI.out.byte i (by omega)
     rw [hG.out i (Nat.le_refl _) hi] at cb
     have ld := dig_lt D nd i
     have hlt := er_lt (k := k) (D := D) (nd := nd) (r := i) (by omega)
     obtain ⟨g1, g2⟩ := er_dig (k := k) (D := D) (nd := nd) (r := i) (by omega)
     have g3 := er_next (k := k) (D := D) (nd := nd) (r := i) (by omega)
     rw [if_pos hi, ← g2] at g3
     rw [← hn.out] at hlt g1 g3
     obtain ⟨m1, m2⟩ := HMM.out n hlt
     obtain ⟨q, hq⟩ : ∃ q, n / 2 ^ k = q := ⟨_, rfl⟩
     obtain ⟨r, hr⟩ : ∃ r, n % 2 ^ k = r := ⟨_, rfl⟩
     have hr2 : r < 2 ^ k := by rw [← hr]; exact Nat.mod_lt _ (Nat.pow_pos (by decide))
     rw [hq] at m2 g1
     rw [hr] at m1 g3
     obtain ⟨c, hc⟩ : ∃ c, 48 + dig D nd i = c := ⟨_, rfl⟩
     rw [hc] at cb
     obtain ⟨n', hn'⟩ : ∃ n', Er k D nd (i + 1) = n' := ⟨_, rfl⟩
     rw [hn'] at g3
     obtain ⟨v, hv⟩ : ∃ v, 48 + q = v := ⟨_, rfl⟩
     have k2i := HK2.out
     have hq10 : q < 10 := by omega
     have E0 : IntKind.u64.wrap (c : Int) = (c : Int) := by rw [IntKind.wrap_u64]; omega
     have E1 : IntKind.u64.wrap (IntKind.u64.wrap (IntKind.u64.wrap ((r : Int) * 10) + (c : Int)) - 48) = (n' : Int) := by
      rw [IntKind.wrap_u64 (_ * 10), IntKind.wrap_u64 (_ + _), IntKind.wrap_u64]; omega
     have E5 : IntKind.u64.wrap ((q : Int) + 48) % 256 = (v : Int) := by rw [IntKind.wrap_u64]; omega
     have hv2 : v < 256 := by omega
     have hp8 : p < 800 := by omega
     have hp8i : (p : Int) < 800 := by omega
     have hi8 : (i : Int) < 800 := by omega
     have hi8n : i < 800 := by omega
     have hpi : p < i := by omega
     have cp := hI.out.byte p hp8
     have HV : Hid (v = 48 + Qr k D nd i % 10) := Lib.hid (by rw [← hv, g1])
     have HN' := Lib.hid hn'
     have HPA : Hid (p = i - A ∧ A ≤ i ∧ i < nd) := Lib.hid ⟨hp, hAi, hi⟩
     clear hq10 k2i hv hn' g3 hc hr2 hr hq g1 g2 hlt ld hin hp hAi hi
     go_wp2_with fail
     go_roundg (nd - (i + 1))
     case measure => have := HPA.out; omega
     case rel =>
      obtain ⟨x1, x2, x3⟩ := HPA.out
      refine ⟨i + 1, p + 1, n', upd f' p v, by omega, .inl (by omega), rfl, by omega, by go_num, by go_num, rfl, Lib.hid HN'.out.symm, Lib.hid (hI.out.put p hp8 v hv2), Lib.hid (fun j hj => ?_), Lib.hid (fun j h1 h2 => ?_), Lib.hid (Below.setCell (p := ⟨g, p, none⟩) hBl.out (Nat.le_refl g) _)⟩
      · by_cases e : j = p
        · subst e
          rw [upd_same, HV.out, show A + j = i by omega]
        · rw [upd_other _ _ _ _ e]
          exact hQ.out j (by omega)
      · rw [upd_other _ _ _ _ (by omega)]
        exact hG.out j (by omega) h2
   · have hii : ¬ (i : Int) < (nd : Int) := by omega
     have hp8 : p ≤ 800 := by omega
     have HS : Hid (A ≤ i ∧ nd ≤ i ∧ i < nd + k + 1 ∧ p = min (i - A) 800 ∧ i - A - 800 = 0 ∧ (i = nd ∨ i = A)) := Lib.hid (by have := HAle.out; omega)
     clear hin hp hi hAi hG hI1 hB1 HF
     go_wp2_with fail
     go_loopg [5, 6] (1000 - i) (fun gk v u wr => ∃ (i p n : Nat) (f' : Nat → Nat), A ≤ i ∧ nd ≤ i ∧ i ≤ nd + k + 1 ∧ gk = 1000 - i ∧ p = min (i - A) 800 ∧ v = .int .i64 (p : Int) ∧ u = .int .u64 (n : Int) ∧ Hid (n = Er k D nd i) ∧ Hid (RIn wr g f' nd dp' (cutT tr (Qr k D nd (i - 1)) (i - A - 800))) ∧ Hid (∀ j, j < p → f' j = 48 + Qr k D nd (A + j) % 10) ∧ Hid (∀ j, nd ≤ j → A ≤ j → j < i → Er k D nd j ≠ 0) ∧ Hid (Below g w wr))
     case atStart =>
      obtain ⟨x1, x2, x3, x4, x5, x6⟩ := HS.out
      refine ⟨i, p, n, f', x1, x2, by omega, by omega, x4, rfl, rfl, hn, Lib.hid ?_, hQ, Lib.hid (fun j h1 h2 h3 => by omega), hBl⟩
      rw [x5, cutT_zero]
      exact hI.out
     case round =>
      clear HS hn hI hQ hBl c0 ht hii hp8
      obtain ⟨i, p, n, f', hAi, hni, hik, rfl, hp, rfl, rfl, hn, hI, hQ, hZ, hBl⟩ := hrel
      have c0 := hI.out.hnd
      have ht := hI.out.thaw
      by_cases hn0 : n = 0
      · have hE0 : Er k D nd i = 0 := by rw [← hn.out]; exact hn0
        have hB := HBI.out i (by omega) hni hAi hE0 (fun j h1 h2 h3 => hZ.out j h2 h3 h1)
        have hiA : A < i := by
         rcases Nat.lt_or_ge A i with g1 | g1
         · exact g1
         · have e : i = A := by omega
           rw [e] at hE0
           exact absurd hE0 HN0.out
        have hq := (HQL.out (i - 1) (by omega)).1
        rw [show i - 1 + 1 - A = i - A by omega] at hq
        have hx := (cut800 hq).1
        have HX := Lib.hid hx
        have hsh := HSH.out
        rw [hB, ← hp] at hsh
        have HSH2 := Lib.hid hsh
        rw [← hp] at HX
        have q0 : decide ((0 : Int) < 0) = false := by decide
        have hp8 : p ≤ 800 := by omega
        have HDG : Hid (∀ j, j < p → f' j = 48 + dig (Qr k D nd (i - 1) / 10 ^ (i - A - 800)) p j) := Lib.hid (fun j hj => by
         rw [hQ.out j hj]
         have e1 := top_cut (N := Qr k D nd (i - 1)) (n1 := i - A) j (by omega)
         rw [← hp] at e1
         rw [e1, qr_digit (by omega)])
        clear hsh hx hq hB hE0 hp hik hiA
        subst hn0
        go_wp2_with fail
        have hI2 := hI.out.putNd (p : Int)
        refine (trim_any g (Qr k D nd (i - 1) / 10 ^ (i - A - 800)) p f' dp' (cutT tr (Qr k D nd (i - 1)) (i - A - 800)) HX.out hp8 _ hI2 HDG.out).mono ?_
        rintro e w' ⟨rfl, y1, y2, y3⟩
        have Y1 := Lib.hid y1
        have Y2 := Lib.hid y2
        have Y3 : Hid (Below g w w') := Lib.hid (Below.trans (Below.setCell (p := ⟨g, 800, none⟩) hBl.out (Nat.le_refl g) _) y3)
        clear y1 y2 y3 hI2
        go_wp2_with fail
        go_end0
        exact ⟨rfl, ⟨f', by rw [HSH2.out]; exact Y1.out, by rw [HSH2.out]; exact Y2.out⟩, Y3.out⟩
      · have hne : Er k D nd i ≠ 0 := by rw [← hn.out]; exact hn0
        have hik2 : i < nd + k + 1 := by
         rcases Nat.lt_or_ge i (nd + k + 1) with g1 | g1
         · exact g1
         · exact absurd (er_end g1) hne
        have hlt := er_lt (k := k) (D := D) (nd := nd) (r := i) (by omega)
        obtain ⟨g1, g2⟩ := er_dig (k := k) (D := D) (nd := nd) (r := i) (by omega)
        have g3 := er_next (k := k) (D := D) (nd := nd) (r := i) (by omega)
        rw [if_neg (by omega), ← g2, Nat.add_zero] at g3
        rw [← hn.out] at hlt g1 g3
        obtain ⟨m1, m2⟩ := HMM.out n hlt
        obtain ⟨q, hq⟩ : ∃ q, n / 2 ^ k = q := ⟨_, rfl⟩
        obtain ⟨r, hr⟩ : ∃ r, n % 2 ^ k = r := ⟨_, rfl⟩
        have hr2 : r < 2 ^ k := by rw [← hr]; exact Nat.mod_lt _ (Nat.pow_pos (by decide))
        rw [hq] at m2 g1
        rw [hr] at m1 g3
        obtain ⟨n', hn'⟩ : ∃ n', Er k D nd (i + 1) = n' := ⟨_, rfl⟩
        rw [hn'] at g3
        obtain ⟨v, hv⟩ : ∃ v, 48 + q = v := ⟨_, rfl⟩
        have k2i := HK2.out
        have hq10 : q < 10 := by omega
        have E1 : IntKind.u64.wrap ((r : Int) * 10) = (n' : Int) := by rw [IntKind.wrap_u64]; omega
        have E5 : IntKind.u64.wrap ((q : Int) + 48) % 256 = (v : Int) := by rw [IntKind.wrap_u64]; omega
        have hv2 : v < 256 := by omega
        have q0 : decide ((0 : Int) < (n : Int)) = true := by rw [decide_eq_true_eq]; omega
        have HV : Hid (v = 48 + Qr k D nd i % 10) := Lib.hid (by rw [← hv, g1])
        have HQ1 : Hid (q = Qr k D nd i % 10) := Lib.hid g1
        have HN' := Lib.hid hn'
        have HNE := Lib.hid hne
        have HPA : Hid (p = min (i - A) 800 ∧ A ≤ i ∧ nd ≤ i ∧ i < nd + k + 1 ∧ 1 ≤ A) := Lib.hid ⟨hp, hAi, hni, hik2, a1⟩
        have HZ2 : Hid (∀ j, nd ≤ j → A ≤ j → j < i + 1 → Er k D nd j ≠ 0) := Lib.hid (fun j h1 h2 h3 => by
         rcases Nat.lt_or_ge j i with g4 | g4
         · exact hZ.out j h1 h2 g4
         · rw [show j = i by omega]; exact HNE.out)
        have hi900 : i ≤ 900 := by omega
        have q0n : 0 < n := by omega
        clear hq10 k2i hv hn' g3 hr2 hr hq g1 g2 hlt hne hn0 hik hik2 hAi hni
        by_cases hp8 : p < 800
        · have hp8i : (p : Int) < 800 := by omega
          have cp := hI.out.byte p hp8
          clear hp
          go_wp2_with fail
          go_roundg (1000 - (i + 1))
          case measure => have := HPA.out; omega
          case rel =>
           obtain ⟨x1, x2, x3, x4, x5⟩ := HPA.out
           refine ⟨i + 1, p + 1, n', upd f' p v, by omega, by omega, by omega, rfl, by omega, by go_num, rfl, Lib.hid HN'.out.symm, Lib.hid ?_, Lib.hid (fun j hj => ?_), HZ2, Lib.hid (Below.setCell (p := ⟨g, p, none⟩) hBl.out (Nat.le_refl g) _)⟩
           · have h9 := hI.out.put p hp8 v hv2
             rw [show i - A - 800 = 0 by omega, cutT_zero] at h9
             rw [show i + 1 - A - 800 = 0 by omega, cutT_zero]
             exact h9
           · by_cases e : j = p
             · subst e
               rw [upd_same, HV.out, show A + j = i by omega]
             · rw [upd_other _ _ _ _ e]
               exact hQ.out j (by omega)
        · have hp8e : p = 800 := by omega
          have HP8 : Hid (800 ≤ i - A) := Lib.hid (by omega)
          have hp8q : decide ((p : Int) < 800) = false := by rw [decide_eq_false_iff_not]; omega
          have ct := hI.out.htr
          clear hp8 hp
          subst hp8e
          by_cases hq0 : q = 0
          · subst hq0
            have q1 : decide ((0 : Int) < 0) = false := by decide
            go_wp2_with fail
            go_roundg (1000 - (i + 1))
            case measure => have := HPA.out; omega
            case rel =>
             obtain ⟨x1, x2, x3, x4, x5⟩ := HPA.out
             have x6 := HP8.out
             refine ⟨i + 1, 800, n', f', by omega, by omega, by omega, rfl, by omega, rfl, rfl, Lib.hid HN'.out.symm, Lib.hid ?_, hQ, HZ2, hBl⟩
             rw [show i + 1 - A - 800 = (i - A - 800) + 1 by omega, Nat.add_sub_cancel, qr_cut (by omega) HQ1.out.symm]
             exact hI.out
          · have q1 : decide ((0 : Int) < (q : Int)) = true := by rw [decide_eq_true_eq]; omega
            have q1n : 0 < q := by omega
            have HQ0 := Lib.hid hq0
            clear hq0
            go_wp2_with fail
            go_roundg (1000 - (i + 1))
            case measure => have := HPA.out; omega
            case rel =>
             obtain ⟨x1, x2, x3, x4, x5⟩ := HPA.out
             have x6 := HP8.out
             refine ⟨i + 1, 800, n', f', by omega, by omega, by omega, rfl, by omega, rfl, rfl, Lib.hid HN'.out.symm, Lib.hid ?_, hQ, HZ2, Lib.hid (Below.setCell (p := ⟨g, 803, none⟩) hBl.out (Nat.le_refl g) _)⟩
             rw [show i + 1 - A - 800 = (i - A - 800) + 1 by omega, Nat.add_sub_cancel, qr_cut_true (by omega) (by rw [← HQ1.out]; exact HQ0.out)]
             exact hI.out.putTr true
end Go.Proofs.YtmlclgkhnekmnaaGreatDoor
namespace Go.Proofs.YtmlclgkhnekmnaaGreatDoor
open Go.RowKit
structure CutIs (k : Nat) (s : ByteArray) : Prop where
 size : s.size = mc k
 byte : ∀ i (h : i < s.size), s[i].toNat = 48 + dig (5 ^ k) (mc k) i
structure CheatIn (B : Nat) (W : World) : Prop where
 low : 14 < B
 row : ∃ R o cap, R < B ∧ W.cell? ⟨14, 0, none⟩ = some (.slice (some ⟨R, o, none⟩) 61 cap) ∧ ∀ i, i < 61 → 1 ≤ i → W.cell? ⟨R, o + i * 2, none⟩ = some (.int .i64 (dlt i : Int)) ∧ ∃ s, CutIs i s ∧ W.cell? ⟨R, o + i * 2 + 1, none⟩ = some (.string s)
theorem CheatIn.below {B : Nat} {W W' : World} (h : CheatIn B W) (hb : Below B W W') : CheatIn B W' := by
 obtain ⟨R, o, cap, h1, h2, h3⟩ := h.row
 refine ⟨h.low, R, o, cap, h1, ?_, fun i hi hj => ?_⟩
 · rw [hb.cell (p := ⟨14, 0, none⟩) h.low]; exact h2
 · obtain ⟨a, s, b, c⟩ := h3 i hi hj
   refine ⟨?_, s, b, ?_⟩
   · rw [hb.cell (p := ⟨R, o + i * 2, none⟩) h1]; exact a
   · rw [hb.cell (p := ⟨R, o + i * 2 + 1, none⟩) h1]; exact c
set_option maxRecDepth 100000 in
set_option maxHeartbeats 4000000 in
theorem left_any (g B k : Nat) (k1 : 1 ≤ k) (k2 : k ≤ 60) (x : Dc) (hx : x.Ok) (hdp : -100000000 ≤ x.dp ∧ x.dp ≤ 100000000) (w : World) (hC : CheatIn B w) (h : DIn w g x) :
 Calls Tryz.prog 245 #[.pointer (some ⟨g, 0, none⟩), .int .u64 (k : Int)] w fun e w' => e = .returned (.tuple #[]) ∧ DIn w' g (shl k x) ∧ Below g w w' := by
 obtain ⟨D, nd, dp, tr⟩ := x
 obtain ⟨f, hR, hf⟩ := h
 obtain ⟨R, o, cap, _, hc0, hc1⟩ := hC.row
 obtain ⟨hcd, s, hcut, hcs⟩ := hc1 k (by omega) k1
 have hl := hx.len
 have h8 := hx.n8
 simp only at hl h8 hR hf hdp
 obtain ⟨f1, f2, f3⟩ := five_facts k (by omega) k1
 obtain ⟨d1, d2, d3, d4, d5⟩ := dlt_facts k (by omega) k1
 have HP := Lib.hid (fun n : Nat => prefix_less g D nd 800 h8 hl.hi (5 ^ k) (mc k) f3 f2 s hcut.size (by unfold mc; omega) hcut.byte (w.drewN n) (fun i hi => by rw [(hR.drewN n).byte i (by omega), hf i hi]))
 have hlen := dl_len k1 k2 hl
 obtain ⟨δ, hδ⟩ : ∃ δ, dl k D nd = δ := ⟨_, rfl⟩
 obtain ⟨b, hb⟩ : ∃ b, decide (D * 10 ^ mc k < 5 ^ k * 10 ^ nd) = b := ⟨_, rfl⟩
 have hdl : dlt k = if b then δ + 1 else δ := by
  rw [← hδ, ← hb]
  unfold dl
  have := dl_is (D := D) k1 k2 hl.n1
  by_cases g : D * 2 ^ k < 10 ^ (nd + dlt k - 1)
  · rw [if_pos g, if_pos (decide_eq_true (this.1 g))]; omega
  · rw [if_neg g, if_neg (by rw [decide_eq_true_eq]; exact fun y => g (this.2 y))]
 rw [hb] at HP
 rw [hδ] at hlen
 have HSH : Hid (shl k ⟨D, nd, dp, tr⟩ = ⟨(stripN (D * 2 ^ k / 10 ^ (nd + δ - 800)) (min (nd + δ) 800)).1, (stripN (D * 2 ^ k / 10 ^ (nd + δ - 800)) (min (nd + δ) 800)).2, dp + (δ : Int), cutT tr (D * 2 ^ k) (nd + δ - 800)⟩) := Lib.hid (by unfold shl; simp only; rw [hδ]; rfl)
 have c0 := hR.hnd
 have HLen := Lib.hid hlen
 have HL := Lib.hid hl
 have HI := Lib.hid hR
 have HF := Lib.hid hf
 have hd19 : δ ≤ 19 := by rw [← hδ]; exact dl_le k1 k2
 have hk61 : (k : Int) < 61 := by omega
 have hk61n : k < 61 := by omega
 have hn8 : (nd : Int) ≤ 800 := by omega
 clear hR hf hlen hl hx hC hc1 hcut f1 f2 f3 d1 d2 d3 d4 d5 hb
 rw [hdl] at hcd
 clear hdl
 go_enter Tryz.func245, Tryz.ntmps245
 cases b
 case' true => skip
 case' false => skip
 all_goals
  go_wp2_with fail
  go_quiet ((go_at_call 251; exact Calls.quiet_of (HP.out _)))
  go_wp2_with fail
  go_loopw [5, 6, 7] (fun r v u wr => ∃ (j p : Nat) (f' : Nat → Nat), j ≤ nd ∧ p = j + δ ∧ r = .int .i64 ((j : Int) - 1) ∧ v = .int .i64 (p : Int) ∧ u = .int .u64 (nL k D (nd - j) : Nat) ∧ Hid (RIn wr g f' nd dp (cutT tr (D * 2 ^ k) (min (nd + δ - 800) (nd - j)))) ∧ Hid (∀ i, i < j → f' i = 48 + dig D nd i) ∧ Hid (∀ i, j + δ ≤ i → i < nd + δ → i < 800 → f' i = 48 + dig (D * 2 ^ k) (nd + δ) i) ∧ Hid (Below g w wr)) (fun r _ _ _ => (intOf r + 1).toNat)
  case atStart =>
   refine ⟨nd, nd + δ, f, Nat.le_refl _, rfl, rfl, by go_num, ?_, Lib.hid ?_, HF, Lib.hid (fun i h1 h2 => by omega), Lib.hid (dBelow (Below.refl _ _) nq)⟩
   · rw [Nat.sub_self, nl_zero]; rfl
   · rw [Nat.sub_self, Nat.min_zero, cutT_zero]; exact HI.out.drewN nq
  case round =>
   obtain ⟨j, p, f', hj, hp, rfl, rfl, rfl, hI, hF, hG, hBl⟩ := hrel
   by_cases hj0 : j = 0
   · subst hj0
     have q0 : decide ((0 : Int) ≤ -1) = false := by decide
     have hpd : p = δ := by omega
     have e0 : nL k D (nd - 0) = D * 2 ^ k / 10 ^ (nd + δ - p) := by
      rw [Nat.sub_zero, nl_last HL.out.hi, hpd]; congr 2; omega
     have e1 : min (nd + δ - 800) (nd - 0) = nd + δ - 800 := by omega
     rw [e0]
     rw [e1] at hI
     clear hj hp e0 e1 hF
     have hG2 : Hid (∀ i, p ≤ i → i < nd + δ → i < 800 → f' i = 48 + dig (D * 2 ^ k) (nd + δ) i) := Lib.hid (fun i a b c => hG.out i (by omega) b c)
     have hpd2 : p ≤ δ := by omega
     clear hG hpd
     go_wp2_with fail
     go_loopw [6, 7] (fun v u wr => ∃ (p : Nat) (f' : Nat → Nat), p ≤ δ ∧ v = .int .i64 (p : Int) ∧ u = .int .u64 (D * 2 ^ k / 10 ^ (nd + δ - p) : Nat) ∧ Hid (RIn wr g f' nd dp (cutT tr (D * 2 ^ k) (nd + δ - 800))) ∧ Hid (∀ i, p ≤ i → i < nd + δ → i < 800 → f' i = 48 + dig (D * 2 ^ k) (nd + δ) i) ∧ Hid (Below g w wr)) (fun _ u _ => (intOf u).toNat)
     case atStart => exact ⟨p, f', hpd2, rfl, rfl, hI, hG2, hBl⟩
     case round =>
      clear hG2 hI hBl
      obtain ⟨p', f2, hp', rfl, rfl, hI, hG, hBl⟩ := hrel
      obtain ⟨n, hn⟩ : ∃ n, D * 2 ^ k / 10 ^ (nd + δ - p') = n := ⟨_, rfl⟩
      by_cases hn0 : n = 0
      · have hz := top_done HLen.out (w := p') (by omega) (by rw [hn]; exact hn0)
        rw [hn, hn0]
        clear hn0 hn
        have q0 : decide ((0 : Int) < 0) = false := by decide
        subst hz
        have c0 := hI.out.hnd
        have c1 := hI.out.hdp
        have ht := hI.out.thaw
        obtain ⟨x1, x2⟩ := cut800 HLen.out
        have X1 := Lib.hid x1
        clear x1 x2
        by_cases h8c : 800 ≤ nd + δ
        · have h8i : (800 : Int) ≤ (nd : Int) + (δ : Int) := by omega
          have X2 : Hid (((min (nd + δ) 800 : Nat) : Int) = 800) := Lib.hid (by omega)
          go_wp2_with fail
          have hI2 := ((hI.out.putNd ((nd : Int) + (δ : Int))).putNd 800).putDp (dp + (δ : Int))
          rw [← X2.out] at hI2 ⊢
          refine (trim_any g (D * 2 ^ k / 10 ^ (nd + δ - 800)) (min (nd + δ) 800) f2 (dp + (δ : Int)) (cutT tr (D * 2 ^ k) (nd + δ - 800)) X1.out (by omega) _ hI2 (fun i hi => ?_)).mono ?_
          · rw [top_cut i hi]; exact hG.out i (by omega) (by omega) (by omega)
          · rintro e w' ⟨rfl, y1, y2, y3⟩
            have Y1 := Lib.hid y1
            have Y2 := Lib.hid y2
            have Y3 : Hid (Below g w w') := Lib.hid (Below.trans (Below.setCell (p := ⟨g, 801, none⟩) (Below.setCell (p := ⟨g, 800, none⟩) (Below.setCell (p := ⟨g, 800, none⟩) hBl.out (Nat.le_refl g) _) (Nat.le_refl g) _) (Nat.le_refl g) _) y3)
            clear y1 y2 y3 hI2
            go_wp2_with fail
            go_end0
            exact ⟨rfl, ⟨f2, by rw [HSH.out]; exact Y1.out, by rw [HSH.out]; exact Y2.out⟩, Y3.out⟩
        · have h8i : ¬ (800 : Int) ≤ (nd : Int) + (δ : Int) := by omega
          have X2 : Hid ((nd : Int) + (δ : Int) = ((min (nd + δ) 800 : Nat) : Int)) := Lib.hid (by omega)
          go_wp2_with fail
          have hI2 := ((hI.out.putNd ((nd : Int) + (δ : Int)))).putDp (dp + (δ : Int))
          rw [X2.out] at hI2 ⊢
          refine (trim_any g (D * 2 ^ k / 10 ^ (nd + δ - 800)) (min (nd + δ) 800) f2 (dp + (δ : Int)) (cutT tr (D * 2 ^ k) (nd + δ - 800)) X1.out (by omega) _ hI2 (fun i hi => ?_)).mono ?_
          · rw [top_cut i hi]; exact hG.out i (by omega) (by omega) (by omega)
          · rintro e w' ⟨rfl, y1, y2, y3⟩
            have Y1 := Lib.hid y1
            have Y2 := Lib.hid y2
            have Y3 : Hid (Below g w w') := Lib.hid (Below.trans (Below.setCell (p := ⟨g, 801, none⟩) (Below.setCell (p := ⟨g, 800, none⟩) hBl.out (Nat.le_refl g) _) (Nat.le_refl g) _) y3)
            clear y1 y2 y3 hI2
            go_wp2_with fail
            go_end0
            exact ⟨rfl, ⟨f2, by rw [HSH.out]; exact Y1.out, by rw [HSH.out]; exact Y2.out⟩, Y3.out⟩
      · have hp1 := top_none HLen.out (w := p') (by rw [hn]; exact hn0)
        obtain ⟨P, rfl⟩ : ∃ P, p' = P + 1 := ⟨p' - 1, by omega⟩
        obtain ⟨t1, t2⟩ := top_next (D * 2 ^ k) (nd + δ) (P + 1) hp1 (by omega)
        rw [Nat.add_sub_cancel] at t1 t2
        rw [hn] at t1 t2 ⊢
        have hlt : n < 18446744073709551616 := by
         rw [← hn]
         have a1 : D * 2 ^ k / 10 ^ (nd + δ - (P + 1)) < 10 ^ (P + 1) := by
          rw [Nat.div_lt_iff_lt_mul (p10 _), p10a, show P + 1 + (nd + δ - (P + 1)) = nd + δ by omega]
          exact HLen.out.hi
         have a2 : 10 ^ (P + 1) ≤ 10 ^ 19 := p10le (by omega)
         have a3 : (10 : Nat) ^ 19 = 10000000000000000000 := by decide
         omega
        have q0 : decide ((0 : Int) < (n : Int)) = true := by rw [decide_eq_true_eq]; omega
        obtain ⟨q, hq⟩ : ∃ q, n / 10 = q := ⟨_, rfl⟩
        obtain ⟨r, hr⟩ : ∃ r, n % 10 = r := ⟨_, rfl⟩
        rw [hq] at t1
        rw [hr] at t2
        obtain ⟨v, hv⟩ : ∃ v, 48 + r = v := ⟨_, rfl⟩
        have E2 : IntKind.u64.wrap ((n : Int) / 10) = (q : Int) := by rw [IntKind.wrap_u64]; omega
        have E3 : IntKind.u64.wrap (10 * (q : Int)) = 10 * (q : Int) := by rw [IntKind.wrap_u64]; omega
        have E4 : IntKind.u64.wrap ((n : Int) - 10 * (q : Int)) = (r : Int) := by rw [IntKind.wrap_u64]; omega
        have E5 : IntKind.u64.wrap ((r : Int) + 48) % 256 = (v : Int) := by rw [IntKind.wrap_u64]; omega
        have hv2 : v < 256 := by omega
        have hvd : v = 48 + dig (D * 2 ^ k) (nd + δ) P := by rw [← hv, ← t2]
        have HV := Lib.hid hvd
        have HT := Lib.hid t1
        have hP8 : P < 800 := by omega
        have hP8i : (P : Int) < 800 := by omega
        have hqn : q < n := by omega
        have cp := hI.out.byte P hP8
        have ht := hI.out.thaw
        clear t1 t2 hvd hn hq hr hv hlt hn0
        go_wp2_with fail
        refine ⟨⟨P, upd f2 P v, by omega, rfl, by rw [HT.out], Lib.hid (hI.out.put P hP8 v hv2), Lib.hid (fun i h1 h2 h3 => ?_), Lib.hid (Below.setCell (p := ⟨g, P, none⟩) hBl.out (Nat.le_refl g) _)⟩, by simp [intOf] <;> omega⟩
        by_cases hi : i = P
        · subst hi; rw [upd_same]; exact HV.out
        · rw [upd_other _ _ _ _ hi]
          exact hG.out i (by omega) h2 h3
   · obtain ⟨m, rfl⟩ : ∃ m, j = m + 1 := ⟨j - 1, by omega⟩
     obtain ⟨P, rfl⟩ : ∃ P, p = P + 1 := ⟨p - 1, by omega⟩
     have hP : P = m + δ := by omega
     have ht := hI.out.thaw
     have cb := hI.out.byte m (by omega)
     rw [hF.out m (by omega)] at cb
     have ld := dig_lt D nd m
     obtain ⟨e, he⟩ : ∃ e, nd - (m + 1) = e := ⟨_, rfl⟩
     have he2 : nd - m = e + 1 := by omega
     have hdd : dig D nd m = D / 10 ^ e % 10 := by
      unfold dig
      rw [show nd - 1 - m = e by omega]
     obtain ⟨s1, s2⟩ := nl_step k D e
     rw [← hdd] at s1 s2
     have hpos : D * 2 ^ k / 10 ^ e % 10 = dig (D * 2 ^ k) (nd + δ) P := by
      unfold dig
      rw [show nd + δ - 1 - P = e by omega]
     have ln := nl_lt k D e
     have l2 := pow2le k2
     rw [he] at hI ⊢
     obtain ⟨d, hd⟩ : ∃ d, dig D nd m = d := ⟨_, rfl⟩
     rw [hd] at cb ld s1 s2
     have hmul : d * 2 ^ k ≤ 9 * 2 ^ k := Nat.mul_le_mul_right _ (by omega)
     obtain ⟨M, hM⟩ : ∃ M, 2 ^ k = M := ⟨_, rfl⟩
     have hMi : (2 : Int) ^ k = (M : Int) := by rw [← hM]; simp
     rw [hM] at ln l2 hmul s1 s2
     obtain ⟨n, hn⟩ : ∃ n, nL k D e = n := ⟨_, rfl⟩
     rw [hn] at ln s1 s2 ⊢
     obtain ⟨a, ha⟩ : ∃ a, n + d * M = a := ⟨_, rfl⟩
     rw [ha] at s1 s2
     have hai : (n : Int) + (d : Int) * (M : Int) = (a : Int) := by rw [← ha]; simp
     have hdm : (d : Int) * (M : Int) = ((d * M : Nat) : Int) := by simp
     have E1 : IntKind.u64.wrap ((n : Int) + IntKind.u64.wrap (IntKind.u64.wrap (IntKind.u64.wrap (48 + (d : Int)) - 48) * 2 ^ k)) = (a : Int) := by
      rw [hMi, IntKind.wrap_u64 (48 + (d : Int)), IntKind.wrap_u64 (_ - 48), show ((48 : Int) + d) % 18446744073709551616 - 48 = d by omega, show (d : Int) % 18446744073709551616 = d by omega, IntKind.wrap_u64 ((d : Int) * M), IntKind.wrap_u64]
      omega
     obtain ⟨q, hq⟩ : ∃ q, a / 10 = q := ⟨_, rfl⟩
     obtain ⟨r, hr⟩ : ∃ r, a % 10 = r := ⟨_, rfl⟩
     rw [hq] at s1
     rw [hr] at s2
     obtain ⟨v, hv⟩ : ∃ v, 48 + r = v := ⟨_, rfl⟩
     have E2 : IntKind.u64.wrap ((a : Int) / 10) = (q : Int) := by rw [IntKind.wrap_u64]; omega
     have E3 : IntKind.u64.wrap (10 * (q : Int)) = 10 * (q : Int) := by rw [IntKind.wrap_u64]; omega
     have E4 : IntKind.u64.wrap ((a : Int) - 10 * (q : Int)) = (r : Int) := by rw [IntKind.wrap_u64]; omega
     have E5 : IntKind.u64.wrap ((r : Int) + 48) % 256 = (v : Int) := by rw [IntKind.wrap_u64]; omega
     have hv2 : v < 256 := by omega
     have hvd : v = 48 + dig (D * 2 ^ k) (nd + δ) P := by rw [← hv, ← hpos, hM, s2]
     have HV := Lib.hid hvd
     have HS1 := Lib.hid s1
     have HE := Lib.hid he2
     have HPP := Lib.hid hP
     have HJ := Lib.hid hj
     have HR0 : Hid (r = D * 2 ^ k / 10 ^ e % 10) := Lib.hid (by rw [hM]; exact s2)
     have hm8 : (m : Int) < 800 := by omega
     have hm8n : m < 800 := by omega
     have HE0 := Lib.hid he
     clear hM hn hp s1 s2 hvd he2 he hP hj ha hai hdm hmul ln l2 hq hr hpos hdd hd ld hMi hj0 hv
     by_cases hP8 : P < 800
     · have hP8i : (P : Int) < 800 := by omega
       have cp := hI.out.byte P hP8
       go_wp2_with fail
       refine ⟨⟨m, P, upd f' P v, by have := HJ.out; omega, HPP.out, rfl, rfl, by rw [HE.out, ← HS1.out], Lib.hid ?_, Lib.hid (fun i hi => ?_), Lib.hid (fun i h1 h2 h3 => ?_), Lib.hid (Below.setCell (p := ⟨g, P, none⟩) hBl.out (Nat.le_refl g) _)⟩, by simp [intOf] <;> omega⟩
       · have h9 := hI.out.put P hP8 v hv2
         rw [show min (nd + δ - 800) (nd - m) = min (nd + δ - 800) e by have := HE.out; have := HPP.out; have := HJ.out; omega]
         exact h9
       · rw [upd_other _ _ _ _ (by have := HPP.out; omega)]
         exact hF.out i (by omega)
       · by_cases hi : i = P
         · subst hi; rw [upd_same]; exact HV.out
         · rw [upd_other _ _ _ _ hi]
           exact hG.out i (by have := HPP.out; omega) h2 h3
     · have q8 : decide ((P : Int) < 800) = false := decide_eq_false (by omega)
       have ew : IntKind.i64.wrap (P : Int) = (P : Int) := IntWalk.i64_in _ (by have := HPP.out; have := HJ.out; omega)
       have HP8 := Lib.hid hP8
       clear hP8
       by_cases hr0 : r = 0
       · have q0 : ((r : Int) != 0) = false := by simp only [bne_eq_false_iff_eq]; omega
         have HZ := Lib.hid hr0
         clear hr0
         go_wp2_with fail
         refine ⟨⟨m, P, f', by have := HJ.out; omega, HPP.out, rfl, rfl, by rw [HE.out, ← HS1.out], Lib.hid ?_, Lib.hid (fun i hi => hF.out i (by omega)), Lib.hid (fun i h1 h2 h3 => by have := HPP.out; have := HP8.out; omega), hBl⟩, by simp [intOf] <;> omega⟩
         have h9 := hI.out
         have x1 := HE.out
         have x2 := HPP.out
         have x3 := HJ.out
         have x4 := HP8.out
         rw [show min (nd + δ - 800) (nd - m) = e + 1 by omega, cutT_same (by rw [← HR0.out]; exact HZ.out)]
         rw [show min (nd + δ - 800) e = e by omega] at h9
         exact h9
       · have q0 : ((r : Int) != 0) = true := by simp only [bne_iff_ne, ne_eq]; omega
         have HZ := Lib.hid hr0
         clear hr0
         have ct := hI.out.htr
         go_wp2_with fail
         refine ⟨⟨m, P, f', by have := HJ.out; omega, HPP.out, rfl, rfl, by rw [HE.out, ← HS1.out], Lib.hid ?_, Lib.hid (fun i hi => hF.out i (by omega)), Lib.hid (fun i h1 h2 h3 => by have := HPP.out; have := HP8.out; omega), Lib.hid (Below.setCell (p := ⟨g, 803, none⟩) hBl.out (Nat.le_refl g) _)⟩, by simp [intOf] <;> omega⟩
         have x1 := HE.out
         have x2 := HPP.out
         have x3 := HJ.out
         have x4 := HP8.out
         rw [show min (nd + δ - 800) (nd - m) = e + 1 by omega, cutT_true (by rw [← HR0.out]; exact HZ.out)]
         exact hI.out.putTr true
end Go.Proofs.YtmlclgkhnekmnaaGreatDoor
namespace Go.Proofs.YtmlclgkhnekmnaaGreatDoor
open Go.RowKit
theorem DIn.hnd {W : World} {g : Nat} {x : Dc} (h : DIn W g x) : W.cell? ⟨g, 800, none⟩ = some (.int .i64 (x.nd : Int)) := by
 obtain ⟨f, h1, _⟩ := h
 exact h1.hnd
set_option maxRecDepth 100000 in
set_option maxHeartbeats 2000000 in
theorem shift_left (g B k : Nat) (hB : B ≤ g) (k1 : 1 ≤ k) (k2 : k ≤ 300000) (x : Dc) (hx : x.Ok) (hdp : -10000000 ≤ x.dp ∧ x.dp ≤ 10000000) (w : World) (hC : CheatIn B w) (h : DIn w g x) :
 Calls Tryz.prog 237 #[.pointer (some ⟨g, 0, none⟩), .int .i64 (k : Int)] w fun e w' => e = .returned (.tuple #[]) ∧ DIn w' g (shlN k x) ∧ Below g w w' := by
 have c0 := h.hnd
 have n1 := hx.len.n1
 obtain ⟨n, hn⟩ : ∃ n, x.nd = n + 1 := ⟨x.nd - 1, by omega⟩
 rw [hn] at c0
 have q0 : ((n : Int) + 1 == 0) = false := by simp only [beq_eq_false_iff_ne, ne_eq]; omega
 have qk : decide (0 < k) = true := decide_eq_true k1
 have qki : decide ((0 : Int) < (k : Int)) = true := decide_eq_true (by omega)
 have HX := Lib.hid hx
 have HI := Lib.hid h
 have HC := Lib.hid hC
 obtain ⟨R, hR⟩ : ∃ R, shlN k x = R := ⟨_, rfl⟩
 have HR : Hid (shlF k k x = R) := Lib.hid hR
 rw [hR]
 clear hR hx h hC hn n1
 go_enter Tryz.func237, Tryz.ntmps237
 go_wp2_with fail
 go_loopg [1] k (fun gk v wr => ∃ (f k' : Nat) (y : Dc), k' ≤ f ∧ 1 ≤ k' ∧ k' ≤ k ∧ k' = gk ∧ v = .int .i64 (k' : Int) ∧ Hid (y.Ok) ∧ -10000000 ≤ y.dp ∧ y.dp + 19 * k' ≤ 10000000 + 19 * k ∧ Hid (shlF f k' y = R) ∧ Hid (DIn wr g y) ∧ Hid (CheatIn B wr) ∧ Hid (Below g w wr))
 case atStart => exact ⟨k, k, x, Nat.le_refl _, k1, Nat.le_refl _, rfl, rfl, HX, hdp.1, by omega, HR, HI, HC, Lib.hid (Below.refl _ _)⟩
 case round =>
  clear HX HI HC HR
  obtain ⟨f, k', y, hkf, hk1, hkk, rfl, rfl, hX, hd1, hd2, hF, hI, hC, hBl⟩ := hrel
  obtain ⟨f, rfl⟩ : ∃ f', f = f' + 1 := ⟨f - 1, by omega⟩
  by_cases h6 : 60 < k'
  · have h6i : (60 : Int) < (k' : Int) := by omega
    have hf := hF.out
    rw [shlF, if_pos h6] at hf
    have HF2 := Lib.hid hf
    have HO := Lib.hid (shl_ok (k := 60) (by omega) (by omega) hX.out).1
    have e := shl_dp 60 y
    have l := dl_le (D := y.D) (nd := y.nd) (show 1 ≤ 60 by omega) (show 60 ≤ 60 by omega)
    have HD : Hid (-10000000 ≤ (shl 60 y).dp ∧ (shl 60 y).dp + 19 * ((k' - 60 : Nat) : Int) ≤ 10000000 + 19 * k) := Lib.hid (by omega)
    have hcall := Lib.hid (left_any g B 60 (by omega) (by omega) y hX.out (by omega) wr hC.out hI.out)
    have ek : (k' : Int) - 60 = ((k' - 60 : Nat) : Int) := by omega
    clear hf e l hF hI
    go_wp2_with fail
    refine hcall.out.mono ?_
    rintro e w' ⟨rfl, y1, y2⟩
    have Y1 := Lib.hid y1
    have Y2 := Lib.hid (hC.out.below (y2.mono hB))
    have Y3 := Lib.hid (Below.trans hBl.out y2)
    clear y1 y2 hcall
    go_wp2_with fail
    go_roundg (k' - 60)
    case measure => omega
    case rel => exact ⟨f, k' - 60, shl 60 y, by omega, by omega, by omega, rfl, rfl, HO, HD.out.1, HD.out.2, HF2, Y1, Y2, Y3⟩
  · have h6i : ¬ (60 : Int) < (k' : Int) := by omega
    have hf := hF.out
    rw [shlF, if_neg h6] at hf
    have HF2 := Lib.hid hf
    have hcall := Lib.hid (left_any g B k' hk1 (by omega) y hX.out (by omega) wr hC.out hI.out)
    have ek : IntKind.u64.wrap (k' : Int) = (k' : Int) := by rw [IntKind.wrap_u64]; omega
    clear hf hF hI
    go_wp2_with fail
    refine hcall.out.mono ?_
    rintro e w' ⟨rfl, y1, y2⟩
    have Y1 := Lib.hid y1
    have Y3 := Lib.hid (Below.trans hBl.out y2)
    clear y1 y2 hcall
    go_wp2_with fail
    go_end0
    exact ⟨rfl, by rw [← HF2.out]; exact Y1.out, Y3.out⟩
set_option maxRecDepth 100000 in
set_option maxHeartbeats 2000000 in
theorem shift_right (g k : Nat) (k1 : 1 ≤ k) (k2 : k ≤ 300000) (x : Dc) (hx : x.Ok) (hdp : -10000000 ≤ x.dp ∧ x.dp ≤ 10000000) (w : World) (h : DIn w g x) :
 Calls Tryz.prog 237 #[.pointer (some ⟨g, 0, none⟩), .int .i64 (-(k : Int))] w fun e w' => e = .returned (.tuple #[]) ∧ DIn w' g (shrN k x) ∧ Below g w w' := by
 have c0 := h.hnd
 have n1 := hx.len.n1
 obtain ⟨n, hn⟩ : ∃ n, x.nd = n + 1 := ⟨x.nd - 1, by omega⟩
 rw [hn] at c0
 have q0 : ((n : Int) + 1 == 0) = false := by simp only [beq_eq_false_iff_ne, ne_eq]; omega
 have q1 : decide ((0 : Int) < -(k : Int)) = false := by rw [decide_eq_false_iff_not]; omega
 have q2 : decide (-(k : Int) < 0) = true := by rw [decide_eq_true_eq]; omega
 have q1' : decide ((k : Int) < 0) = false := by rw [decide_eq_false_iff_not]; omega
 have q2' : decide ((0 : Int) < (k : Int)) = true := decide_eq_true (by omega)
 have q3' : decide (0 < k) = true := decide_eq_true k1
 have HX := Lib.hid hx
 have HI := Lib.hid h
 obtain ⟨R, hR⟩ : ∃ R, shrN k x = R := ⟨_, rfl⟩
 have HR : Hid (shrF k k x = R) := Lib.hid hR
 rw [hR]
 clear hR hx h hn n1
 go_enter Tryz.func237, Tryz.ntmps237
 go_wp2_with fail
 go_loopg [1] k (fun gk v wr => ∃ (f k' : Nat) (y : Dc), k' ≤ f ∧ 1 ≤ k' ∧ k' ≤ k ∧ k' = gk ∧ v = .int .i64 (-(k' : Int)) ∧ Hid (y.Ok) ∧ y.dp ≤ 10000000 ∧ -10000000 - 19 * k ≤ y.dp - 19 * k' ∧ Hid (shrF f k' y = R) ∧ Hid (DIn wr g y) ∧ Hid (Below g w wr))
 case atStart => exact ⟨k, k, x, Nat.le_refl _, k1, Nat.le_refl _, rfl, rfl, HX, hdp.2, by omega, HR, HI, Lib.hid (Below.refl _ _)⟩
 case round =>
  clear HX HI HR
  obtain ⟨f, k', y, hkf, hk1, hkk, rfl, rfl, hX, hd1, hd2, hF, hI, hBl⟩ := hrel
  obtain ⟨f, rfl⟩ : ∃ f', f = f' + 1 := ⟨f - 1, by omega⟩
  by_cases h6 : 60 < k'
  · have q6 : decide (-(k' : Int) < -60) = true := by rw [decide_eq_true_eq]; omega
    have hf := hF.out
    rw [shrF, if_pos h6] at hf
    have HF2 := Lib.hid hf
    have HO := Lib.hid (shr_ok (k := 60) (by omega) (by omega) hX.out).1
    have e := shr_dp 60 y
    obtain ⟨l1, l2, _⟩ := rA_facts (show 1 ≤ 60 by omega) (show 60 ≤ 60 by omega) hX.out.len
    have HD : Hid ((shr 60 y).dp ≤ 10000000 ∧ -10000000 - 19 * (k : Int) ≤ (shr 60 y).dp - 19 * ((k' - 60 : Nat) : Int)) := Lib.hid (by omega)
    have hcall := Lib.hid (right_any g 60 (by omega) (by omega) y hX.out (by omega) wr hI.out)
    have ek : -(k' : Int) + 60 = -((k' - 60 : Nat) : Int) := by omega
    have ew : IntKind.i64.wrap (-(k' : Int) + 60) = -((k' - 60 : Nat) : Int) := by rw [ek]; exact IntWalk.i64_in _ (by omega)
    clear hf e l1 l2 hF hI
    go_wp2_with fail
    refine hcall.out.mono ?_
    rintro e w' ⟨rfl, y1, y2⟩
    have Y1 := Lib.hid y1
    have Y3 := Lib.hid (Below.trans hBl.out y2)
    clear y1 y2 hcall
    go_wp2_with fail
    go_roundg (k' - 60)
    case measure => omega
    case rel => exact ⟨f, k' - 60, shr 60 y, by omega, by omega, by omega, rfl, rfl, HO, HD.out.1, HD.out.2, HF2, Y1, Y3⟩
  · have q6 : decide (-(k' : Int) < -60) = false := by rw [decide_eq_false_iff_not]; omega
    have hf := hF.out
    rw [shrF, if_neg h6] at hf
    have HF2 := Lib.hid hf
    have hcall := Lib.hid (right_any g k' hk1 (by omega) y hX.out (by omega) wr hI.out)
    have ew : IntKind.i64.wrap (k' : Int) = (k' : Int) := IntWalk.i64_in _ (by omega)
    have ek : IntKind.u64.wrap (k' : Int) = (k' : Int) := by rw [IntKind.wrap_u64]; omega
    clear hf hF hI
    go_wp2_with fail
    refine hcall.out.mono ?_
    rintro e w' ⟨rfl, y1, y2⟩
    have Y1 := Lib.hid y1
    have Y3 := Lib.hid (Below.trans hBl.out y2)
    clear y1 y2 hcall
    go_wp2_with fail
    go_end0
    exact ⟨rfl, by rw [← HF2.out]; exact Y1.out, Y3.out⟩
end Go.Proofs.YtmlclgkhnekmnaaGreatDoor
