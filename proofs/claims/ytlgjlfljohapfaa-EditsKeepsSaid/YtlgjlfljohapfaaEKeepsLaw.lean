/-
  THE WALK OF emendlaw07.EditsKeeps: at every text and every list of splices it returns true; no memory that was there turns. Condition: what can be read at all.
-/
import Derived.Test.YtlgjlfljohapfaaEBackLaw
import Derived.Test.YtlgjlfljohapfaaEPlain5
namespace Go.Proofs.Ytlgjlfljohapfaa
open Go.RowKit

theorem sumS_le (m : Nat) : ∀ L : List Spl, (∀ x ∈ L, x.s.size ≤ m) → sumS L ≤ m * L.length
  | [], _ => Nat.zero_le _
  | x :: L, h => by
    have h1 := h x List.mem_cons_self
    have h2 := sumS_le m L (fun y hy => h y (List.mem_cons_of_mem _ hy))
    show x.s.size + sumS L ≤ _
    rw [List.length_cons, Nat.mul_succ]
    omega
/-- What holds of a place among the bytes that splices make something of. -/
structure Kp (T M : ByteArray) (F : List Spl) (i : Nat) : Prop where
  yes : keptB (i : Int) F = true → ∃ k : Nat, ∃ h1 : k < M.size, ∃ h2 : i < T.size, movE F (i : Int) = .returned (.tuple #[.int .i64 (k : Int), .bool true]) ∧ M[k]'h1 = T[i]'h2 ∧ ∀ b : Nat, i < b → ∀ q : Int, keptB (b : Int) F = true → movE F (b : Int) = .returned (.tuple #[.int .i64 q, .bool true]) → (k : Int) < q
  no : keptB (i : Int) F = false → movE F (i : Int) = .returned (.tuple #[.int .i64 0, .bool false])
theorem keep_at {T : ByteArray} {F : List Spl} (hT : T.size ≤ 1500) (hf : fits T.size F = true) (i : Nat) (hi : i < T.size) : Kp T (textOf (madeL T F)) F i := by
  have hf0 : fitsF T.size ((0 : Nat) : Int) F = true := by unfold fits at hf; rw [Bool.and_eq_true] at hf; exact hf.2
  have hfb := fits_big (by omega) hf
  have hok : ∀ j : Nat, j ≤ T.size → movOk F (j : Int) = keptB (j : Int) F := fun j hj => by
    unfold movOk
    rw [hfb, decide_eq_true (by omega), decide_eq_true (p := (j : Int) ≤ far) (by unfold far; omega)]
    simp
  refine ⟨fun hk => ?_, fun hk => movE_no (by rw [hok i (by omega), hk])⟩
  obtain ⟨k, h1, h2, _⟩ := kept_same T (madeL T F) F 0 0 [] i (Nat.zero_le _) (by omega) hf0 rfl rfl hk
  have h2 := h2 hi
  have hs := textOf_size (madeL T F)
  rw [List.getElem?_eq_getElem (show i < T.data.toList.length from hi)] at h2
  obtain ⟨h3, h4⟩ := List.getElem?_eq_some_iff.1 h2
  refine ⟨k, by rw [hs]; exact h3, hi, ?_, ?_, ?_⟩
  · rw [movE_yes (by rw [hok i (by omega), hk]), h1]
    exact movR (by omega)
  · have e : (textOf (madeL T F)).data = (madeL T F).toArray := rfl
    show (textOf (madeL T F)).data[k]'(by rw [e]; simpa using h3) = T.data[i]'hi
    have h5 : (textOf (madeL T F)).data[k]'(by rw [e]; simpa using h3) = (madeL T F)[k]'h3 := by simp [textOf]
    rw [h5, h4]
    simp
  · intro b hb q hkb hq
    have hm := mov_mono F 0 (i : Int) (b : Int) hf0 (by omega) hk
    by_cases hob : movOk F (b : Int) = true
    · rw [movE_yes hob] at hq
      injection hq with hq
      injection hq with hq
      have hq2 : (b : Int) + movD b F = q := by
        have := congrArg (fun a : Array Value => a[0]?) hq
        simpa using this
      omega
    · rw [movE_no (by simpa using hob)] at hq
      injection hq with hq
      injection hq with hq
      have := congrArg (fun a : Array Value => a[1]?) hq
      simp at this
theorem keep_end {T : ByteArray} {F : List Spl} (hT : T.size ≤ 1500) (hf : fits T.size F = true) : movE F (T.size : Int) = .returned (.tuple #[.int .i64 ((textOf (madeL T F)).size : Int), .bool true]) := by
  have hf0 : fitsF T.size ((0 : Nat) : Int) F = true := by unfold fits at hf; rw [Bool.and_eq_true] at hf; exact hf.2
  have hfb := fits_big (by omega) hf
  have hk := kept_end F _ hf0
  have hok : movOk F (T.size : Int) = true := by
    unfold movOk
    rw [hfb, hk, decide_eq_true (by omega), decide_eq_true (p := (T.size : Int) ≤ far) (by unfold far; omega)]
    rfl
  obtain ⟨k, h1, _, h3⟩ := kept_same T (madeL T F) F 0 0 [] T.size (Nat.zero_le _) (Nat.le_refl _) hf0 rfl rfl hk
  rw [movE_yes hok, textOf_size, ← h3 rfl, h1]
  exact movR (by omega)
theorem keep_cnt {T : ByteArray} {F : List Spl} (hf : fits T.size F = true) : (textOf (madeL T F)).size = cntK F 0 T.size + sumS F := by
  have hf0 : fitsF T.size ((0 : Nat) : Int) F = true := by unfold fits at hf; rw [Bool.and_eq_true] at hf; exact hf.2
  rw [textOf_size]
  exact made_cnt T F 0 (Nat.zero_le _) hf0
theorem sumS_drop (L : List Spl) (i : Nat) (x : Spl) (h : L[i]? = some x) : sumS (L.take (i + 1)) = sumS (L.take i) + x.s.size := by
  have key : ∀ (L : List Spl) (i : Nat) (x : Spl), L[i]? = some x → sumS (L.take (i + 1)) = sumS (L.take i) + x.s.size := by
    intro L
    induction L with
    | nil => intro i x h; simp at h
    | cons y L ih =>
      intro i x h
      cases i with
      | zero => obtain rfl : y = x := by simpa using h
                show y.s.size + sumS (List.take 0 L) = sumS [] + y.s.size
                simp [sumS]
      | succ i =>
        have := ih i x (by simpa using h)
        show y.s.size + sumS (List.take (i + 1) L) = (y.s.size + sumS (List.take i L)) + x.s.size
        omega
  exact key L i x h
theorem sumS_take (m : Nat) (L : List Spl) (i : Nat) (h : ∀ x ∈ L, x.s.size ≤ m) (hi : i ≤ L.length) : sumS (L.take i) ≤ m * i := by
  have := sumS_le m (L.take i) (fun x hx => h x (List.mem_of_mem_take hx))
  rw [List.length_take, Nat.min_eq_left hi] at this
  exact this
set_option maxRecDepth 100000 in
set_option maxHeartbeats 4000000 in
theorem editsKeeps_walk (text : ByteArray) (A : Option Addr) (L : List Spl) (c : Nat) (w : World) (hT : text.size ≤ maxLen) (hS : SR w A L) (hL : inL L) :
    Calls Try.prog 9 #[.string text, .slice A L.length c] w fun e w' => e = .returned (.bool true) ∧ Below w.heap.size w w' := by
  have HF := Lib.hid (few_any A L c (fun x hx => (hL x hx).2) w hS)
  have HC := Lib.hid (cut_any text hT w)
  have ht := cutS_le 1500 text
  have hn := fewL_len L
  have hx := few_size (L := L)
  have hok := few_ok hL
  unfold FewEnd at HF
  generalize fewL L = F at *
  generalize cutS 1500 text = T at *
  have hlim := few_lim ht hn hx
  have hfe := few_fault ht hn hx
  have HA := Lib.hid (fun A c W h => apply_any T A F c hlim W h)
  have HM := Lib.hid (fun p A c W h => moved_any p A F c (by omega) hok W h)
  have HW := Lib.hid awake_any
  rw [hfe] at HA
  by_cases hf : fits T.size F = true
  · have HKA := Lib.hid (keep_at ht hf)
    have HEND := Lib.hid (keep_end ht hf)
    have HCNT := Lib.hid (keep_cnt hf)
    have HSM := Lib.hid hx
    have hap : applyS T F = textOf (madeL T F) := by unfold applyS; rw [hfe, hf]; rfl
    rw [hap, hf] at HA
    unfold chkE at HA
    have hml : (textOf (madeL T F)).size ≤ 10500 := by rw [textOf_size]; exact few_made ht hn hx hf
    generalize textOf (madeL T F) = M at *
    clear hap hf hfe hlim hx hL hS hT hok
    go_enter Try.func9, Try.ntmps9
    go_wp2_with fail
    refine HC.out.mono ?_
    rintro e w' ⟨rfl, rfl⟩
    go_wp2_with fail
    refine HF.out.mono ?_
    rintro e w1 ⟨v1, rfl, ho1, hb1⟩
    obtain ⟨A1, c1, rfl, hr1⟩ := ho1.reads
    have HR1 := Lib.hid hr1
    have HB1 := Lib.hid hb1
    clear ho1 hr1 hb1 HF HC
    go_wp2_with fail
    refine (HA.out _ _ _ HR1.out).mono ?_
    rintro e w2 ⟨rfl, hb2⟩
    have HR2 := Lib.hid (HR1.out.keep hb2)
    have HB2 := Lib.hid (HB1.out.trans (hb2.mono HB1.out.size))
    clear hb2 HB1 HR1 HA
    go_wp2_with fail
    go_loopw [7, 8, 9] (fun u v k wr => ∃ (i : Nat) (z : Int), u = .int .i64 z ∧ v = .int .i64 (cntK F 0 i : Int) ∧ k = .int .i64 (i : Int) ∧ i ≤ T.size ∧ -1 ≤ z ∧ z ≤ 1000000 ∧ Hid (∀ b : Nat, i ≤ b → ∀ q : Int, 0 ≤ q → keptB (b : Int) F = true → movE F (b : Int) = .returned (.tuple #[.int .i64 q, .bool true]) → z < q) ∧ Hid (Below w2.heap.size w2 wr)) (fun _ _ k _ => T.size - (intOf k).toNat)
    case atStart => exact ⟨0, -1, rfl, by rfl, rfl, Nat.zero_le _, Int.le_refl _, by omega, Lib.hid (fun b _ q hq _ _ => by omega), Lib.hid (Below.refl _ _)⟩
    case round =>
      obtain ⟨i, z, rfl, rfl, rfl, hi, hz1, hz2, HQ, hb⟩ := hrel
      have hcl := cntK_le F 0 i
      have hcs := cntK_succ F i
      by_cases hlt : i < T.size
      · have q : decide ((i : Int) < (T.size : Int)) = true := by simpa using hlt
        have HK := Lib.hid (HKA.out i hlt)
        have HMi := HM.out (i : Int) A1 c1 wr (HR2.out.keep hb.out)
        cases hk : keptB (i : Int) F with
        | false =>
          have hno := HK.out.no hk
          rw [hno] at HMi
          rw [hk, if_neg (by simp), Nat.add_zero] at hcs
          have HMH := Lib.hid HMi
          have HQ2 : Hid (∀ b : Nat, i + 1 ≤ b → ∀ q : Int, 0 ≤ q → keptB (b : Int) F = true → movE F (b : Int) = .returned (.tuple #[.int .i64 q, .bool true]) → z < q) := Lib.hid (fun b hb => HQ.out b (by omega))
          have HCS := Lib.hid hcs
          clear hno hk hcs HMi HK HQ
          go_wp2_with fail
          refine HMH.out.mono ?_
          rintro e w3 ⟨rfl, hb3⟩
          have HB3 := Lib.hid (hb.out.trans (hb3.mono hb.out.size))
          clear hb3
          go_wp2_with fail
          go_roundw
          case rel => exact ⟨i + 1, z, rfl, by rw [HCS.out]; rfl, by go_num, by omega, hz1, hz2, HQ2, HB3⟩
          case measure => simp [intOf]; omega
        | true =>
          obtain ⟨k, h1, h2, h3, h4, h5⟩ := HK.out.yes hk
          rw [h3] at HMi
          rw [hk, if_pos rfl] at hcs
          have hzk := HQ.out i (Nat.le_refl _) (k : Int) (by omega) hk h3
          have HMH := Lib.hid HMi
          have HCS := Lib.hid hcs
          have HQ2 : Hid (∀ b : Nat, i + 1 ≤ b → ∀ q : Int, 0 ≤ q → keptB (b : Int) F = true → movE F (b : Int) = .returned (.tuple #[.int .i64 q, .bool true]) → (k : Int) < q) := Lib.hid (fun b hb q _ hk he => h5 b (by omega) q hk he)
          obtain ⟨ch, hch⟩ : ∃ ch, T[i]'h2 = ch := ⟨_, rfl⟩
          rw [hch] at h4
          have e1 : decide ((k : Int) ≤ z) = false := by simp; omega
          have e2 : decide ((M.size : Int) ≤ (k : Int)) = false := by simp; omega
          have e3 : decide (M.size ≤ k) = false := by simp; omega
          have e4 : (k : Int) < (M.size : Int) := by omega
          have e5 : (i : Int) < (T.size : Int) := by omega
          clear hk hcs HMi HK HQ h3 h5
          go_wp2_with fail
          refine HMH.out.mono ?_
          rintro e w3 ⟨rfl, hb3⟩
          have HB3 := Lib.hid (hb.out.trans (hb3.mono hb.out.size))
          clear hb3
          go_wp2_with fail
          go_quiet (fail)
          go_wp2_with fail
          go_roundw
          case rel => exact ⟨i + 1, k, rfl, by rw [HCS.out]; go_num, by go_num, by omega, by omega, by omega, HQ2, Lib.hid (drewN_below HB3.out _)⟩
          case measure => simp [intOf]; omega
      · obtain rfl : i = T.size := by omega
        have q : decide ((T.size : Int) < (T.size : Int)) = false := by simp
        have HR3 := Lib.hid (HR2.out.keep hb.out)
        have HB3 := Lib.hid (HB2.out.trans (hb.out.mono HB2.out.size))
        obtain ⟨C, hC⟩ : ∃ C, cntK F 0 T.size = C := ⟨_, rfl⟩
        have HCNT2 := HCNT
        rw [hC] at hcl HCNT2 ⊢
        clear HQ hb hcs HKA HR2 HB2 hC HCNT
        go_wp2_with fail
        go_loop [8, 12] (fun v k => ∃ i : Nat, v = .int .i64 ((C + sumS (F.take i) : Nat) : Int) ∧ k = .int .i64 (i : Int) ∧ i ≤ F.length) (fun _ k => F.length - (intOf k).toNat)
        case atStart => exact ⟨0, by simp [sumS], rfl, Nat.zero_le _⟩
        case round =>
          obtain ⟨i, rfl, rfl, hi2⟩ := hrel
          have hsl := sumS_take 300 F i HSM.out hi2
          by_cases hlt2 : i < F.length
          · obtain ⟨x, hx⟩ : ∃ x, F[i]? = some x := ⟨_, List.getElem?_eq_getElem hlt2⟩
            obtain ⟨b, o, rfl, c0, c1', c2⟩ := HR3.out.at hx
            have hxs : x.s.size ≤ 300 := HSM.out x (List.mem_of_getElem? hx)
            have HS2 := Lib.hid (sumS_drop F i x hx)
            clear hx c0 c1'
            generalize sumS (F.take i) = su at *
            go_wp2_with fail
            go_round
            case rel => exact ⟨i + 1, by rw [HS2.out]; go_num, by go_num, by omega⟩
            case measure => simp [intOf]; omega
          · obtain rfl : i = F.length := by omega
            have hall : F.take F.length = F := List.take_of_length_le (Nat.le_refl _)
            rw [hall] at hsl ⊢
            have HCN : Hid (C + sumS F = M.size) := Lib.hid HCNT2.out.symm
            have HMH := Lib.hid (HM.out (T.size : Int) A1 c1 wr HR3.out)
            rw [HEND.out] at HMH
            rw [HCN.out]
            clear hall hsl HCNT2 HCN
            go_wp2_with fail
            refine HMH.out.mono ?_
            rintro e w4 ⟨rfl, hb4⟩
            have HB4 := Lib.hid (HB3.out.trans (hb4.mono HB3.out.size))
            clear hb4 HMH
            go_wp2_with fail
            refine (HW.out _).mono ?_
            rintro e w5 ⟨rfl, hb5⟩
            have HB5 := Lib.hid (HB4.out.trans (hb5.mono HB4.out.size))
            clear hb5
            go_wp2_with fail
            go_ret
            exact ⟨rfl, HB5.out⟩
  · have hf' : fits T.size F = false := by simpa using hf
    have hap : applyS T F = ⟨#[]⟩ := by unfold applyS; rw [hfe, hf']; rfl
    rw [hap, hf'] at HA
    unfold chkE at HA
    clear hap hf hf' hfe hlim hx ht hL hS hT hok HM
    go_enter Try.func9, Try.ntmps9
    go_wp2_with fail
    refine HC.out.mono ?_
    rintro e w' ⟨rfl, rfl⟩
    go_wp2_with fail
    refine HF.out.mono ?_
    rintro e w1 ⟨v1, rfl, ho1, hb1⟩
    obtain ⟨A1, c1, rfl, hr1⟩ := ho1.reads
    have HR1 := Lib.hid hr1
    have HB1 := Lib.hid hb1
    clear ho1 hr1 hb1 HF HC
    go_wp2_with fail
    refine (HA.out _ _ _ HR1.out).mono ?_
    rintro e w2 ⟨rfl, hb2⟩
    have HB2 := Lib.hid (HB1.out.trans (hb2.mono HB1.out.size))
    clear hb2 HB1 HR1 HA
    go_wp2_with fail
    refine (HW.out _).mono ?_
    rintro e w6 ⟨rfl, hb6⟩
    have HB6 := Lib.hid (HB2.out.trans (hb6.mono HB2.out.size))
    clear hb6 HB2
    go_wp2_with fail
    go_ret
    exact ⟨rfl, HB6.out⟩
end Go.Proofs.Ytlgjlfljohapfaa
