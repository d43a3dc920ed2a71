/-
  The document's own reader of frames: the number that a value says. No memory turns. Conditions: the texts' lengths.
-/
import Derived.Test.YtmaihiklcdidbaaDoorRefA
namespace Go.Proofs.YtmaihiklcdidbaaDoor
open Go.RowKit

theorem numP_def (v d : List UInt8) (h : v.dropWhile (· == 32) = d) : numP v = if d.length ≤ 18 ∧ d ≠ [] ∧ d.all isDig = true then some (decA 0 d) else none := by
  subst h; rfl
set_option maxRecDepth 100000 in
set_option maxHeartbeats 1000000 in
theorem number_any (s : ByteArray) (hs : s.size ≤ 1000000000) (w : World) : Calls Tryd.prog 35 #[.string s] w fun e w' => e = .returned (.int .i64 (intO (numP s.data.toList))) ∧ w = w' := by
  have hget := fun i h => Lib.data_getElem? s i h
  obtain ⟨l, hl⟩ : ∃ l, l = s.data.toList := ⟨_, rfl⟩
  have hsl : s.size = l.length := by rw [hl]; exact Lib.size_eq s
  obtain ⟨d, hd⟩ : ∃ d, l.dropWhile (· == 32) = d := ⟨_, rfl⟩
  have hN := Lib.hid (numP_def l d hd)
  rw [← hl] at hget ⊢
  have HG := Lib.hid hget
  have HD := Lib.hid hd
  have HL := Lib.hid hsl
  clear hl hget hd hsl
  go_enter Tryd.func35, Tryd.ntmps35
  go_wp2_with fail
  go_loopw [3] (fun n wr => ∃ (i : Nat), n = .int .i64 (i : Int) ∧ i ≤ s.size ∧ wr = w ∧ Hid ((l.drop i).dropWhile (· == 32) = d)) (fun n _ => s.size - (intOf n).toNat)
  case atStart => exact ⟨0, rfl, by omega, rfl, Lib.hid (by rw [List.drop_zero]; exact HD.out)⟩
  case round =>
    obtain ⟨i, rfl, hi, rfl, hi2⟩ := hrel
    by_cases hi3 : i < s.size
    · have hisz : (i : Int) < (s.size : Int) := by omega
      obtain ⟨x, hx⟩ : ∃ x : UInt8, s[i]'(by omega) = x := ⟨_, rfl⟩
      have Hx := Lib.hid (HG.out i (by omega))
      rw [hx] at Hx
      have hdr := Lib.drop_at Hx.out
      by_cases h32 : x = 32
      · subst h32
        have HE : Hid ((l.drop (i + 1)).dropWhile (· == 32) = d) := Lib.hid (by
          have := hi2.out
          rw [hdr, List.dropWhile_cons_of_pos (by rfl)] at this
          exact this)
        clear hdr
        go_wp2_with fail
        refine ⟨⟨i + 1, by go_num, by omega, trivial, HE⟩, ?_⟩
        simp [intOf]
        omega
      · have h32' : ¬ (x.toNat : Int) = 32 := by
          intro h
          apply h32
          apply UInt8.toNat_inj.1
          show x.toNat = 32
          omega
        have HE : Hid (l.drop i = d) := Lib.hid (by
          have := hi2.out
          rw [hdr, List.dropWhile_cons_of_neg (by simpa using h32)] at this
          rw [hdr]
          exact this)
        have hdl : d.length = s.size - i := by rw [← HE.out, List.length_drop, HL.out]
        have hine : ¬ (i : Int) = (s.size : Int) := by omega
        clear hdr h32 hi2
        by_cases h18 : s.size - i ≤ 18
        · have h18' : ¬ (18 : Int) < (s.size : Int) - (i : Int) := by omega
          have hx' := hx
          clear hx
          go_wp2_with fail
          go_loopw [3, 4] (fun n m wq => ∃ (k a e : Nat), n = .int .i64 (k : Int) ∧ m = .int .i64 (a : Int) ∧ k ≤ s.size ∧ wq = wr ∧ a < 10 ^ e ∧ e + (s.size - k) ≤ 18 ∧ Hid (decA a (l.drop k) = decA 0 d) ∧ Hid ((l.drop k).all isDig = d.all isDig)) (fun n _ _ => s.size - (intOf n).toNat)
          case atStart => exact ⟨i, 0, 0, rfl, rfl, by omega, rfl, by omega, by omega, Lib.hid (by rw [HE.out]), Lib.hid (by rw [HE.out])⟩
          case round =>
            obtain ⟨k, a, e, rfl, rfl, hk, rfl, ha, he, hk2, hk3⟩ := hrel
            by_cases hk4 : k < s.size
            · have hksz : (k : Int) < (s.size : Int) := by omega
              obtain ⟨y, hy⟩ : ∃ y : UInt8, s[k]'(by omega) = y := ⟨_, rfl⟩
              have Hy := Lib.hid (HG.out k (by omega))
              rw [hy] at Hy
              have hdr := Lib.drop_at Hy.out
              have hae : a < 10 ^ 17 := Nat.lt_of_lt_of_le ha (Nat.pow_le_pow_right (by omega) (by omega))
              have hae' : a < 100000000000000000 := hae
              by_cases hyd : isDig y = true
              · have hy1 : 48 ≤ y.toNat ∧ y.toNat ≤ 57 := by
                  unfold isDig at hyd
                  simpa using hyd
                have hpe : 10 ^ (e + 1) = 10 ^ e * 10 := Nat.pow_succ 10 e
                have HA1 : Hid (decA (a * 10 + (y.toNat - 48)) (l.drop (k + 1)) = decA 0 d) := Lib.hid (by
                  have := hk2.out
                  rw [hdr, decA_cons] at this
                  exact this)
                have HA2 : Hid ((l.drop (k + 1)).all isDig = d.all isDig) := Lib.hid (by
                  have := hk3.out
                  rw [hdr, List.all_cons, hyd, Bool.true_and] at this
                  exact this)
                have hlt : a * 10 + (y.toNat - 48) < 10 ^ (e + 1) := by omega
                have HLT := Lib.hid hlt
                have HE2 := Lib.hid he
                have q1 : ¬ (y.toNat : Int) < 48 := by omega
                have q2 : ¬ (57 : Int) < (y.toNat : Int) := by omega
                obtain ⟨z, hz⟩ : ∃ z : Nat, y.toNat = 48 + z := ⟨y.toNat - 48, by omega⟩
                clear hdr hyd ha hae hpe hlt hk2 hk3 he
                go_wp2_with fail
                refine ⟨⟨k + 1, a * 10 + (y.toNat - 48), e + 1, by go_num, congrArg (Value.int .i64) (by omega), by omega, trivial, HLT.out, by have := HE2.out; omega, HA1, HA2⟩, ?_⟩
                simp [intOf]
                omega
              · have hq : (y.toNat : Int) < 48 ∨ ¬ (y.toNat : Int) < 48 ∧ (57 : Int) < (y.toNat : Int) := by
                  by_cases h1 : 48 ≤ y.toNat
                  · by_cases h2 : y.toNat ≤ 57
                    · exact absurd (by unfold isDig; simp [h1, h2]) hyd
                    · right; omega
                  · left; omega
                have HR : Hid (numP l = none) := Lib.hid (by
                  rw [hN.out, if_neg]
                  intro h
                  have := hk3.out
                  rw [hdr, List.all_cons, h.2.2, Bool.and_eq_true] at this
                  exact hyd this.1)
                clear hdr hyd ha hae hk2 hk3 he
                rcases hq with q1 | ⟨q1, q2⟩
                · go_wp2_with fail
                  go_ret
                  exact ⟨by rw [HR.out]; rfl, rfl⟩
                · go_wp2_with fail
                  go_ret
                  exact ⟨by rw [HR.out]; rfl, rfl⟩
            · have hksz : ¬ (k : Int) < (s.size : Int) := by omega
              obtain rfl : k = s.size := by omega
              have HR : Hid (numP l = some a) := Lib.hid (by
                have h1 := hk2.out
                have h2 := hk3.out
                rw [HL.out, List.drop_length] at h1 h2
                rw [hN.out, if_pos ⟨by omega, by intro h; rw [h] at hdl; simp at hdl; omega, h2.symm⟩, ← h1, decA_nil])
              clear hk2 hk3 ha he
              go_wp2_with fail
              go_ret
              exact ⟨by rw [HR.out]; rfl, rfl⟩
        · have h18' : (18 : Int) < (s.size : Int) - (i : Int) := by omega
          have HR : Hid (numP l = none) := Lib.hid (by rw [hN.out, if_neg (by omega)])
          clear hdl
          go_wp2_with fail
          go_ret
          exact ⟨by rw [HR.out]; rfl, rfl⟩
    · have hisz : ¬ (i : Int) < (s.size : Int) := by omega
      obtain rfl : i = s.size := by omega
      have HR : Hid (numP l = none) := Lib.hid (by
        have := hi2.out
        rw [HL.out, List.drop_length] at this
        rw [hN.out, if_neg (fun h => h.2.1 this.symm)])
      clear hi2
      go_wp2_with fail
      go_ret
      exact ⟨by rw [HR.out]; rfl, rfl⟩
end Go.Proofs.YtmaihiklcdidbaaDoor
