/- The parser's levelOf: how strongly an operator binds. -/
import Derived.Test.YtmlclgkhnekmnaaGreatDoorPFl
namespace Go.Proofs.YtmlclgkhnekmnaaGreatDoor
open Go.RowKit
set_option maxRecDepth 100000 in
set_option maxHeartbeats 2000000 in
theorem plevel_any (x : List UInt8) (w : World) : Calls Tryz.prog 224 #[.string (txt x)] w fun e w' => e = .returned (.int .i64 (levelB x : Int)) ∧ w = w' := by
 have hx := txt_list x
 obtain ⟨b0, h0⟩ : ∃ b, (x == mOr) = b := ⟨_, rfl⟩
 have g0 : ((txt x).toList == [124, 124]) = b0 := by rw [hx]; exact h0
 cases b0 with
 | true =>
  have HE : Hid (levelB x = 1) := Lib.hid (by unfold levelB; simp only [h0, if_true])
  clear hx h0
  generalize txt x = X at *
  go_enter Tryz.func224, Tryz.ntmps224
  go_wp2_with fail
  go_ret
  exact ⟨by rw [HE.out]; rfl, rfl⟩
 | false =>
  obtain ⟨b1, h1⟩ : ∃ b, (x == mAnd) = b := ⟨_, rfl⟩
  have g1 : ((txt x).toList == [38, 38]) = b1 := by rw [hx]; exact h1
  cases b1 with
  | true =>
   have HE : Hid (levelB x = 2) := Lib.hid (by unfold levelB; simp only [h0, h1, Bool.false_eq_true, if_false, if_true])
   clear hx h0 h1
   generalize txt x = X at *
   go_enter Tryz.func224, Tryz.ntmps224
   go_wp2_with fail
   go_ret
   exact ⟨by rw [HE.out]; rfl, rfl⟩
  | false =>
   obtain ⟨b2, h2⟩ : ∃ b, (x == mSame) = b := ⟨_, rfl⟩
   have g2 : ((txt x).toList == [61, 61]) = b2 := by rw [hx]; exact h2
   cases b2 with
   | true =>
    have HE : Hid (levelB x = 3) := Lib.hid (by unfold levelB; simp only [h0, h1, h2, Bool.false_eq_true, if_false, if_true])
    clear hx h0 h1 h2
    generalize txt x = X at *
    go_enter Tryz.func224, Tryz.ntmps224
    go_wp2_with fail
    go_ret
    exact ⟨by rw [HE.out]; rfl, rfl⟩
   | false =>
    obtain ⟨b3, h3⟩ : ∃ b, (x == mOther) = b := ⟨_, rfl⟩
    have g3 : ((txt x).toList == [33, 61]) = b3 := by rw [hx]; exact h3
    cases b3 with
    | true =>
     have HE : Hid (levelB x = 3) := Lib.hid (by unfold levelB; simp only [h0, h1, h2, h3, Bool.false_eq_true, if_false, if_true])
     clear hx h0 h1 h2 h3
     generalize txt x = X at *
     go_enter Tryz.func224, Tryz.ntmps224
     go_wp2_with fail
     go_ret
     exact ⟨by rw [HE.out]; rfl, rfl⟩
    | false =>
     obtain ⟨b4, h4⟩ : ∃ b, (x == mLess) = b := ⟨_, rfl⟩
     have g4 : ((txt x).toList == [60]) = b4 := by rw [hx]; exact h4
     cases b4 with
     | true =>
      have HE : Hid (levelB x = 3) := Lib.hid (by unfold levelB; simp only [h0, h1, h2, h3, h4, Bool.false_eq_true, if_false, if_true])
      clear hx h0 h1 h2 h3 h4
      generalize txt x = X at *
      go_enter Tryz.func224, Tryz.ntmps224
      go_wp2_with fail
      go_ret
      exact ⟨by rw [HE.out]; rfl, rfl⟩
     | false =>
      obtain ⟨b5, h5⟩ : ∃ b, (x == mLessEq) = b := ⟨_, rfl⟩
      have g5 : ((txt x).toList == [60, 61]) = b5 := by rw [hx]; exact h5
      cases b5 with
      | true =>
       have HE : Hid (levelB x = 3) := Lib.hid (by unfold levelB; simp only [h0, h1, h2, h3, h4, h5, Bool.false_eq_true, if_false, if_true])
       clear hx h0 h1 h2 h3 h4 h5
       generalize txt x = X at *
       go_enter Tryz.func224, Tryz.ntmps224
       go_wp2_with fail
       go_ret
       exact ⟨by rw [HE.out]; rfl, rfl⟩
      | false =>
       obtain ⟨b6, h6⟩ : ∃ b, (x == mMore) = b := ⟨_, rfl⟩
       have g6 : ((txt x).toList == [62]) = b6 := by rw [hx]; exact h6
       cases b6 with
       | true =>
        have HE : Hid (levelB x = 3) := Lib.hid (by unfold levelB; simp only [h0, h1, h2, h3, h4, h5, h6, Bool.false_eq_true, if_false, if_true])
        clear hx h0 h1 h2 h3 h4 h5 h6
        generalize txt x = X at *
        go_enter Tryz.func224, Tryz.ntmps224
        go_wp2_with fail
        go_ret
        exact ⟨by rw [HE.out]; rfl, rfl⟩
       | false =>
        obtain ⟨b7, h7⟩ : ∃ b, (x == mMoreEq) = b := ⟨_, rfl⟩
        have g7 : ((txt x).toList == [62, 61]) = b7 := by rw [hx]; exact h7
        cases b7 with
        | true =>
         have HE : Hid (levelB x = 3) := Lib.hid (by unfold levelB; simp only [h0, h1, h2, h3, h4, h5, h6, h7, Bool.false_eq_true, if_false, if_true])
         clear hx h0 h1 h2 h3 h4 h5 h6 h7
         generalize txt x = X at *
         go_enter Tryz.func224, Tryz.ntmps224
         go_wp2_with fail
         go_ret
         exact ⟨by rw [HE.out]; rfl, rfl⟩
        | false =>
         obtain ⟨b8, h8⟩ : ∃ b, (x == mPlus) = b := ⟨_, rfl⟩
         have g8 : ((txt x).toList == [43]) = b8 := by rw [hx]; exact h8
         cases b8 with
         | true =>
          have HE : Hid (levelB x = 4) := Lib.hid (by unfold levelB; simp only [h0, h1, h2, h3, h4, h5, h6, h7, h8, Bool.false_eq_true, if_false, if_true])
          clear hx h0 h1 h2 h3 h4 h5 h6 h7 h8
          generalize txt x = X at *
          go_enter Tryz.func224, Tryz.ntmps224
          go_wp2_with fail
          go_ret
          exact ⟨by rw [HE.out]; rfl, rfl⟩
         | false =>
          obtain ⟨b9, h9⟩ : ∃ b, (x == mMinus) = b := ⟨_, rfl⟩
          have g9 : ((txt x).toList == [45]) = b9 := by rw [hx]; exact h9
          cases b9 with
          | true =>
           have HE : Hid (levelB x = 4) := Lib.hid (by unfold levelB; simp only [h0, h1, h2, h3, h4, h5, h6, h7, h8, h9, Bool.false_eq_true, if_false, if_true])
           clear hx h0 h1 h2 h3 h4 h5 h6 h7 h8 h9
           generalize txt x = X at *
           go_enter Tryz.func224, Tryz.ntmps224
           go_wp2_with fail
           go_ret
           exact ⟨by rw [HE.out]; rfl, rfl⟩
          | false =>
           obtain ⟨b10, h10⟩ : ∃ b, (x == mTimes) = b := ⟨_, rfl⟩
           have g10 : ((txt x).toList == [42]) = b10 := by rw [hx]; exact h10
           cases b10 with
           | true =>
            have HE : Hid (levelB x = 5) := Lib.hid (by unfold levelB; simp only [h0, h1, h2, h3, h4, h5, h6, h7, h8, h9, h10, Bool.false_eq_true, if_false, if_true])
            clear hx h0 h1 h2 h3 h4 h5 h6 h7 h8 h9 h10
            generalize txt x = X at *
            go_enter Tryz.func224, Tryz.ntmps224
            go_wp2_with fail
            go_ret
            exact ⟨by rw [HE.out]; rfl, rfl⟩
           | false =>
            obtain ⟨b11, h11⟩ : ∃ b, (x == mOver) = b := ⟨_, rfl⟩
            have g11 : ((txt x).toList == [47]) = b11 := by rw [hx]; exact h11
            cases b11 with
            | true =>
             have HE : Hid (levelB x = 5) := Lib.hid (by unfold levelB; simp only [h0, h1, h2, h3, h4, h5, h6, h7, h8, h9, h10, h11, Bool.false_eq_true, if_false, if_true])
             clear hx h0 h1 h2 h3 h4 h5 h6 h7 h8 h9 h10 h11
             generalize txt x = X at *
             go_enter Tryz.func224, Tryz.ntmps224
             go_wp2_with fail
             go_ret
             exact ⟨by rw [HE.out]; rfl, rfl⟩
            | false =>
             obtain ⟨b12, h12⟩ : ∃ b, (x == mRest) = b := ⟨_, rfl⟩
             have g12 : ((txt x).toList == [37]) = b12 := by rw [hx]; exact h12
             cases b12 with
             | true =>
              have HE : Hid (levelB x = 5) := Lib.hid (by unfold levelB; simp only [h0, h1, h2, h3, h4, h5, h6, h7, h8, h9, h10, h11, h12, Bool.false_eq_true, if_false, if_true])
              clear hx h0 h1 h2 h3 h4 h5 h6 h7 h8 h9 h10 h11 h12
              generalize txt x = X at *
              go_enter Tryz.func224, Tryz.ntmps224
              go_wp2_with fail
              go_ret
              exact ⟨by rw [HE.out]; rfl, rfl⟩
             | false =>
              have HE : Hid (levelB x = 0) := Lib.hid (by unfold levelB; simp only [h0, h1, h2, h3, h4, h5, h6, h7, h8, h9, h10, h11, h12, Bool.false_eq_true, if_false])
              clear hx h0 h1 h2 h3 h4 h5 h6 h7 h8 h9 h10 h11 h12
              generalize txt x = X at *
              go_enter Tryz.func224, Tryz.ntmps224
              go_wp2_with fail
              go_ret
              exact ⟨by rw [HE.out]; rfl, rfl⟩
theorem ite_le5 {c : Prop} [Decidable c] {a b : Nat} (ha : a ≤ 5) (hb : b ≤ 5) : (if c then a else b) ≤ 5 := by
 by_cases h : c
 · rw [if_pos h]; exact ha
 · rw [if_neg h]; exact hb
theorem level_le (x : List UInt8) : levelB x ≤ 5 := (ite_le5 (by decide) (ite_le5 (by decide) (ite_le5 (by decide) (ite_le5 (by decide) (ite_le5 (by decide) (ite_le5 (by decide) (ite_le5 (by decide) (ite_le5 (by decide) (ite_le5 (by decide) (ite_le5 (by decide) (ite_le5 (by decide) (ite_le5 (by decide) (ite_le5 (by decide) (by decide))))))))))))))
end Go.Proofs.YtmlclgkhnekmnaaGreatDoor
