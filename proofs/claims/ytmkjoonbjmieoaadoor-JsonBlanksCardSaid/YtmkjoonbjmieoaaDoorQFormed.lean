/-
  json's isNumber AT EVERY TEXT of at most 1000000 bytes: whether it is one token, a number, whole. Conditions: the text's length; the variables that are read hold what their text lays (Facts).
-/
import Derived.Test.YtmkjoonbjmieoaaDoorQParse
namespace Go.Proofs.YtmkjoonbjmieoaaDoor
open Go.RowKit

/-- Are tokens one number, this text? -/
def isNumT (l : List UInt8) : List Tok → Bool
  | [t] => ((t.1 : Int) == 3) && ((txt t.2.1).toList == l)
  | _ => false
/-- Is a text a number, without blanks around it? -/
def isNumL (l : List UInt8) : Bool :=
  match tokensR l with
  | .ok ts => isNumT l ts
  | .error _ => false
set_option maxRecDepth 100000 in
set_option maxHeartbeats 1000000 in
theorem isNumber_any (s : ByteArray) (hs : s.size ≤ 1000000) (w : World) (hF : Facts w) : Calls Tryd.prog 54 #[.string s] w fun e w' => e = .returned (.bool (isNumL s.data.toList)) ∧ Below w.heap.size w w' := by
  cases hR : tokensR s.data.toList with
  | error y =>
    obtain ⟨k, e0⟩ := y
    have HT := Lib.hid (tokens_no s hs k e0 hR w hF)
    obtain ⟨_, he⟩ := tokensR_err hR
    have hne : ((e0 : Int) == 0) = false := by simp; omega
    have HN : isNumL s.data.toList = false := by unfold isNumL; rw [hR]
    rw [HN]
    clear hR he hF HN
    go_enter Tryd.func54, Tryd.ntmps54
    go_wp2_with fail
    refine HT.out.mono ?_
    rintro e w1 ⟨A, cap, rfl, hb⟩
    have HB := Lib.hid hb
    clear hb
    go_wp2_with fail
    go_ret
    exact ⟨rfl, HB.out⟩
  | ok ts =>
    have HT := Lib.hid (tokens_ok2 s hs ts hR w hF)
    obtain ⟨RES, hRES⟩ : ∃ r, r = isNumL s.data.toList := ⟨_, rfl⟩
    rw [← hRES]
    have HS := Lib.hid (show isNumL s.data.toList = isNumT s.toList ts by rw [Lib.toList_data]; unfold isNumL; rw [hR])
    have hsm := (tokensR_tb hR hs).1
    rw [← hRES] at HS
    clear hR hF hRES
    match ts, HT, HS, hsm with
    | [], HT, HS, hsm =>
      obtain rfl : RES = false := HS.out
      go_enter Tryd.func54, Tryd.ntmps54
      go_wp2_with fail
      refine HT.out.mono ?_
      rintro e w1 ⟨A, cap, rfl, hr, hb, _, _⟩
      have HB := Lib.hid hb
      clear hb hr
      go_wp2_with fail
      go_ret
      exact ⟨rfl, HB.out⟩
    | a :: b :: rest, HT, HS, hsm =>
      obtain rfl : RES = false := HS.out
      obtain ⟨n, hn⟩ : ∃ n, n = (a :: b :: rest).length := ⟨_, rfl⟩
      have h2 : 2 ≤ n := by rw [hn]; simp
      have hn1 : ((n : Int) == 1) = false := by simp; omega
      rw [← hn] at HT hsm
      clear hn
      go_enter Tryd.func54, Tryd.ntmps54
      go_wp2_with fail
      refine HT.out.mono ?_
      rintro e w1 ⟨A, cap, rfl, hr, hb, _, _⟩
      have HB := Lib.hid hb
      clear hb hr
      go_wp2_with fail
      go_ret
      exact ⟨rfl, HB.out⟩
    | [t], HT, HS, hsm =>
      obtain ⟨q, x, a, b⟩ := t
      have HS' : Hid (RES = (((q : Int) == 3) && ((txt x).toList == s.toList))) := HS
      clear HS hsm
      go_enter Tryd.func54, Tryd.ntmps54
      go_wp2_with fail
      refine HT.out.mono ?_
      rintro e w1 ⟨A, cap, rfl, hr, hb, _, _⟩
      have HB := Lib.hid hb
      obtain ⟨g, rfl, hc⟩ := hr (by simp)
      obtain ⟨a0, a1, a2, a3⟩ := hc 0 _ rfl
      simp only [Nat.zero_mul, Nat.zero_add] at a0 a1 a2 a3
      clear hb hr hc
      generalize txt x = X at *
      by_cases hq : ((q : Int) == 3) = true
      · rw [hq, Bool.true_and] at HS'
        go_wp2_with fail
        go_ret
        refine ⟨?_, HB.out⟩
        rw [HS'.out]; rfl
      · have hq2 : ((q : Int) == 3) = false := by simpa using hq
        rw [hq2, Bool.false_and] at HS'
        go_wp2_with fail
        go_ret
        refine ⟨?_, HB.out⟩
        rw [HS'.out]; rfl
/-- Has a value of this kind, with this text and so many keys and items, what its kind names, and nothing else? -/
def formedB (k : Int) (s : ByteArray) (nk ni : Nat) : Bool :=
  if k = 0 ∨ k = 1 ∨ k = 2 then (s.toList.isEmpty) && (((nk : Int) == 0) && ((ni : Int) == 0))
  else if k = 3 then isNumL s.data.toList && (((nk : Int) == 0) && ((ni : Int) == 0))
  else if k = 4 then ((nk : Int) == 0) && ((ni : Int) == 0)
  else if k = 5 then (s.toList.isEmpty) && ((nk : Int) == 0)
  else if k = 6 then (s.toList.isEmpty) && ((nk : Int) == ni)
  else false
set_option maxRecDepth 100000 in
set_option maxHeartbeats 1000000 in
theorem isFormed_any (k : Int) (s : ByteArray) (A B : Option Addr) (nk ni c d : Nat) (hs : s.size ≤ 1000000) (w : World) (hF : Facts w) :
    Calls Tryd.prog 37 #[.agg #[.int .i64 k, .string s, .slice A nk c, .slice B ni d]] w fun e w' => e = .returned (.bool (formedB k s nk ni)) ∧ Below w.heap.size w w' := by
  obtain ⟨RES, hRES⟩ : ∃ r, r = formedB k s nk ni := ⟨_, rfl⟩
  rw [← hRES]
  unfold formedB at hRES
  have HB0 := Lib.hid (alloc_below w (.cells #[.int .i64 k, .string s, .slice A nk c, .slice B ni d] 26))
  have HN := Lib.hid (isNumber_any s hs _ (hF.below HB0.out))
  generalize isNumL s.data.toList = N at *
  clear hF
  by_cases k0 : k = 0
  · subst k0
    rw [if_pos (by decide)] at hRES
    clear HN
    by_cases h3 : (s.toList.isEmpty) = true
    · rw [h3, Bool.true_and] at hRES
      by_cases h2 : ((nk : Int) == 0) = true
      · rw [h2, Bool.true_and] at hRES
        by_cases h1 : ((ni : Int) == 0) = true
        · rw [h1] at hRES
          subst hRES
          go_enter Tryd.func37, Tryd.ntmps37
          go_wp2_with fail
          go_ret
          exact ⟨rfl, HB0.out⟩
        · have h1f : ((ni : Int) == 0) = false := by simpa using h1
          rw [h1f] at hRES
          subst hRES
          clear h1
          go_enter Tryd.func37, Tryd.ntmps37
          go_wp2_with fail
          go_ret
          exact ⟨rfl, HB0.out⟩
      · have h2f : ((nk : Int) == 0) = false := by simpa using h2
        rw [h2f, Bool.false_and] at hRES
        subst hRES
        clear h2
        go_enter Tryd.func37, Tryd.ntmps37
        go_wp2_with fail
        go_ret
        exact ⟨rfl, HB0.out⟩
    · have h3f : (s.toList.isEmpty) = false := by simpa using h3
      rw [h3f, Bool.false_and] at hRES
      subst hRES
      clear h3
      go_enter Tryd.func37, Tryd.ntmps37
      go_wp2_with fail
      go_ret
      exact ⟨rfl, HB0.out⟩
  by_cases k1 : k = 1
  · subst k1
    rw [if_pos (by decide)] at hRES
    clear HN
    by_cases h3 : (s.toList.isEmpty) = true
    · rw [h3, Bool.true_and] at hRES
      by_cases h2 : ((nk : Int) == 0) = true
      · rw [h2, Bool.true_and] at hRES
        by_cases h1 : ((ni : Int) == 0) = true
        · rw [h1] at hRES
          subst hRES
          go_enter Tryd.func37, Tryd.ntmps37
          go_wp2_with fail
          go_ret
          exact ⟨rfl, HB0.out⟩
        · have h1f : ((ni : Int) == 0) = false := by simpa using h1
          rw [h1f] at hRES
          subst hRES
          clear h1
          go_enter Tryd.func37, Tryd.ntmps37
          go_wp2_with fail
          go_ret
          exact ⟨rfl, HB0.out⟩
      · have h2f : ((nk : Int) == 0) = false := by simpa using h2
        rw [h2f, Bool.false_and] at hRES
        subst hRES
        clear h2
        go_enter Tryd.func37, Tryd.ntmps37
        go_wp2_with fail
        go_ret
        exact ⟨rfl, HB0.out⟩
    · have h3f : (s.toList.isEmpty) = false := by simpa using h3
      rw [h3f, Bool.false_and] at hRES
      subst hRES
      clear h3
      go_enter Tryd.func37, Tryd.ntmps37
      go_wp2_with fail
      go_ret
      exact ⟨rfl, HB0.out⟩
  by_cases k2 : k = 2
  · subst k2
    rw [if_pos (by decide)] at hRES
    clear HN
    by_cases h3 : (s.toList.isEmpty) = true
    · rw [h3, Bool.true_and] at hRES
      by_cases h2 : ((nk : Int) == 0) = true
      · rw [h2, Bool.true_and] at hRES
        by_cases h1 : ((ni : Int) == 0) = true
        · rw [h1] at hRES
          subst hRES
          go_enter Tryd.func37, Tryd.ntmps37
          go_wp2_with fail
          go_ret
          exact ⟨rfl, HB0.out⟩
        · have h1f : ((ni : Int) == 0) = false := by simpa using h1
          rw [h1f] at hRES
          subst hRES
          clear h1
          go_enter Tryd.func37, Tryd.ntmps37
          go_wp2_with fail
          go_ret
          exact ⟨rfl, HB0.out⟩
      · have h2f : ((nk : Int) == 0) = false := by simpa using h2
        rw [h2f, Bool.false_and] at hRES
        subst hRES
        clear h2
        go_enter Tryd.func37, Tryd.ntmps37
        go_wp2_with fail
        go_ret
        exact ⟨rfl, HB0.out⟩
    · have h3f : (s.toList.isEmpty) = false := by simpa using h3
      rw [h3f, Bool.false_and] at hRES
      subst hRES
      clear h3
      go_enter Tryd.func37, Tryd.ntmps37
      go_wp2_with fail
      go_ret
      exact ⟨rfl, HB0.out⟩
  by_cases k3 : k = 3
  · subst k3
    rw [if_neg (by decide), if_pos rfl] at hRES
    cases N with
    | false =>
      rw [Bool.false_and] at hRES
      subst hRES
      go_enter Tryd.func37, Tryd.ntmps37
      go_wp2_with fail
      refine HN.out.mono ?_
      rintro e w1 ⟨rfl, hb⟩
      have HB1 := Lib.hid (HB0.out.trans (hb.mono HB0.out.size))
      obtain ⟨c0, c1, c2, c3⟩ := tok_cells (heap_keep hb (alloc_top w _ _))
      clear hb
      go_wp2_with fail
      go_ret
      exact ⟨rfl, HB1.out⟩
    | true =>
      rw [Bool.true_and] at hRES
      by_cases h2 : ((nk : Int) == 0) = true
      · rw [h2, Bool.true_and] at hRES
        by_cases h1 : ((ni : Int) == 0) = true
        · rw [h1] at hRES
          subst hRES
          go_enter Tryd.func37, Tryd.ntmps37
          go_wp2_with fail
          refine HN.out.mono ?_
          rintro e w1 ⟨rfl, hb⟩
          have HB1 := Lib.hid (HB0.out.trans (hb.mono HB0.out.size))
          obtain ⟨c0, c1, c2, c3⟩ := tok_cells (heap_keep hb (alloc_top w _ _))
          clear hb
          go_wp2_with fail
          go_ret
          exact ⟨rfl, HB1.out⟩
        · have h1f : ((ni : Int) == 0) = false := by simpa using h1
          rw [h1f] at hRES
          subst hRES
          clear h1
          go_enter Tryd.func37, Tryd.ntmps37
          go_wp2_with fail
          refine HN.out.mono ?_
          rintro e w1 ⟨rfl, hb⟩
          have HB1 := Lib.hid (HB0.out.trans (hb.mono HB0.out.size))
          obtain ⟨c0, c1, c2, c3⟩ := tok_cells (heap_keep hb (alloc_top w _ _))
          clear hb
          go_wp2_with fail
          go_ret
          exact ⟨rfl, HB1.out⟩
      · have h2f : ((nk : Int) == 0) = false := by simpa using h2
        rw [h2f, Bool.false_and] at hRES
        subst hRES
        clear h2
        go_enter Tryd.func37, Tryd.ntmps37
        go_wp2_with fail
        refine HN.out.mono ?_
        rintro e w1 ⟨rfl, hb⟩
        have HB1 := Lib.hid (HB0.out.trans (hb.mono HB0.out.size))
        obtain ⟨c0, c1, c2, c3⟩ := tok_cells (heap_keep hb (alloc_top w _ _))
        clear hb
        go_wp2_with fail
        go_ret
        exact ⟨rfl, HB1.out⟩
  by_cases k4 : k = 4
  · subst k4
    rw [if_neg (by decide), if_neg (by decide), if_pos rfl] at hRES
    clear HN
    by_cases h2 : ((nk : Int) == 0) = true
    · rw [h2, Bool.true_and] at hRES
      by_cases h1 : ((ni : Int) == 0) = true
      · rw [h1] at hRES
        subst hRES
        go_enter Tryd.func37, Tryd.ntmps37
        go_wp2_with fail
        go_ret
        exact ⟨rfl, HB0.out⟩
      · have h1f : ((ni : Int) == 0) = false := by simpa using h1
        rw [h1f] at hRES
        subst hRES
        clear h1
        go_enter Tryd.func37, Tryd.ntmps37
        go_wp2_with fail
        go_ret
        exact ⟨rfl, HB0.out⟩
    · have h2f : ((nk : Int) == 0) = false := by simpa using h2
      rw [h2f, Bool.false_and] at hRES
      subst hRES
      clear h2
      go_enter Tryd.func37, Tryd.ntmps37
      go_wp2_with fail
      go_ret
      exact ⟨rfl, HB0.out⟩
  by_cases k5 : k = 5
  · subst k5
    rw [if_neg (by decide), if_neg (by decide), if_neg (by decide), if_pos rfl] at hRES
    clear HN
    by_cases h2 : (s.toList.isEmpty) = true
    · rw [h2, Bool.true_and] at hRES
      by_cases h1 : ((nk : Int) == 0) = true
      · rw [h1] at hRES
        subst hRES
        go_enter Tryd.func37, Tryd.ntmps37
        go_wp2_with fail
        go_ret
        exact ⟨rfl, HB0.out⟩
      · have h1f : ((nk : Int) == 0) = false := by simpa using h1
        rw [h1f] at hRES
        subst hRES
        clear h1
        go_enter Tryd.func37, Tryd.ntmps37
        go_wp2_with fail
        go_ret
        exact ⟨rfl, HB0.out⟩
    · have h2f : (s.toList.isEmpty) = false := by simpa using h2
      rw [h2f, Bool.false_and] at hRES
      subst hRES
      clear h2
      go_enter Tryd.func37, Tryd.ntmps37
      go_wp2_with fail
      go_ret
      exact ⟨rfl, HB0.out⟩
  by_cases k6 : k = 6
  · subst k6
    rw [if_neg (by decide), if_neg (by decide), if_neg (by decide), if_neg (by decide), if_pos rfl] at hRES
    clear HN
    by_cases h2 : (s.toList.isEmpty) = true
    · rw [h2, Bool.true_and] at hRES
      by_cases h1 : ((nk : Int) == ni) = true
      · rw [h1] at hRES
        subst hRES
        go_enter Tryd.func37, Tryd.ntmps37
        go_wp2_with fail
        go_ret
        exact ⟨rfl, HB0.out⟩
      · have h1f : ((nk : Int) == ni) = false := by simpa using h1
        rw [h1f] at hRES
        subst hRES
        clear h1
        go_enter Tryd.func37, Tryd.ntmps37
        go_wp2_with fail
        go_ret
        exact ⟨rfl, HB0.out⟩
    · have h2f : (s.toList.isEmpty) = false := by simpa using h2
      rw [h2f, Bool.false_and] at hRES
      subst hRES
      clear h2
      go_enter Tryd.func37, Tryd.ntmps37
      go_wp2_with fail
      go_ret
      exact ⟨rfl, HB0.out⟩
  rw [if_neg (by omega), if_neg (by omega), if_neg (by omega), if_neg (by omega), if_neg (by omega)] at hRES
  subst hRES
  have q0 : (k == 0) = false := by simpa using k0
  have q1 : (k == 1) = false := by simpa using k1
  have q2 : (k == 2) = false := by simpa using k2
  have q3 : (k == 3) = false := by simpa using k3
  have q4 : (k == 4) = false := by simpa using k4
  have q5 : (k == 5) = false := by simpa using k5
  have q6 : (k == 6) = false := by simpa using k6
  clear HN k0 k1 k2 k3 k4 k5 k6
  go_enter Tryd.func37, Tryd.ntmps37
  go_wp2_with fail
  go_ret
  exact ⟨rfl, HB0.out⟩
end Go.Proofs.YtmkjoonbjmieoaaDoor
