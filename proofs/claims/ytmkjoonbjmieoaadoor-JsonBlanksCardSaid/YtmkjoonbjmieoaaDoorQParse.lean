/-
  json's Parse AT EVERY TEXT of at most 1000000 bytes: the value that it says, in new memory, or why it says none; nothing that was there turns. Conditions: the text's length; the variables that are read hold what their text lays (Facts).
-/
import Derived.Test.YtmkjoonbjmieoaaDoorQOpen
import Derived.Test.YtmkjoonbjmieoaaDoorQPlain4
namespace Go.Proofs.YtmkjoonbjmieoaaDoor
open Go.RowKit

/-- What a text says, or why it says nothing. -/
def parseR (l : List UInt8) : Except Nat J :=
  match tokensR l with
  | .error (_, e) => .error e
  | .ok ts => if beyond 64 0 ts then .error 3 else
    match pv (2 * ts.length + 1) ts false with
    | none => .error 4
    | some (j, rest, tw) => if rest = [] then (if tw then .error 13 else .ok j) else .error 4
def zeroJ : Value := .agg #[.int .i64 0, .string ⟨#[]⟩, .slice none 0 0, .slice none 0 0]
/-- What Parse hands back. -/
def ParseEnd (l : List UInt8) (w : World) (e : Ending) (w' : World) : Prop :=
  match parseR l with
  | .error k => e = .returned (.tuple #[zeroJ, .int .i64 (k : Int)]) ∧ Below w.heap.size w w'
  | .ok j => ∃ v, e = .returned (.tuple #[v, .int .i64 0]) ∧ JIn w' (fun k => w.heap.size ≤ k) j v ∧ Below w.heap.size w w'
theorem pend_err {l : List UInt8} {w w' : World} {k : Nat} (h : parseR l = .error k) (hb : Below w.heap.size w w') : ParseEnd l w (.returned (.tuple #[zeroJ, .int .i64 (k : Int)])) w' := by
  unfold ParseEnd
  rw [h]
  exact ⟨rfl, hb⟩
theorem pend_ok {l : List UInt8} {w w' : World} {j : J} {v : Value} (h : parseR l = .ok j) (hj : JIn w' (fun k => w.heap.size ≤ k) j v) (hb : Below w.heap.size w w') : ParseEnd l w (.returned (.tuple #[v, .int .i64 0])) w' := by
  unfold ParseEnd
  rw [h]
  exact ⟨v, rfl, hj, hb⟩
theorem toksF_small : ∀ (f k : Nat) (l : List UInt8) (ts : List Tok), toksF f k l = .ok ts → ∀ t ∈ ts, t.2.1.length ≤ 4 * l.length
  | 0, _, _, ts, h, t, ht => by
    rw [toksF] at h
    obtain rfl : [] = ts := by injection h
    cases ht
  | f + 1, k, l, ts, h, t, ht => by
    rw [toksF] at h
    split at h
    · obtain rfl : [] = ts := by injection h
      cases ht
    · split at h
      · cases h
      · rename_i q x n hp
        have hl := tokP_len hp
        rw [List.length_drop] at hl
        split at h
        · rename_i ts2 h2
          obtain rfl : _ = ts := by injection h
          rcases List.mem_cons.1 ht with rfl | ht
          · show x.length ≤ _; omega
          · have := toksF_small f _ _ ts2 h2 t ht
            rw [List.length_drop] at this
            omega
        · cases h
theorem tokensR_tb {l : List UInt8} {ts : List Tok} (h : tokensR l = .ok ts) (hl : l.length ≤ 1000000) : TB ts := by
  have h1 := tiled_len _ _ _ (tokensR_tiled h)
  exact ⟨by omega, fun t ht => by have := toksF_small _ _ _ _ (tokensR_ok h).1 t ht; omega⟩
theorem tokens_ok2 (s : ByteArray) (hs : s.size ≤ 1000000) (ts : List Tok) (h : tokensR s.data.toList = .ok ts) (w : World) (hF : Facts w) : Calls Tryd.prog 13 #[.string s] w fun e w' => ∃ A cap, e = .returned (.tuple #[.slice A ts.length cap, .int .i64 0, .int .i64 0]) ∧ TReads w' A ts ∧ Below w.heap.size w w' ∧ ts.length ≤ cap ∧ cap ≤ maxLen := by
  refine (tokens_any s hs w hF).mono ?_
  rintro e w' ⟨v, rfl, ho, hb⟩
  rw [h] at ho ⊢
  obtain ⟨A, cap, rfl, hr⟩ := treads_of ho
  refine ⟨A, cap, rfl, hr, hb, ?_⟩
  rcases ho.2 with ⟨h1, h0⟩ | ⟨g, cap', cur, h1, _, _, h4, h5, _⟩
  · injection h1 with _ _ h1
    subst h1
    exact ⟨Nat.le_of_eq h0, by unfold maxLen; omega⟩
  · injection h1 with _ _ h1
    subst h1
    exact ⟨h4, h5⟩
/-- A reader that has just been made. -/
theorem rst_new {w : World} {A : Option Addr} {c : Nat} {ts : List Tok} (hr : TReads w A ts) (h1 : ts.length ≤ c) (h2 : c ≤ maxLen) (h3 : TB ts) :
    RSt (w.alloc (.cells #[.slice A ts.length c, .bool false] 46)) w.heap.size ts false := by
  have hk := treads_keep hr (alloc_below w (.cells #[.slice A ts.length c, .bool false] 46))
  refine ⟨A, c, alloc_top w _ _, h1, h2, fun hp => ?_, h3⟩
  obtain ⟨g, rfl, hc⟩ := hk hp
  obtain ⟨c0, _⟩ := (hr hp).choose_spec.2 0 _ (List.getElem?_eq_getElem hp)
  refine ⟨g, 0, rfl, ?_, fun i t ht => by simpa using hc i t ht⟩
  obtain ⟨g', hg', hc'⟩ := hr hp
  injection hg' with hg'
  injection hg' with hg'
  subst hg'
  obtain ⟨d0, _⟩ := hc' 0 _ (List.getElem?_eq_getElem hp)
  rcases Nat.lt_or_ge g w.heap.size with h | h
  · exact h
  · simp [World.cell?, Array.getElem?_eq_none h] at d0
theorem rst_cells {W : World} {R : Nat} {ts : List Tok} {tw : Bool} (h : RSt W R ts tw) : (∃ A c, W.cell? ⟨R, 0, none⟩ = some (.slice A ts.length c)) ∧ W.cell? ⟨R, 1, none⟩ = some (.bool tw) := by
  obtain ⟨A, c, hR, _⟩ := h
  exact ⟨⟨A, c, by rw [cell_at hR]; rfl⟩, by rw [cell_at hR]; rfl⟩
theorem below_set4 {B : Nat} {a b : World} (h : Below B a b) (v0 v1 v2 v3 : Value) : Below B a ((((b.setCell ⟨B, 0, none⟩ v0).setCell ⟨B, 1, none⟩ v1).setCell ⟨B, 2, none⟩ v2).setCell ⟨B, 3, none⟩ v3) :=
  (((h.setCell (Nat.le_refl _) _).setCell (Nat.le_refl _) _).setCell (Nat.le_refl _) _).setCell (Nat.le_refl _) _
set_option maxRecDepth 100000 in
set_option maxHeartbeats 1000000 in
theorem parse_any (s : ByteArray) (hs : s.size ≤ 1000000) (w : World) (hF : Facts w) : Calls Tryd.prog 6 #[.string s] w (ParseEnd s.data.toList w) := by
  have HA0 := Lib.hid (jz_new w)
  have HB0 := Lib.hid (alloc_below w (.cells #[.int .i64 0, .string ⟨#[]⟩, .slice none 0 0, .slice none 0 0] 26))
  have HF0 := Lib.hid (hF.below HB0.out)
  have hz := World.size_alloc w (.cells #[.int .i64 0, .string ⟨#[]⟩, .slice none 0 0, .slice none 0 0] 26)
  cases hR : tokensR s.data.toList with
  | error y =>
    obtain ⟨k, e0⟩ := y
    have HT := Lib.hid (fun (w : World) (hF : Facts w) => tokens_no s hs k e0 hR w hF)
    obtain ⟨_, he⟩ := tokensR_err hR
    have hne : ((e0 : Int) != 0) = true := by simp; omega
    have HPR : Hid (parseR s.data.toList = .error e0) := Lib.hid (by unfold parseR; rw [hR])
    clear hR he hF
    go_enter Tryd.func6, Tryd.ntmps6
    go_wp2_with fail
    generalize w.alloc (.cells #[.int .i64 0, .string ⟨#[]⟩, .slice none 0 0, .slice none 0 0] 26) = w0 at *
    refine (HT.out _ HF0.out).mono ?_
    rintro e w1 ⟨A, cap, rfl, hb⟩
    have HA1 : Hid (JZ w1 w.heap.size) := Lib.hid (heap_keep hb HA0.out)
    have HB1 := Lib.hid (HB0.out.trans (hb.mono HB0.out.size))
    obtain ⟨c0, c1, c2, c3, f0, f1, f2, f3, hN⟩ := jz_cells HA1.out
    clear hb
    go_wp2_with fail
    refine ret_cell2 (p := 2) (u := 3) rfl _ rfl _ (load_jv (jz_set4 HA1.out _ _ _ _)) (pend_err HPR.out ?_)
    exact below_set4 HB1.out _ _ _ _
  | ok ts =>
    have HT := Lib.hid (fun (w : World) (hF : Facts w) => tokens_ok2 s hs ts hR w hF)
    have hTB := tokensR_tb hR (by show s.size ≤ _; exact hs)
    have HO := Lib.hid (fun A cap w h => open_any A cap 64 ts hTB.1 (by omega) w h)
    have hn := hTB.1
    by_cases hbe : beyond 64 0 ts = true
    · have HPR : Hid (parseR s.data.toList = .error 3) := Lib.hid (by unfold parseR; rw [hR]; simp only [hbe, if_true])
      rw [hbe] at HO
      clear hR hF hbe hTB
      go_enter Tryd.func6, Tryd.ntmps6
      go_wp2_with fail
      generalize w.alloc (.cells #[.int .i64 0, .string ⟨#[]⟩, .slice none 0 0, .slice none 0 0] 26) = w0 at *
      refine (HT.out _ HF0.out).mono ?_
      rintro e w1 ⟨A, cap, rfl, hr, hb, hc1, hc2⟩
      have HA1 : Hid (JZ w1 w.heap.size) := Lib.hid (heap_keep hb HA0.out)
      have HB1 := Lib.hid (HB0.out.trans (hb.mono HB0.out.size))
      have HR1 := Lib.hid hr
      clear hb hr
      go_wp2_with fail
      refine (HO.out _ _ _ HR1.out).mono ?_
      rintro e w2 ⟨rfl, hb⟩
      have HA2 : Hid (JZ w2 w.heap.size) := Lib.hid (heap_keep hb HA1.out)
      have HB2 := Lib.hid (HB1.out.trans (hb.mono HB1.out.size))
      obtain ⟨c0, c1, c2, c3, f0, f1, f2, f3, hN⟩ := jz_cells HA2.out
      clear hb
      go_wp2_with fail
      refine ret_cell2 (p := 2) (u := 3) rfl _ rfl _ (load_jv (jz_set4 HA2.out _ _ _ _)) (pend_err HPR.out ?_)
      exact below_set4 HB2.out _ _ _ _
    · have hbf : beyond 64 0 ts = false := by simpa using hbe
      have hpr : parseR s.data.toList = match pv (2 * ts.length + 1) ts false with
          | none => .error 4
          | some (j, rest, tw) => if rest = [] then (if tw then .error 13 else .ok j) else .error 4 := by unfold parseR; rw [hR]; simp only [hbf, Bool.false_eq_true, if_false]
      have HV := Lib.hid (fun R w h => vok (2 * ts.length + 1 + 1) (2 * ts.length + 1) (by omega) R ts false w (by omega) h)
      have HTB := Lib.hid hTB
      rw [hbf] at HO
      generalize hpv : pv (2 * ts.length + 1) ts false = PV at *
      have HPR := Lib.hid hpr
      clear hR hF hbe hbf hTB hpr
      go_enter Tryd.func6, Tryd.ntmps6
      go_wp2_with fail
      generalize w.alloc (.cells #[.int .i64 0, .string ⟨#[]⟩, .slice none 0 0, .slice none 0 0] 26) = w0 at *
      refine (HT.out _ HF0.out).mono ?_
      rintro e w1 ⟨A, cap, rfl, hr, hb, hc1, hc2⟩
      have HA1 : Hid (JZ w1 w.heap.size) := Lib.hid (heap_keep hb HA0.out)
      have HB1 := Lib.hid (HB0.out.trans (hb.mono HB0.out.size))
      have HR1 := Lib.hid hr
      clear hb hr
      go_wp2_with fail
      refine (HO.out _ _ _ HR1.out).mono ?_
      rintro e w2 ⟨rfl, hb⟩
      have HA2 : Hid (JZ w2 w.heap.size) := Lib.hid (heap_keep hb HA1.out)
      have HB2 := Lib.hid (HB1.out.trans (hb.mono HB1.out.size))
      have HR2 := Lib.hid (treads_keep HR1.out hb)
      clear hb
      go_wp2_with fail
      have HRS := Lib.hid (rst_new HR2.out hc1 hc2 HTB.out)
      have HAL := Lib.hid (alloc_below w2 (.cells #[.slice A ts.length cap, .bool false] 46))
      have hz2 := World.size_alloc w2 (.cells #[.slice A ts.length cap, .bool false] 46)
      have hN2 := (jz_cells HA2.out).2.2.2.2.2.2.2.2
      have HA3 : Hid (JZ (w2.alloc (.cells #[.slice A ts.length cap, .bool false] 46)) w.heap.size) := Lib.hid (heap_alloc_old HA2.out)
      have HVV := Lib.hid (HV.out _ _ HRS.out)
      generalize hR0 : w2.heap.size = R at *
      generalize hw3 : w2.alloc (.cells #[.slice A ts.length cap, .bool false] 46) = w3 at *
      have hB3 : Below w.heap.size w w3 := HB2.out.trans (by rw [← hw3]; exact (alloc_below w2 _).mono (by omega))
      have HB3 := Lib.hid hB3
      clear hw3 hB3 HAL HA2 HB2 HR2 HV
      cases PV with
      | none =>
        have HVN : Hid (Calls Tryd.prog 15 #[.pointer (some ⟨R, 0, none⟩)] w3 fun e w' => ∃ k s A n c B m d, e = .returned (.tuple #[.agg #[.int .i64 k, .string s, .slice A n c, .slice B m d], .bool false]) ∧ Fr (· = R) w3 w') := HVV
        refine HVN.out.mono ?_
        rintro e w4 ⟨ek, es, eA, en, ec, eB, em, ed, rfl, hf⟩
        have HA4 : Hid (JZ w4 w.heap.size) := Lib.hid (HA3.out.keep (hf.block _ (by omega) (show ¬ w.heap.size = R by omega)))
        have HB4 : Hid (Below w.heap.size w w4) := Lib.hid (HB3.out.trans (hf.to_below HB3.out.size (fun k hk => by omega)))
        obtain ⟨c0, c1, c2, c3, f0, f1, f2, f3, hN⟩ := jz_cells HA4.out
        clear hf HVV
        go_wp2_with fail
        refine ret_cell2 (p := 2) (u := 3) rfl _ rfl _ (load_jv (heap_alloc_old (jz_set4 HA4.out _ _ _ _))) (pend_err HPR.out ?_)
        exact (below_set4 HB4.out _ _ _ _).alloc (below_set4 HB4.out _ _ _ _).size _
      | some r =>
        obtain ⟨j, ts', tw'⟩ := r
        have HVS : Hid (Calls Tryd.prog 15 #[.pointer (some ⟨R, 0, none⟩)] w3 fun e w' => ∃ v, e = .returned (.tuple #[v, .bool true]) ∧ JIn w' (fun k => w3.heap.size ≤ k) j v ∧ RSt w' R ts' tw' ∧ Fr (· = R) w3 w') := HVV
        refine HVS.out.mono ?_
        rintro e w4 ⟨vj, rfl, hj, hr4, hf⟩
        obtain ⟨jk, js, jA, jn, jc, jB, jm, jd, rfl⟩ := jv_form hj
        have HA4 : Hid (JZ w4 w.heap.size) := Lib.hid (HA3.out.keep (hf.block _ (by omega) (show ¬ w.heap.size = R by omega)))
        have HB4 : Hid (Below w.heap.size w w4) := Lib.hid (HB3.out.trans (hf.to_below HB3.out.size (fun k hk => by omega)))
        obtain ⟨c0, c1, c2, c3, f0, f1, f2, f3, hN⟩ := jz_cells HA4.out
        obtain ⟨⟨rA, rc, r0⟩, r1⟩ := rst_cells hr4
        have hRl := hr4.lt
        have hwR : w.heap.size ≠ R := by omega
        have hw34 := hf.size
        have HJ := Lib.hid hj
        clear hf hj hr4 HVV
        by_cases ht : ts' = []
        · subst ht
          cases tw' with
          | true =>
            have HPE : Hid (parseR s.data.toList = .error 13) := HPR
            go_wp2_with fail
            refine ret_cell2 (p := 2) (u := 3) rfl _ rfl _ (load_jv (heap_alloc_old (jz_set4 HA4.out _ _ _ _))) (pend_err HPE.out ?_)
            exact (below_set4 HB4.out _ _ _ _).alloc (below_set4 HB4.out _ _ _ _).size _
          | false =>
            have HPE : Hid (parseR s.data.toList = .ok j) := HPR
            go_wp2_with fail
            have hset := set4_other w4 w.heap.size (.int .i64 jk) (.string js) (.slice jA jn jc) (.slice jB jm jd)
            refine ret_cell2 (p := 2) (u := 3) rfl _ rfl _ (load_jv (heap_alloc_old (jz_set4 HA4.out _ _ _ _))) (pend_ok HPE.out ?_ ?_)
            · exact JIn.keep (fun k hk hkl => ((alloc_below _ _).block k (by simp only [World.size_setCell]; exact hkl)).trans (hset k (by omega))) (fun k hk _ => by omega) _ _ HJ.out
            · exact (below_set4 HB4.out _ _ _ _).alloc (below_set4 HB4.out _ _ _ _).size _
        · have HPE : Hid (parseR s.data.toList = .error 4) := Lib.hid (by rw [HPR.out]; simp only [if_neg ht])
          have hpos : 0 < ts'.length := List.length_pos_iff.2 ht
          go_wp2_with fail
          refine ret_cell2 (p := 2) (u := 3) rfl _ rfl _ (load_jv (heap_alloc_old (jz_set4 HA4.out _ _ _ _))) (pend_err HPE.out ?_)
          exact (below_set4 HB4.out _ _ _ _).alloc (below_set4 HB4.out _ _ _ _).size _
end Go.Proofs.YtmkjoonbjmieoaaDoor
