/-
  json's write AT EVERY VALUE that may be, Put AT EVERY VALUE, of at most 1000000 (szJ): the value's text (textJ), or its first fault (putJ); what was there stays. Conditions: the value's size; the variables that are read hold what their text lays (Facts).
  json's Put AT EVERY VALUE in memory of at most 1000000 (szJ): its text, or its first fault (putJ); nothing that was there turns. Conditions: the value's size; the variables that are read hold what their text lays (Facts).
-/
import Derived.Test.YtmkjoonbjmieoaaDoorQWrite
import Derived.Test.YtmkjoonbjmieoaaDoorQShelfB
namespace Go.Proofs.YtmkjoonbjmieoaaDoor
open Go.RowKit

theorem faultL_mem {l : List J} (h : faultL l = 0) {j : J} (hj : j ∈ l) : faultJ j = 0 := by
  obtain ⟨i, hi, rfl⟩ := List.getElem_of_mem hj
  exact faultL_at i h hi
theorem faultK_mem : ∀ {met ks : List (List UInt8)} {l : List J}, ks.length = l.length → faultK met ks l = 0 → (∀ j ∈ l, faultJ j = 0) ∧ ∀ x ∈ ks, valid x = true
  | _, [], [], _, _ => ⟨fun _ h => (by cases h), fun _ h => (by cases h)⟩
  | _, _ :: _, [], h, _ => by simp at h
  | _, [], _ :: _, h, _ => by simp at h
  | met, key :: ks, j :: l, hlen, h => by
    have h2 := faultK_cons h
    have ih := faultK_mem (by simpa using hlen) h2.2.2.2
    refine ⟨fun t ht => ?_, fun x hx => ?_⟩
    · rcases List.mem_cons.1 ht with rfl | ht
      · exact h2.2.2.1
      · exact ih.1 t ht
    · rcases List.mem_cons.1 hx with rfl | hx
      · exact h2.1
      · exact ih.2 x hx
set_option maxRecDepth 100000 in
set_option maxHeartbeats 4000000 in
theorem write_step (j : J) (hsz : szJ j ≤ 1000000) (hf : faultJ j = 0) (hih : ∀ t : J, szJ t < szJ j → faultJ t = 0 → WOk t) : WOk j := by
  intro Z b acc v w hs hj hZ hF hn
  obtain ⟨k, s, ks, l⟩ := j
  obtain ⟨ka, kc, ia, ic, rfl, hk, hl⟩ := hj.open
  rw [szJ_eq] at hsz hih hn
  have HS0 := Lib.hid (hs.alloc (.cells #[.int .i64 k, .string (txt s), .slice ka ks.length kc, .slice ia l.length ic] 26))
  have HKA := Lib.hid (kz_alloc hs (.cells #[.int .i64 k, .string (txt s), .slice ka ks.length kc, .slice ia l.length ic] 26))
  have HTN := Lib.hid (alloc_top w #[.int .i64 k, .string (txt s), .slice ka ks.length kc, .slice ia l.length ic] 26)
  have HJ := Lib.hid (jin_z hj HKA.out)
  have HF0 := Lib.hid (facts_z hF hZ HKA.out)
  have HZ := Lib.hid hZ
  rw [textJ]
  rcases fault_of hf with ⟨hkk, rfl, rfl, rfl⟩ | ⟨rfl, hnum, rfl, rfl⟩ | ⟨rfl, hv, rfl, rfl⟩ | ⟨rfl, rfl, rfl, hfl⟩ | ⟨rfl, rfl, hlen, hfl⟩
  · rcases hkk with rfl | rfl | rfl
    · show Calls _ _ _ _ (fun e w' => e = _ ∧ Sb Z b (acc ++ [110, 117, 108, 108]) w' ∧ Kz Z w w')
      simp only [List.length_nil, szK, szL] at hn
      clear hs hj hZ hF hk hl hih hf
      go_enter Tryd.func16, Tryd.ntmps16
      go_wp2_with fail
      refine (sText _ b acc [110, 117, 108, 108] _ HS0.out (by simp only [List.length_cons, List.length_nil]; omega)).mono ?_
      rintro e w1 ⟨rfl, hs, hk⟩
      have HS1 := Lib.hid hs
      have HK1 := Lib.hid hk
      clear hs hk
      go_wp2_with fail
      go_end0
      exact ⟨rfl, HS1.out.less (fun _ h => .inl h), HKA.out.trans (HK1.out.less (fun _ h => .inl h))⟩
    · show Calls _ _ _ _ (fun e w' => e = _ ∧ Sb Z b (acc ++ [102, 97, 108, 115, 101]) w' ∧ Kz Z w w')
      simp only [List.length_nil, szK, szL] at hn
      clear hs hj hZ hF hk hl hih hf
      go_enter Tryd.func16, Tryd.ntmps16
      go_wp2_with fail
      refine (sText _ b acc [102, 97, 108, 115, 101] _ HS0.out (by simp only [List.length_cons, List.length_nil]; omega)).mono ?_
      rintro e w1 ⟨rfl, hs, hk⟩
      have HS1 := Lib.hid hs
      have HK1 := Lib.hid hk
      clear hs hk
      go_wp2_with fail
      go_end0
      exact ⟨rfl, HS1.out.less (fun _ h => .inl h), HKA.out.trans (HK1.out.less (fun _ h => .inl h))⟩
    · show Calls _ _ _ _ (fun e w' => e = _ ∧ Sb Z b (acc ++ [116, 114, 117, 101]) w' ∧ Kz Z w w')
      simp only [List.length_nil, szK, szL] at hn
      clear hs hj hZ hF hk hl hih hf
      go_enter Tryd.func16, Tryd.ntmps16
      go_wp2_with fail
      refine (sText _ b acc [116, 114, 117, 101] _ HS0.out (by simp only [List.length_cons, List.length_nil]; omega)).mono ?_
      rintro e w1 ⟨rfl, hs, hk⟩
      have HS1 := Lib.hid hs
      have HK1 := Lib.hid hk
      clear hs hk
      go_wp2_with fail
      go_end0
      exact ⟨rfl, HS1.out.less (fun _ h => .inl h), HKA.out.trans (HK1.out.less (fun _ h => .inl h))⟩
  · show Calls _ _ _ _ (fun e w' => e = _ ∧ Sb Z b (acc ++ s) w' ∧ Kz Z w w')
    simp only [szK, szL] at hn
    clear hs hj hZ hF hk hl hih hf
    go_enter Tryd.func16, Tryd.ntmps16
    go_wp2_with fail
    refine (sText _ b acc s _ HS0.out (by omega)).mono ?_
    rintro e w1 ⟨rfl, hs, hk⟩
    have HS1 := Lib.hid hs
    have HK1 := Lib.hid hk
    clear hs hk
    go_wp2_with fail
    go_end0
    exact ⟨rfl, HS1.out.less (fun _ h => .inl h), HKA.out.trans (HK1.out.less (fun _ h => .inl h))⟩
  · show Calls _ _ _ _ (fun e w' => e = _ ∧ Sb Z b (acc ++ quoteL s) w' ∧ Kz Z w w')
    simp only [szK, szL] at hn hsz
    clear hs hj hZ hF hk hl hih hf
    go_enter Tryd.func16, Tryd.ntmps16
    go_wp2_with fail
    refine (sQuoted _ b acc s _ HS0.out (by omega) hv (by omega) HF0.out).mono ?_
    rintro e w1 ⟨rfl, hs, hk⟩
    have HS1 := Lib.hid hs
    have HK1 := Lib.hid hk
    clear hs hk
    go_wp2_with fail
    go_end0
    exact ⟨rfl, HS1.out.less (fun _ h => .inl h), HKA.out.trans (HK1.out.less (fun _ h => .inl h))⟩
  · have HOK : Hid (∀ t ∈ l, WOk t) := Lib.hid (fun t ht => hih t (by have := szL_mem ht; omega) (faultL_mem hfl ht))
    have htl := textL_len true l
    have HE : Hid (acc ++ [91] ++ itT 5 true [] l ++ [93] = acc ++ 91 :: (textL true l ++ [93])) := Lib.hid (by unfold itT; simp [List.append_assoc])
    simp only [List.length_nil, szK] at hn hsz
    show Calls _ _ _ _ (fun e w' => e = _ ∧ Sb Z b (acc ++ 91 :: (textL true l ++ [93])) w' ∧ Kz Z w w')
    rw [← HE.out]
    have hit : (itT 5 true [] l).length ≤ 6 * (szL l) := by unfold itT; simpa using htl
    generalize hIT : itT 5 true [] l = IT at *
    clear hs hj hZ hF hk hl hih hf HE htl
    go_enter Tryd.func16, Tryd.ntmps16
    go_wp2_with fail
    refine (sByte _ b acc 91 91 (by decide) _ HS0.out (by omega)).mono ?_
    rintro e w1 ⟨rfl, hs, hk⟩
    have HS1 := Lib.hid hs
    have HK1 := Lib.hid hk
    clear hs hk
    obtain ⟨y0, y1, y2, y3⟩ := tok_cells ((HK1.out.block w.heap.size (.inr rfl)).trans HTN.out)
    go_wp2_with fail
    refine (items5_any l (by omega) HOK.out _ b (acc ++ [91]) _ _ HS1.out (jin_z (jin_more HJ.out (fun _ h => .inl h)) HK1.out) (fun k hk => .inl (HZ.out k hk)) (facts_z HF0.out (fun k hk => .inl (HZ.out k hk)) HK1.out) (by simp only [List.length_append, List.length_cons, List.length_nil]; omega)).mono ?_
    rintro e w2 ⟨rfl, hs, hk⟩
    rw [hIT] at hs
    have HS2 := Lib.hid hs
    have HK2 := Lib.hid (HK1.out.trans hk)
    clear hs hk y0 y1 y2 y3
    go_wp2_with fail
    refine (sByte _ b (acc ++ [91] ++ IT) 93 93 (by decide) _ HS2.out (by simp only [List.length_append, List.length_cons, List.length_nil]; omega)).mono ?_
    rintro e w3 ⟨rfl, hs, hk⟩
    have HS3 := Lib.hid hs
    have HK3 := Lib.hid (HK2.out.trans hk)
    clear hs hk
    go_wp2_with fail
    go_end0
    exact ⟨rfl, HS3.out.less (fun _ h => .inl h), HKA.out.trans (HK3.out.less (fun _ h => .inl h))⟩
  · have HOK : Hid (∀ t ∈ l, WOk t) := Lib.hid (fun t ht => hih t (by have := szL_mem ht; omega) ((faultK_mem hlen hfl).1 t ht))
    have HKV : Hid (∀ x ∈ ks, valid x = true) := Lib.hid (faultK_mem hlen hfl).2
    have htl := textK_len true ks l
    have HE : Hid (acc ++ [123] ++ itT 6 true ks l ++ [125] = acc ++ 123 :: (textK true ks l ++ [125])) := Lib.hid (by unfold itT; simp)
    simp only [List.length_nil] at hn hsz
    show Calls _ _ _ _ (fun e w' => e = _ ∧ Sb Z b (acc ++ 123 :: (textK true ks l ++ [125])) w' ∧ Kz Z w w')
    rw [← HE.out]
    have hit : (itT 6 true ks l).length ≤ 6 * (szK ks + szL l) := by unfold itT; simpa using htl
    generalize hIT : itT 6 true ks l = IT at *
    have HLEN := Lib.hid hlen
    clear hlen
    clear hs hj hZ hF hk hl hih hf HE htl
    go_enter Tryd.func16, Tryd.ntmps16
    go_wp2_with fail
    refine (sByte _ b acc 123 123 (by decide) _ HS0.out (by omega)).mono ?_
    rintro e w1 ⟨rfl, hs, hk⟩
    have HS1 := Lib.hid hs
    have HK1 := Lib.hid hk
    clear hs hk
    obtain ⟨y0, y1, y2, y3⟩ := tok_cells ((HK1.out.block w.heap.size (.inr rfl)).trans HTN.out)
    go_wp2_with fail
    refine (items6_any ks l HLEN.out (by omega) HOK.out HKV.out _ b (acc ++ [123]) _ _ HS1.out (jin_z (jin_more HJ.out (fun _ h => .inl h)) HK1.out) (fun k hk => .inl (HZ.out k hk)) (facts_z HF0.out (fun k hk => .inl (HZ.out k hk)) HK1.out) (by simp only [List.length_append, List.length_cons, List.length_nil]; omega)).mono ?_
    rintro e w2 ⟨rfl, hs, hk⟩
    rw [hIT] at hs
    have HS2 := Lib.hid hs
    have HK2 := Lib.hid (HK1.out.trans hk)
    clear hs hk y0 y1 y2 y3
    go_wp2_with fail
    refine (sByte _ b (acc ++ [123] ++ IT) 125 125 (by decide) _ HS2.out (by simp only [List.length_append, List.length_cons, List.length_nil]; omega)).mono ?_
    rintro e w3 ⟨rfl, hs, hk⟩
    have HS3 := Lib.hid hs
    have HK3 := Lib.hid (HK2.out.trans hk)
    clear hs hk
    go_wp2_with fail
    go_end0
    exact ⟨rfl, HS3.out.less (fun _ h => .inl h), HKA.out.trans (HK3.out.less (fun _ h => .inl h))⟩
theorem write_any : ∀ (n : Nat) (j : J), szJ j ≤ n → n ≤ 1000000 → faultJ j = 0 → WOk j
  | 0, j, h, _, _ => by have := szJ_pos j; omega
  | n + 1, j, h, hn, hf => write_step j (by omega) hf (fun t ht hft => write_any n t (by omega) (by omega) hft)
end Go.Proofs.YtmkjoonbjmieoaaDoor
namespace Go.Proofs.YtmkjoonbjmieoaaDoor
open Go.RowKit

theorem jin_low {w : World} {P : Nat → Prop} {j : J} {v : Value} (h : JIn w P j v) : JIn w (fun k => k < w.heap.size) j v := JIn.keep (fun _ _ _ => rfl) (fun _ _ hk => hk) j v h
theorem kz_below {B : Nat} {w w' : World} (h : Kz (fun k => k < B) w w') : Below B w w' := ⟨h.os, h.tape, h.output, h.size, h.block⟩
theorem sb_new (w : World) : Sb (fun k => k < w.heap.size) w.heap.size [] (w.alloc (.cells #[.pointer none, .slice none 0 0] 50)) := by
  have hz : (w.alloc (.cells #[.pointer none, .slice none 0 0] 50)).heap.size = w.heap.size + 1 := World.size_alloc ..
  refine ⟨fun k => k = w.heap.size, .inl ⟨rfl, .slice none 0 0, alloc_top w _ _, World.ownsRow_nil _ 0 _ 1, by simp [Value.ownBlock], by simp [Value.ownBlock]⟩, fun k (hk : k = _) => by omega, fun k hk => ⟨by omega, fun (h : k = _) => by omega⟩⟩
theorem sb_builder {B b : Nat} {l : List UInt8} {W : World} (h : Sb (fun k => k < B) b l W) : Lib.IsBuilder 50 5 B b (Lib.byteCells l) W := by
  obtain ⟨X, h1, h2, h3⟩ := h
  have hx : ∀ k, X k → B ≤ k := fun k hk => by
    rcases Nat.lt_or_ge k B with h | h
    · exact absurd hk (h3 k h).2
    · exact h
  refine h1.imp ?_ ?_
  all_goals
    rintro ⟨h0, v, h4, h5, h6, h7⟩
    refine ⟨hx _ h0, v, h4, ⟨h5.1, ?_⟩, h6⟩
    rcases h5.2 with h | ⟨g, cap, cur, hv, hb, hr⟩
    · exact .inl h
    · exact .inr ⟨g, cap, cur, hv, hx g (h7 g (by rw [hv]; rfl)), hr⟩
set_option maxRecDepth 100000 in
set_option maxHeartbeats 2000000 in
theorem put_any (P : Nat → Prop) (j : J) (v : Value) (w : World) (hsz : szJ j ≤ 1000000) (hj : JIn w P j v) (hF : Facts w) :
    Calls Tryd.prog 7 #[v] w fun e w' => e = .returned (.tuple #[.string (txt (putJ j).1), .int .i64 ((putJ j).2 : Nat)]) ∧ Below w.heap.size w w' := by
  obtain ⟨R1, hR1⟩ : ∃ r, r = (putJ j).1 := ⟨_, rfl⟩
  obtain ⟨R2, hR2⟩ : ∃ r, r = (putJ j).2 := ⟨_, rfl⟩
  rw [← hR1, ← hR2]
  obtain ⟨v0, v1, v2, v3, rfl⟩ : ∃ v0 v1 v2 v3, v = .agg #[v0, v1, v2, v3] := by
    obtain ⟨k, s, ks, l⟩ := j
    obtain ⟨_, _, _, _, h, _⟩ := hj.open
    exact ⟨_, _, _, _, h⟩
  have hb1 := alloc_below w (.cells #[v0, v1, v2, v3] 26)
  have HB1 := Lib.hid hb1
  have HT1 := Lib.hid (alloc_top w #[v0, v1, v2, v3] 26)
  have HJ := Lib.hid hj
  have HF := Lib.hid hF
  have HC := Lib.hid (check_any P j (.agg #[v0, v1, v2, v3]) _ hsz (hj.below hb1) (hF.below hb1))
  unfold putJ at hR1 hR2
  by_cases h0 : checkJ j = 0
  · rw [if_pos h0] at hR1 hR2
    rw [h0] at HC
    have hfj := (check_of h0).2
    have HW := Lib.hid (write_any 1000000 j hsz (Nat.le_refl _) hfj)
    have HR1 : Hid (R1 = textJ j) := Lib.hid hR1
    have HR2 : Hid (R2 = 0) := Lib.hid hR2
    have HSZ := Lib.hid hsz
    clear hR1 hR2 hfj h0 hj hF hsz hb1
    go_enter Tryd.func7, Tryd.ntmps7
    go_wp2_with fail
    refine HC.out.mono ?_
    rintro e w1 ⟨rfl, hb⟩
    have HB2 := Lib.hid (HB1.out.trans (hb.mono HB1.out.size))
    have HT2 := Lib.hid (heap_keep hb HT1.out)
    have HJ2 := Lib.hid (jin_low (HJ.out.below HB2.out))
    have HS := Lib.hid (sb_new w1)
    have HA := Lib.hid (alloc_below w1 (.cells #[.pointer none, .slice none 0 0] 50))
    have HT3 := Lib.hid (heap_keep HA.out HT2.out)
    have HF3 := Lib.hid (HF.out.below (HB2.out.trans (HA.out.mono HB2.out.size)))
    have HL3 : Hid (3 < w1.heap.size) := Lib.hid (by
      obtain ⟨ev, h1, _⟩ := (HF.out.below HB2.out).syn
      rcases Nat.lt_or_ge 3 w1.heap.size with h' | h'
      · exact h'
      · simp [World.cell?, Array.getElem?_eq_none h'] at h1)
    clear hb
    obtain ⟨y0, y1, y2, y3⟩ := tok_cells HT3.out
    go_wp2_with fail
    refine (HW.out (fun k => k < w1.heap.size) w1.heap.size [] (.agg #[v0, v1, v2, v3]) _ HS.out (JIn.keep (fun k hk _ => HA.out.block k hk) (fun _ hk _ => hk) _ _ HJ2.out) (fun k hk => by have := HL3.out; omega) HF3.out (by have := HSZ.out; simp only [List.length_nil]; omega)).mono ?_
    rintro e w3 ⟨rfl, hs, hk⟩
    rw [List.nil_append] at hs
    have HK3 := Lib.hid (kz_below hk)
    have HST := Lib.hid (Tryd.Builder_String_any w1.heap.size w1.heap.size (textJ j) w3 (sb_builder hs) (by have := hk.size; have := HA.out.size; omega))
    clear hs hk y0 y1 y2 y3
    go_wp2_with fail
    refine HST.out.mono ?_
    rintro e w4 ⟨rfl, hb⟩
    have HB4 := Lib.hid (HB2.out.trans (((HA.out.trans (HK3.out.trans hb))).mono HB2.out.size))
    clear hb
    go_wp2_with fail
    go_ret2
    exact ⟨by rw [HR1.out, HR2.out]; rfl, HB4.out⟩
  · rw [if_neg h0] at hR1 hR2
    have hne : (((checkJ j : Nat) : Int) != 0) = true := by simp only [bne_iff_ne, ne_eq]; omega
    have HR1 : Hid (R1 = []) := Lib.hid hR1
    have HR2 : Hid (R2 = checkJ j) := Lib.hid hR2
    generalize checkJ j = cj at *
    clear hR1 hR2 h0 hj hF hsz hb1
    go_enter Tryd.func7, Tryd.ntmps7
    go_wp2_with fail
    refine HC.out.mono ?_
    rintro e w1 ⟨rfl, hb⟩
    have HB2 := Lib.hid (HB1.out.trans (hb.mono HB1.out.size))
    clear hb
    go_wp2_with fail
    go_ret2
    exact ⟨by rw [HR1.out, HR2.out]; rfl, HB2.out⟩
end Go.Proofs.YtmkjoonbjmieoaaDoor
