/-
  THE LAW FrameParts, walked. Conditions: what the variables that are read hold (Facts).
-/
import Derived.Test.YtmaihiklcdidbaaDoorParts
namespace Go.Proofs.YtmaihiklcdidbaaDoor
open Go.RowKit

abbrev nilV : Value := .slice none 0 0
theorem nil_row (W : World) (B : Nat) : SRow W B nilV [] := ⟨rfl, .inl ⟨rfl, rfl⟩⟩
theorem rdX_none {R k : Nat} (h : rdX R none k) : k = R := by
  rcases h with h | h
  · exact h
  · cases h
theorem PSt.new {w w1 w2 : World} {R1 : Nat} (hm : Mine w w1 R1 (.live [])) (h2 : RdIn w2 w1.heap.size none (.live [])) (hb : Below w1.heap.size w1 w2) (hg : RdIn w1 R1 none (.live [])) :
    PSt w w2 R1 w1.heap.size none none (.live []) (.live []) nilV nilV [] [] := by
  have hlt := hg.lt
  refine ⟨hm.1.trans (hb.mono hm.1.size), hg.below hb, h2, nil_row _ _, nil_row _ _, fun k hk => ?_, fun k hk => ?_, fun k h1 h2 => ?_, (fun k hk => by cases hk), (fun k hk => by cases hk), (fun k hk => by cases hk), (fun k hk => by cases hk), (fun k hk => by cases hk)⟩
  · rw [rdX_none hk]; exact hm.2.1
  · rw [rdX_none hk]; exact hm.1.size
  · have a := rdX_none h1
    have b := rdX_none h2
    omega
def fits (n : Nat) : RS → Prop | .live l => l.length + n ≤ 100000000 | .dead _ => True
theorem PSt.push {w W : World} {R1 R2 : Nat} {g1 g2 : Option Nat} {r1 r2 : RS} {v1 v2 : Value} {l1 l2 : List (List UInt8)} (h : PSt w W R1 R2 g1 g2 r1 r2 v1 v2 l1 l2) (s : ByteArray) (hs : fits s.size r1) :
    Calls Tryd.prog 10 #[.pointer (some ⟨R1, 0, none⟩), .string s] W fun e w' => (∃ z : Int, e = .returned (.int .i64 z)) ∧ ∃ g', PSt w w' R1 R2 g' g2 (pushR s.data.toList r1) r2 v1 v2 l1 l2 := by
  cases r1 with
  | live l => exact (push_live R1 g1 l s hs W h.rd1).mono fun e w' ⟨a, b⟩ => ⟨⟨_, a⟩, h.step1 b⟩
  | dead n => exact (push_dead R1 n g1 s W h.rd1).mono fun e w' ⟨a, b⟩ => by subst b; exact ⟨⟨_, a⟩, g1, h⟩
theorem PSt.allC {w W : World} {R1 R2 : Nat} {g1 g2 : Option Nat} {r1 r2 : RS} {v1 v2 : Value} {l1 l2 : List (List UInt8)} (h : PSt w W R1 R2 g1 g2 r1 r2 v1 v2 l1 l2) (hF : Facts w) :
    Calls Tryd.prog 19 #[.pointer (some ⟨R1, 0, none⟩)] W fun e w' => ∃ v g', e = .returned (.tuple #[v, .int .i64 ((allR 200 r1).e : Int)]) ∧ PSt w w' R1 R2 g' g2 (allR 200 r1).r r2 v v2 (allR 200 r1).bodies l2 :=
  (all_any w W hF h.below R1 g1 r1 h.rd1 (h.lo1 _ (.inl rfl)) (fun k hk => h.lo1 k (.inr hk))).mono fun _ _ he => h.all1 he
theorem PSt.broken {w W : World} {R1 R2 : Nat} {g1 g2 : Option Nat} {r1 r2 : RS} {v1 v2 : Value} {l1 l2 : List (List UInt8)} (h : PSt w W R1 R2 g1 g2 r1 r2 v1 v2 l1 l2) :
    Calls Tryd.prog 15 #[.pointer (some ⟨R1, 0, none⟩)] W fun e w' => e = .returned (.bool r1.isDead) ∧ W = w' := broken_any R1 g1 r1 W h.rd1
set_option maxRecDepth 100000 in
set_option maxHeartbeats 1000000 in
theorem same_eq (w : World) (B1 B2 : Nat) (v1 v2 : Value) (l : List (List UInt8)) (h1 : SRow w B1 v1 l) (h2 : SRow w B2 v2 l) (hl : l.length ≤ 1000000) :
    Calls Tryd.prog 20 #[v1, v2] w fun e w' => e = .returned (.bool true) ∧ Below w.heap.size w w' := by
  obtain ⟨p1, c1, rfl⟩ := h1.shape
  obtain ⟨p2, c2, rfl⟩ := h2.shape
  have H1 := Lib.hid (fun wr (hb : Below w.heap.size w wr) => h1.keep (fun k hk => hb.block k (h1.lt hk).1))
  have H2 := Lib.hid (fun wr (hb : Below w.heap.size w wr) => h2.keep (fun k hk => hb.block k (h2.lt hk).1))
  clear h1 h2
  go_enter Tryd.func20, Tryd.ntmps20
  go_wp2_with fail
  go_loopw [5] (fun n wr => ∃ i : Nat, n = .int .i64 (i : Int) ∧ i ≤ l.length ∧ Hid (Below w.heap.size w wr)) (fun n _ => l.length - (intOf n).toNat)
  case atStart => exact ⟨0, rfl, Nat.zero_le _, Lib.hid (Below.refl _ _)⟩
  case round =>
    obtain ⟨i, rfl, hi, hB⟩ := hrel
    by_cases hil : i < l.length
    · have hil2 : (i : Int) < (l.length : Int) := by omega
      have hb : l[i]? = some l[i] := List.getElem?_eq_getElem hil
      obtain ⟨g1, rfl, hc1⟩ := (H1.out wr hB.out).cell hb
      obtain ⟨g2, rfl, hc2⟩ := (H2.out wr hB.out).cell hb
      generalize txt l[i] = b at *
      have hbb : (b.toList == b.toList) = true := by simp
      clear hb
      go_wp2_with fail
      go_quiet (fail)
      have HB2 := Lib.hid (drewN_below hB.out nq)
      go_wp2_with fail
      refine ⟨⟨i + 1, by go_num, by omega, HB2⟩, ?_⟩
      simp [intOf]
      omega
    · obtain rfl : i = l.length := by omega
      go_wp2_with fail
      go_ret
      exact ⟨rfl, hB.out⟩
set_option maxRecDepth 100000 in
set_option maxHeartbeats 4000000 in
theorem parts_any (s : ByteArray) (z : Int) (hz0 : -9223372036854775808 ≤ z) (hz1 : z ≤ 9223372036854775807) (w : World) (hs : s.size ≤ maxLen) (hF : Facts w) : Calls Tryd.prog 6 #[.string s, .int .i64 z] w fun e w' => e = .returned (.bool true) ∧ Below w.heap.size w w' := by
  have HC := Lib.hid (cut_any s (by unfold maxLen at hs; omega) w)
  have hl : (s.data.toList.take 3000).length ≤ 3000 := by rw [List.length_take]; omega
  obtain ⟨T, hT⟩ : ∃ T, T = txt (s.data.toList.take 3000) := ⟨_, rfl⟩
  have hTl : T.data.toList = s.data.toList.take 3000 := by rw [hT]; rfl
  have hTs : T.size ≤ 3000 := by rw [Lib.size_eq, hTl]; exact hl
  rw [← hT] at HC
  clear hT hTl hl
  have HAW := Lib.hid (fun W (h : Below w.heap.size w W) => awake_any W (hF.below h))
  have HN : Hid (Calls Tryd.prog 8 #[] w fun e w' => e = .returned (.pointer (some ⟨w.heap.size, 0, none⟩)) ∧ Mine w w' w.heap.size (.live []) ∧ RdIn w' w.heap.size none (.live [])) := Lib.hid ((new_any w).mono fun e w' ⟨h1, h2, h3, _⟩ => ⟨h1, ⟨h3, Nat.le_refl _, none, (fun k hk => by cases hk), h2⟩, h2⟩)
  obtain ⟨k, hk, hkz⟩ : ∃ k : Nat, k ≤ T.size ∧ ((z < 0 ∨ (T.size : Int) < z) ∧ (T.size : Int) / 2 = (k : Int) ∨ ¬ (z < 0 ∨ (T.size : Int) < z) ∧ z = (k : Int)) := by
    by_cases h : z < 0 ∨ (T.size : Int) < z
    · exact ⟨T.size / 2, by omega, .inl ⟨h, by omega⟩⟩
    · exact ⟨z.toNat, by omega, .inr ⟨h, by omega⟩⟩
  have hTl : T.data.toList.length = T.size := rfl
  have hA1 : (T.extract 0 k).size = k := by rw [ByteArray.size_extract]; omega
  have hB1 : (T.extract k T.size).size = T.size - k := by rw [ByteArray.size_extract]; omega
  have hA2 : (T.extract 0 k).data.toList = T.data.toList.take k := by rw [ext_list, List.drop_zero, Nat.sub_zero]
  have hB2 : (T.extract k T.size).data.toList = T.data.toList.drop k := by rw [ext_list, List.take_of_length_le (by rw [List.length_drop]; omega)]
  have hT2 : pushR T.data.toList (.live []) = .live T.data.toList := rfl
  have hpp := allR_parts 200 200 (T.data.toList.take k) (T.data.toList.drop k) (by rw [List.take_append_drop]; omega) (by rw [List.take_append_drop]; omega)
  rw [List.take_append_drop] at hpp
  have hwt := (allR_takes 200 T.data.toList).1
  have hot := (allR_takes 200 (T.data.toList.take k)).1
  rw [List.length_take] at hot
  have hsl : ∀ l : List (List UInt8), l.length ≤ sizes l := fun l => by
    induction l with
    | nil => simp
    | cons b l ih => rw [sizes_cons, List.length_cons]; omega
  generalize ho : allR 200 (.live (T.data.toList.take k)) = o at *
  obtain ⟨ob, oe, orr⟩ := o
  simp only at hpp hot
  generalize ht : allR 200 (pushR (T.data.toList.drop k) orr) = t at *
  obtain ⟨tb, te, tr⟩ := t
  simp only at hpp
  generalize hwh : allR 200 (.live T.data.toList) = wh at *
  obtain ⟨wb, we, wr0⟩ := wh
  simp only at hpp hwt
  obtain ⟨hbb, hdd⟩ := hpp
  subst hbb
  have hlen : ob.length + tb.length ≤ 3000 := by
    have := hsl (ob ++ tb)
    rw [List.length_append] at this
    omega
  have hfit : fits (T.size - k) orr := by
    cases orr with
    | dead n => trivial
    | live l =>
      have : RS.held (.live l) = l.length := rfl
      show l.length + (T.size - k) ≤ _
      omega
  clear hwt hot hsl hTl
  rcases hkz with ⟨hc, hkz⟩ | ⟨hc, hkz⟩
  · by_cases hz : z < 0
    · clear hc
      go_enter Tryd.func6, Tryd.ntmps6
      go_wp2_with fail
      refine HC.out.mono ?_
      rintro e w1 ⟨rfl, rfl⟩
      go_wp2_with fail
      refine HN.out.mono ?_
      rintro e w1 ⟨rfl, hm1, hr1⟩
      have HM1 := Lib.hid hm1
      have HR1 := Lib.hid hr1
      have HN2 := Lib.hid (new_any w1)
      clear hm1 hr1 HN HC
      go_wp2_with fail
      refine HN2.out.mono ?_
      rintro e w2 ⟨rfl, hr2, hb2, _⟩
      have S2 := Lib.hid (PSt.new HM1.out hr2 hb2 HR1.out)
      obtain ⟨R2, hR2⟩ : ∃ R2, R2 = w1.heap.size := ⟨_, rfl⟩
      rw [← hR2] at S2 ⊢
      clear hr2 hb2 HM1 HR1 HN2 hR2
      have P2 := Lib.hid (S2.out.push (T.extract 0 k) (by rw [hA1]; show 0 + k ≤ _; omega))
      rw [hA2] at P2
      go_wp2_with fail
      refine P2.out.mono ?_
      rintro e w3 ⟨⟨z3, rfl⟩, g3, s3⟩
      have S3 := Lib.hid s3
      have C3 := Lib.hid (s3.allC hF)
      rw [show pushR (T.data.toList.take k) (.live []) = .live (T.data.toList.take k) from rfl] at S3 C3
      rw [ho] at C3
      clear s3 S2 P2
      go_wp2_with fail
      refine C3.out.mono ?_
      rintro e w4 ⟨v4, g4, rfl, s4⟩
      obtain ⟨p4, c4, hv4⟩ := s4.row1.shape
      subst hv4
      have S4 := Lib.hid s4
      have P4 := Lib.hid (s4.push (T.extract k T.size) (by rw [hB1]; exact hfit))
      rw [hB2] at P4
      clear s4 S3 C3
      go_wp2_with fail
      refine P4.out.mono ?_
      rintro e w5 ⟨⟨z5, rfl⟩, g5, s5⟩
      have S5 := Lib.hid s5.swapL
      have C5 := Lib.hid (s5.swapL.allC hF)
      rw [ht] at C5
      clear s5 S4 P4
      go_wp2_with fail
      refine C5.out.mono ?_
      rintro e w6 ⟨v6, g6, rfl, s6⟩
      obtain ⟨p6, c6, hv6⟩ := s6.row1.shape
      subst hv6
      have S6 := Lib.hid s6.swapL
      have R61 := Lib.hid s6.row2
      have R62 := Lib.hid s6.row1
      have B6 := Lib.hid s6.below.size
      clear s6 S5 C5
      go_wp2_with (at_builtin; refine wpList_append_rows rfl _ _ rfl rfl R61.out rfl R62.out (by omega) B6.out ?_; intro v7 w7 hs7 hf7 hne7; obtain ⟨p7, c7, hv7⟩ := hs7.shape; subst hv7)
      have S7 := Lib.hid (S6.out.app hs7 hf7 hne7)
      have P7 := Lib.hid (S7.out.swap.push T (by show 0 + T.size ≤ _; omega))
      rw [hT2] at P7
      clear hs7 hf7 hne7 S6 R61 R62 B6
      refine P7.out.mono ?_
      rintro e w8 ⟨⟨z8, rfl⟩, g8, s8⟩
      have S8 := Lib.hid s8.swapL
      have C8 := Lib.hid (s8.swapL.allC hF)
      rw [hwh] at C8
      clear s8 S7 P7
      go_wp2_with fail
      refine C8.out.mono ?_
      rintro e w9 ⟨v9, g9, rfl, s9⟩
      obtain ⟨p9, c9, hv9⟩ := s9.row1.shape
      subst hv9
      have HS := Lib.hid (same_eq w9 w.heap.size w.heap.size _ _ (ob ++ tb) s9.row2 s9.row1 (by rw [List.length_append]; omega))
      rw [List.length_append] at HS
      have S9 := Lib.hid s9.swap
      clear s9 S8 C8
      go_wp2_with fail
      refine HS.out.mono ?_
      rintro e w10 ⟨rfl, hb10⟩
      have S10 := Lib.hid (S9.out.more hb10)
      have BR1 := Lib.hid S10.out.broken
      have BR2 := Lib.hid S10.out.swap.broken
      rw [hdd] at BR2
      clear hb10 S9 HS
      go_wp2_with fail
      refine BR1.out.mono ?_
      rintro e w11 ⟨rfl, rfl⟩
      go_wp2_with fail
      refine BR2.out.mono ?_
      rintro e w12 ⟨rfl, rfl⟩
      generalize RS.isDead tr = dd at *
      go_wp2_with fail
      refine (HAW.out _ S10.out.below).mono ?_
      rintro e w13 ⟨rfl, hb13⟩
      have HB13 := Lib.hid (S10.out.below.trans (hb13.mono S10.out.below.size))
      clear hb13
      go_wp2_with fail
      go_ret
      exact ⟨by simp, HB13.out⟩
    · have hz2 : (T.size : Int) < z := by omega
      have hz3 : 0 ≤ z := by omega
      clear hc
      go_enter Tryd.func6, Tryd.ntmps6
      go_wp2_with fail
      refine HC.out.mono ?_
      rintro e w1 ⟨rfl, rfl⟩
      go_wp2_with fail
      refine HN.out.mono ?_
      rintro e w1 ⟨rfl, hm1, hr1⟩
      have HM1 := Lib.hid hm1
      have HR1 := Lib.hid hr1
      have HN2 := Lib.hid (new_any w1)
      clear hm1 hr1 HN HC
      go_wp2_with fail
      refine HN2.out.mono ?_
      rintro e w2 ⟨rfl, hr2, hb2, _⟩
      have S2 := Lib.hid (PSt.new HM1.out hr2 hb2 HR1.out)
      obtain ⟨R2, hR2⟩ : ∃ R2, R2 = w1.heap.size := ⟨_, rfl⟩
      rw [← hR2] at S2 ⊢
      clear hr2 hb2 HM1 HR1 HN2 hR2
      have P2 := Lib.hid (S2.out.push (T.extract 0 k) (by rw [hA1]; show 0 + k ≤ _; omega))
      rw [hA2] at P2
      go_wp2_with fail
      refine P2.out.mono ?_
      rintro e w3 ⟨⟨z3, rfl⟩, g3, s3⟩
      have S3 := Lib.hid s3
      have C3 := Lib.hid (s3.allC hF)
      rw [show pushR (T.data.toList.take k) (.live []) = .live (T.data.toList.take k) from rfl] at S3 C3
      rw [ho] at C3
      clear s3 S2 P2
      go_wp2_with fail
      refine C3.out.mono ?_
      rintro e w4 ⟨v4, g4, rfl, s4⟩
      obtain ⟨p4, c4, hv4⟩ := s4.row1.shape
      subst hv4
      have S4 := Lib.hid s4
      have P4 := Lib.hid (s4.push (T.extract k T.size) (by rw [hB1]; exact hfit))
      rw [hB2] at P4
      clear s4 S3 C3
      go_wp2_with fail
      refine P4.out.mono ?_
      rintro e w5 ⟨⟨z5, rfl⟩, g5, s5⟩
      have S5 := Lib.hid s5.swapL
      have C5 := Lib.hid (s5.swapL.allC hF)
      rw [ht] at C5
      clear s5 S4 P4
      go_wp2_with fail
      refine C5.out.mono ?_
      rintro e w6 ⟨v6, g6, rfl, s6⟩
      obtain ⟨p6, c6, hv6⟩ := s6.row1.shape
      subst hv6
      have S6 := Lib.hid s6.swapL
      have R61 := Lib.hid s6.row2
      have R62 := Lib.hid s6.row1
      have B6 := Lib.hid s6.below.size
      clear s6 S5 C5
      go_wp2_with (at_builtin; refine wpList_append_rows rfl _ _ rfl rfl R61.out rfl R62.out (by omega) B6.out ?_; intro v7 w7 hs7 hf7 hne7; obtain ⟨p7, c7, hv7⟩ := hs7.shape; subst hv7)
      have S7 := Lib.hid (S6.out.app hs7 hf7 hne7)
      have P7 := Lib.hid (S7.out.swap.push T (by show 0 + T.size ≤ _; omega))
      rw [hT2] at P7
      clear hs7 hf7 hne7 S6 R61 R62 B6
      refine P7.out.mono ?_
      rintro e w8 ⟨⟨z8, rfl⟩, g8, s8⟩
      have S8 := Lib.hid s8.swapL
      have C8 := Lib.hid (s8.swapL.allC hF)
      rw [hwh] at C8
      clear s8 S7 P7
      go_wp2_with fail
      refine C8.out.mono ?_
      rintro e w9 ⟨v9, g9, rfl, s9⟩
      obtain ⟨p9, c9, hv9⟩ := s9.row1.shape
      subst hv9
      have HS := Lib.hid (same_eq w9 w.heap.size w.heap.size _ _ (ob ++ tb) s9.row2 s9.row1 (by rw [List.length_append]; omega))
      rw [List.length_append] at HS
      have S9 := Lib.hid s9.swap
      clear s9 S8 C8
      go_wp2_with fail
      refine HS.out.mono ?_
      rintro e w10 ⟨rfl, hb10⟩
      have S10 := Lib.hid (S9.out.more hb10)
      have BR1 := Lib.hid S10.out.broken
      have BR2 := Lib.hid S10.out.swap.broken
      rw [hdd] at BR2
      clear hb10 S9 HS
      go_wp2_with fail
      refine BR1.out.mono ?_
      rintro e w11 ⟨rfl, rfl⟩
      go_wp2_with fail
      refine BR2.out.mono ?_
      rintro e w12 ⟨rfl, rfl⟩
      generalize RS.isDead tr = dd at *
      go_wp2_with fail
      refine (HAW.out _ S10.out.below).mono ?_
      rintro e w13 ⟨rfl, hb13⟩
      have HB13 := Lib.hid (S10.out.below.trans (hb13.mono S10.out.below.size))
      clear hb13
      go_wp2_with fail
      go_ret
      exact ⟨by simp, HB13.out⟩
  · subst hkz
    have hz2 : ((k : Int) ≤ (T.size : Int)) := by omega
    clear hc
    go_enter Tryd.func6, Tryd.ntmps6
    go_wp2_with fail
    refine HC.out.mono ?_
    rintro e w1 ⟨rfl, rfl⟩
    go_wp2_with fail
    refine HN.out.mono ?_
    rintro e w1 ⟨rfl, hm1, hr1⟩
    have HM1 := Lib.hid hm1
    have HR1 := Lib.hid hr1
    have HN2 := Lib.hid (new_any w1)
    clear hm1 hr1 HN HC
    go_wp2_with fail
    refine HN2.out.mono ?_
    rintro e w2 ⟨rfl, hr2, hb2, _⟩
    have S2 := Lib.hid (PSt.new HM1.out hr2 hb2 HR1.out)
    obtain ⟨R2, hR2⟩ : ∃ R2, R2 = w1.heap.size := ⟨_, rfl⟩
    rw [← hR2] at S2 ⊢
    clear hr2 hb2 HM1 HR1 HN2 hR2
    have P2 := Lib.hid (S2.out.push (T.extract 0 k) (by rw [hA1]; show 0 + k ≤ _; omega))
    rw [hA2] at P2
    go_wp2_with fail
    refine P2.out.mono ?_
    rintro e w3 ⟨⟨z3, rfl⟩, g3, s3⟩
    have S3 := Lib.hid s3
    have C3 := Lib.hid (s3.allC hF)
    rw [show pushR (T.data.toList.take k) (.live []) = .live (T.data.toList.take k) from rfl] at S3 C3
    rw [ho] at C3
    clear s3 S2 P2
    go_wp2_with fail
    refine C3.out.mono ?_
    rintro e w4 ⟨v4, g4, rfl, s4⟩
    obtain ⟨p4, c4, hv4⟩ := s4.row1.shape
    subst hv4
    have S4 := Lib.hid s4
    have P4 := Lib.hid (s4.push (T.extract k T.size) (by rw [hB1]; exact hfit))
    rw [hB2] at P4
    clear s4 S3 C3
    go_wp2_with fail
    refine P4.out.mono ?_
    rintro e w5 ⟨⟨z5, rfl⟩, g5, s5⟩
    have S5 := Lib.hid s5.swapL
    have C5 := Lib.hid (s5.swapL.allC hF)
    rw [ht] at C5
    clear s5 S4 P4
    go_wp2_with fail
    refine C5.out.mono ?_
    rintro e w6 ⟨v6, g6, rfl, s6⟩
    obtain ⟨p6, c6, hv6⟩ := s6.row1.shape
    subst hv6
    have S6 := Lib.hid s6.swapL
    have R61 := Lib.hid s6.row2
    have R62 := Lib.hid s6.row1
    have B6 := Lib.hid s6.below.size
    clear s6 S5 C5
    go_wp2_with (at_builtin; refine wpList_append_rows rfl _ _ rfl rfl R61.out rfl R62.out (by omega) B6.out ?_; intro v7 w7 hs7 hf7 hne7; obtain ⟨p7, c7, hv7⟩ := hs7.shape; subst hv7)
    have S7 := Lib.hid (S6.out.app hs7 hf7 hne7)
    have P7 := Lib.hid (S7.out.swap.push T (by show 0 + T.size ≤ _; omega))
    rw [hT2] at P7
    clear hs7 hf7 hne7 S6 R61 R62 B6
    refine P7.out.mono ?_
    rintro e w8 ⟨⟨z8, rfl⟩, g8, s8⟩
    have S8 := Lib.hid s8.swapL
    have C8 := Lib.hid (s8.swapL.allC hF)
    rw [hwh] at C8
    clear s8 S7 P7
    go_wp2_with fail
    refine C8.out.mono ?_
    rintro e w9 ⟨v9, g9, rfl, s9⟩
    obtain ⟨p9, c9, hv9⟩ := s9.row1.shape
    subst hv9
    have HS := Lib.hid (same_eq w9 w.heap.size w.heap.size _ _ (ob ++ tb) s9.row2 s9.row1 (by rw [List.length_append]; omega))
    rw [List.length_append] at HS
    have S9 := Lib.hid s9.swap
    clear s9 S8 C8
    go_wp2_with fail
    refine HS.out.mono ?_
    rintro e w10 ⟨rfl, hb10⟩
    have S10 := Lib.hid (S9.out.more hb10)
    have BR1 := Lib.hid S10.out.broken
    have BR2 := Lib.hid S10.out.swap.broken
    rw [hdd] at BR2
    clear hb10 S9 HS
    go_wp2_with fail
    refine BR1.out.mono ?_
    rintro e w11 ⟨rfl, rfl⟩
    go_wp2_with fail
    refine BR2.out.mono ?_
    rintro e w12 ⟨rfl, rfl⟩
    generalize RS.isDead tr = dd at *
    go_wp2_with fail
    refine (HAW.out _ S10.out.below).mono ?_
    rintro e w13 ⟨rfl, hb13⟩
    have HB13 := Lib.hid (S10.out.below.trans (hb13.mono S10.out.below.size))
    clear hb13
    go_wp2_with fail
    go_ret
    exact ⟨by simp, HB13.out⟩
end Go.Proofs.YtmaihiklcdidbaaDoor
