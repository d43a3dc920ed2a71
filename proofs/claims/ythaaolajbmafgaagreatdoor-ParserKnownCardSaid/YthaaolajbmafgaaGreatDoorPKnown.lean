/- The walk of emendlaw11.ParserKnown. Condition: the variables that are read hold what their text lays. -/
import Derived.Test.YthaaolajbmafgaaGreatDoorPNest
namespace Go.Proofs.YthaaolajbmafgaaGreatDoor
open Go.RowKit
theorem fspec_none : FSpec (fun _ => True) (fun _ => 0) (fun _ => False) := ⟨fun _ _ _ _ => trivial, fun _ h => h.elim⟩
theorem badB_eq {R : Except (Int × Nat) Nd} {k : Int} {e : Nat} (h : badB R k e = true) : R = .error (k, e) := by
 unfold badB at h
 split at h
 · cases h
 · rename_i x
   rw [Bool.and_eq_true, decide_eq_true_eq, beq_iff_eq] at h
   rw [← h.1, ← h.2]
theorem okB_eq {R : Except (Int × Nat) Nd} (h : okB R = true) : ∃ n, R = .ok n := by
 unfold okB at h
 split at h
 · rename_i n; exact ⟨n, rfl⟩
 · cases h
theorem smallT_eq {R : Except (Int × Nat) Nd} (h : smallT R = true) : ∃ n, R = .ok n ∧ n.kind = 1 ∧ n.fro = 0 ∧ n.till = 10 ∧ n.at' = 8 ∧ n.name = ⟨#[112]⟩ ∧ n.kids = [] := by
 unfold smallT at h
 split at h
 · rename_i n
   rw [Bool.and_eq_true, Bool.and_eq_true, Bool.and_eq_true, Bool.and_eq_true, Bool.and_eq_true, decide_eq_true_eq, decide_eq_true_eq, decide_eq_true_eq, decide_eq_true_eq, beq_iff_eq, List.isEmpty_iff] at h
   exact ⟨n, rfl, h.1, h.2.1, h.2.2.1, h.2.2.2.1, by rw [← txt_back n.name, h.2.2.2.2.1]; rfl, h.2.2.2.2.2⟩
 · cases h
theorem nestP_len (n : Nat) : (nestP n).length = n + n + 29 := by
 unfold nestP
 rw [inP_len]
 simp
 omega
theorem nest_pack (n : Nat) (hn : n ≤ 1000) (ff : List UInt8 → Nat) (k : Int) (hf : noFl (nestP n) = true) (hb : badB (parsR ff (nestP n)) k 3 = true) : ∃ X : List UInt8, (∀ w : World, Calls Tryz.prog 16 #[.int .i64 0, .int .i64 (n : Int)] w fun e w' => e = .returned (.string (txt X)) ∧ Below w.heap.size w w') ∧ X.length ≤ 1000000 ∧ noFl X = true ∧ parsR ff X = .error (k, 3) :=
 ⟨nestP n, nest_any n hn, by rw [nestP_len]; omega, hf, badB_eq hb⟩
theorem text_pack (x : List UInt8) (Z : ByteArray) (ff : List UInt8 → Nat) (hz : Z = txt x) (hl : x.length ≤ 1000000) (hf : noFl x = true) (hb : okB (parsR ff x) = true) : ∃ X : List UInt8, Value.string Z = Value.string (txt X) ∧ X.length ≤ 1000000 ∧ noFl X = true ∧ okB (parsR ff X) = true := ⟨x, by rw [hz], hl, hf, hb⟩
section
variable {FW : World → Prop} {ff : List UInt8 → Nat} {OK : List UInt8 → Prop}
set_option maxRecDepth 100000 in
set_option maxHeartbeats 1000000 in
theorem pawake_any (hS : FSpec FW ff OK) (w : World) (hw : PW FW w) : Calls Tryz.prog 17 #[] w (YesEnd w) := by
 have HA := Lib.hid (tells_any hS _ _ (by decide) (tell_awake ff) w hw)
 clear hw hS
 go_enter Tryz.func17, Tryz.ntmps17
 go_wp2_with fail
 refine HA.out.mono ?_
 rintro ee w1 ⟨rfl, hb⟩
 have HB := Lib.hid hb
 clear hb
 go_wp2_with fail
 go_ret
 exact ⟨rfl, HB.out⟩
set_option maxRecDepth 100000 in
set_option maxHeartbeats 16000000 in
theorem pknown_any (hS : FSpec FW ff OK) (w : World) (hw : PW FW w) : Calls Tryz.prog 4 #[] w (YesEnd w) := by
 have HW : Hid (∀ W, Below w.heap.size w W → PW FW W) := Lib.hid (fun W hb => hw.below hS hb)
 have HB0 := Lib.hid (Below.refl w.heap.size w)
 have HS := Lib.hid hS
 obtain ⟨X2, hx2, hl2, hf2, hb2⟩ := nest_pack 127 (by decide) ff 85 float_127 (nest_127 ff)
 obtain ⟨X3, hx3, hl3, hf3, hb3⟩ := nest_pack 128 (by decide) ff 152 float_128 (nest_128 ff)
 have HX2 := Lib.hid (And.intro hx2 (And.intro hl2 (And.intro hf2 hb2)))
 have HX3 := Lib.hid (And.intro hx3 (And.intro hl3 (And.intro hf3 hb3)))
 clear hx2 hl2 hf2 hb2 hx3 hl3 hf3 hb3
 clear hw hS
 obtain ⟨Z, hZ⟩ : ∃ Z : Array UInt8, Z = (List.append [112, 97, 99, 107, 97, 103, 101, 32, 112, 10, 105, 109, 112, 111, 114, 116, 32, 34, 113, 34, 59, 32, 116, 121, 112, 101, 32, 84, 32, 115, 116, 114, 117, 99, 116, 32, 123, 32, 97, 32, 105, 110, 116, 59, 32] [98, 32, 113, 46, 84, 32, 125, 10, 102, 117, 110, 99, 32, 40, 116, 32, 84, 41, 32, 77, 40, 120, 32, 98, 111, 111, 108, 41, 32, 105, 110, 116, 32, 123, 32, 114, 101, 116, 117, 114, 110, 32, 49, 32, 125]).toArray := ⟨_, rfl⟩
 obtain ⟨X5, hx5, hl5, hf5, hb5⟩ := text_pack prs_3 ⟨Z⟩ ff (by rw [hZ]; kernel_rfl) (Nat.le_of_ble_eq_true (by kernel_rfl)) float_3 (parse_3 ff)
 have HX5 := Lib.hid (And.intro hx5 (And.intro hl5 (And.intro hf5 hb5)))
 clear hx5 hl5 hf5 hb5
 go_enter Tryz.func4, Tryz.ntmps4
 rw [← hZ]
 clear hZ
 go_wp2_with fail
 refine (parse_at HS.out prs_0 (by decide) float_0 _ (HW.out _ HB0.out)).mono ?_
 rintro ee w1 ⟨v0, rfl, hn, hb⟩
 have HB1 := Lib.hid (HB0.out.trans (hb.mono HB0.out.size))
 obtain ⟨n0, hR, g0, g1, g2, g3, g4, g5⟩ := smallT_eq (parse_0 ff)
 rw [hR] at hn ⊢
 have hn : NIn w1 _ n0 v0 := hn
 obtain ⟨ja0, jc0, rfl, -, -⟩ := hn.open
 simp only [placeOf, faultOf]
 rw [g0, g1, g2, g3, g4, g5]
 have hnm : ((txt [112]).toList == (⟨#[112]⟩ : ByteArray).toList) = true := by kernel_rfl
 clear hn hb hR g0 g1 g2 g3 g4 g5
 go_wp2_with fail
 refine (tells_any HS.out _ _ (by decide) (tell_0 ff) _ (HW.out _ (HB1.out.trans ((alloc_below _ _).mono HB1.out.size)))).mono ?_
 rintro ee w2 ⟨rfl, hb⟩
 have HB2 := Lib.hid ((HB1.out.trans ((alloc_below _ _).mono HB1.out.size)).trans (hb.mono (HB1.out.trans ((alloc_below _ _).mono HB1.out.size)).size))
 clear hb
 go_wp2_with fail
 refine (tells_any HS.out _ _ (by decide) (tell_1 ff) _ (HW.out _ HB2.out)).mono ?_
 rintro ee w3 ⟨rfl, hb⟩
 have HB3 := Lib.hid (HB2.out.trans (hb.mono HB2.out.size))
 clear hb
 go_wp2_with fail
 refine (tells_any HS.out _ _ (by decide) (tell_2 ff) _ (HW.out _ HB3.out)).mono ?_
 rintro ee w4 ⟨rfl, hb⟩
 have HB4 := Lib.hid (HB3.out.trans (hb.mono HB3.out.size))
 clear hb
 go_wp2_with fail
 refine (tells_any HS.out _ _ (by decide) (tell_3 ff) _ (HW.out _ HB4.out)).mono ?_
 rintro ee w5 ⟨rfl, hb⟩
 have HB5 := Lib.hid (HB4.out.trans (hb.mono HB4.out.size))
 clear hb
 go_wp2_with fail
 refine (tells_any HS.out _ _ (by decide) (tell_4 ff) _ (HW.out _ HB5.out)).mono ?_
 rintro ee w6 ⟨rfl, hb⟩
 have HB6 := Lib.hid (HB5.out.trans (hb.mono HB5.out.size))
 clear hb
 go_wp2_with fail
 refine (tells_any HS.out _ _ (by decide) (tell_5 ff) _ (HW.out _ HB6.out)).mono ?_
 rintro ee w7 ⟨rfl, hb⟩
 have HB7 := Lib.hid (HB6.out.trans (hb.mono HB6.out.size))
 clear hb
 go_wp2_with fail
 refine (tells_any HS.out _ _ (by decide) (tell_6 ff) _ (HW.out _ HB7.out)).mono ?_
 rintro ee w8 ⟨rfl, hb⟩
 have HB8 := Lib.hid (HB7.out.trans (hb.mono HB7.out.size))
 clear hb
 go_wp2_with fail
 refine (tells_any HS.out _ _ (by decide) (tell_7 ff) _ (HW.out _ HB8.out)).mono ?_
 rintro ee w9 ⟨rfl, hb⟩
 have HB9 := Lib.hid (HB8.out.trans (hb.mono HB8.out.size))
 clear hb
 go_wp2_with fail
 refine (tells_any HS.out _ _ (by decide) (tell_8 ff) _ (HW.out _ HB9.out)).mono ?_
 rintro ee w10 ⟨rfl, hb⟩
 have HB10 := Lib.hid (HB9.out.trans (hb.mono HB9.out.size))
 clear hb
 go_wp2_with fail
 refine (tells_any HS.out _ _ (by decide) (tell_9 ff) _ (HW.out _ HB10.out)).mono ?_
 rintro ee w11 ⟨rfl, hb⟩
 have HB11 := Lib.hid (HB10.out.trans (hb.mono HB10.out.size))
 clear hb
 go_wp2_with fail
 refine (tells_any HS.out _ _ (by decide) (tell_10 ff) _ (HW.out _ HB11.out)).mono ?_
 rintro ee w12 ⟨rfl, hb⟩
 have HB12 := Lib.hid (HB11.out.trans (hb.mono HB11.out.size))
 clear hb
 go_wp2_with fail
 refine (tells_any HS.out _ _ (by decide) (tell_11 ff) _ (HW.out _ HB12.out)).mono ?_
 rintro ee w13 ⟨rfl, hb⟩
 have HB13 := Lib.hid (HB12.out.trans (hb.mono HB12.out.size))
 clear hb
 go_wp2_with fail
 refine (tells_any HS.out _ _ (by decide) (tell_12 ff) _ (HW.out _ HB13.out)).mono ?_
 rintro ee w14 ⟨rfl, hb⟩
 have HB14 := Lib.hid (HB13.out.trans (hb.mono HB13.out.size))
 clear hb
 go_wp2_with fail
 refine (fails_any HS.out _ _ (by decide) (by decide) (fail_0 ff) _ (HW.out _ HB14.out)).mono ?_
 rintro ee w15 ⟨rfl, hb⟩
 have HB15 := Lib.hid (HB14.out.trans (hb.mono HB14.out.size))
 clear hb
 go_wp2_with fail
 refine (fails_any HS.out _ _ (by decide) (by decide) (fail_1 ff) _ (HW.out _ HB15.out)).mono ?_
 rintro ee w16 ⟨rfl, hb⟩
 have HB16 := Lib.hid (HB15.out.trans (hb.mono HB15.out.size))
 clear hb
 go_wp2_with fail
 refine (fails_any HS.out _ _ (by decide) (by decide) (fail_2 ff) _ (HW.out _ HB16.out)).mono ?_
 rintro ee w17 ⟨rfl, hb⟩
 have HB17 := Lib.hid (HB16.out.trans (hb.mono HB16.out.size))
 clear hb
 go_wp2_with fail
 refine (fails_any HS.out _ _ (by decide) (by decide) (fail_3 ff) _ (HW.out _ HB17.out)).mono ?_
 rintro ee w18 ⟨rfl, hb⟩
 have HB18 := Lib.hid (HB17.out.trans (hb.mono HB17.out.size))
 clear hb
 go_wp2_with fail
 refine (fails_any HS.out _ _ (by decide) (by decide) (fail_4 ff) _ (HW.out _ HB18.out)).mono ?_
 rintro ee w19 ⟨rfl, hb⟩
 have HB19 := Lib.hid (HB18.out.trans (hb.mono HB18.out.size))
 clear hb
 go_wp2_with fail
 refine (fails_any HS.out _ _ (by decide) (by decide) (fail_5 ff) _ (HW.out _ HB19.out)).mono ?_
 rintro ee w20 ⟨rfl, hb⟩
 have HB20 := Lib.hid (HB19.out.trans (hb.mono HB19.out.size))
 clear hb
 go_wp2_with fail
 refine (fails_any HS.out _ _ (by decide) (by decide) (fail_6 ff) _ (HW.out _ HB20.out)).mono ?_
 rintro ee w21 ⟨rfl, hb⟩
 have HB21 := Lib.hid (HB20.out.trans (hb.mono HB20.out.size))
 clear hb
 go_wp2_with fail
 refine (fails_any HS.out _ _ (by decide) (by decide) (fail_7 ff) _ (HW.out _ HB21.out)).mono ?_
 rintro ee w22 ⟨rfl, hb⟩
 have HB22 := Lib.hid (HB21.out.trans (hb.mono HB21.out.size))
 clear hb
 go_wp2_with fail
 refine (fails_any HS.out _ _ (by decide) (by decide) (fail_8 ff) _ (HW.out _ HB22.out)).mono ?_
 rintro ee w23 ⟨rfl, hb⟩
 have HB23 := Lib.hid (HB22.out.trans (hb.mono HB22.out.size))
 clear hb
 go_wp2_with fail
 refine (fails_any HS.out _ _ (by decide) (by decide) (fail_9 ff) _ (HW.out _ HB23.out)).mono ?_
 rintro ee w24 ⟨rfl, hb⟩
 have HB24 := Lib.hid (HB23.out.trans (hb.mono HB23.out.size))
 clear hb
 go_wp2_with fail
 refine (fails_any HS.out _ _ (by decide) (by decide) (fail_10 ff) _ (HW.out _ HB24.out)).mono ?_
 rintro ee w25 ⟨rfl, hb⟩
 have HB25 := Lib.hid (HB24.out.trans (hb.mono HB24.out.size))
 clear hb
 go_wp2_with fail
 refine (fails_any HS.out _ _ (by decide) (by decide) (fail_11 ff) _ (HW.out _ HB25.out)).mono ?_
 rintro ee w26 ⟨rfl, hb⟩
 have HB26 := Lib.hid (HB25.out.trans (hb.mono HB25.out.size))
 clear hb
 go_wp2_with fail
 refine (fails_any HS.out _ _ (by decide) (by decide) (fail_12 ff) _ (HW.out _ HB26.out)).mono ?_
 rintro ee w27 ⟨rfl, hb⟩
 have HB27 := Lib.hid (HB26.out.trans (hb.mono HB26.out.size))
 clear hb
 go_wp2_with fail
 refine (fails_any HS.out _ _ (by decide) (by decide) (fail_13 ff) _ (HW.out _ HB27.out)).mono ?_
 rintro ee w28 ⟨rfl, hb⟩
 have HB28 := Lib.hid (HB27.out.trans (hb.mono HB27.out.size))
 clear hb
 go_wp2_with fail
 refine (fails_any HS.out _ _ (by decide) (by decide) (fail_14 ff) _ (HW.out _ HB28.out)).mono ?_
 rintro ee w29 ⟨rfl, hb⟩
 have HB29 := Lib.hid (HB28.out.trans (hb.mono HB28.out.size))
 clear hb
 go_wp2_with fail
 refine (fails_any HS.out _ _ (by decide) (by decide) (fail_15 ff) _ (HW.out _ HB29.out)).mono ?_
 rintro ee w30 ⟨rfl, hb⟩
 have HB30 := Lib.hid (HB29.out.trans (hb.mono HB29.out.size))
 clear hb
 go_wp2_with fail
 refine (parse_at HS.out prs_1 (by decide) float_1 _ (HW.out _ HB30.out)).mono ?_
 rintro ee w31 ⟨v1, rfl, hn, hb⟩
 have HB31 := Lib.hid (HB30.out.trans (hb.mono HB30.out.size))
 rw [badB_eq (parse_1 ff)] at hn ⊢
 have hn : NIn w31 _ noTree v1 := hn
 obtain ⟨ja1, jc1, rfl, -, -⟩ := hn.open
 simp only [placeOf, faultOf]
 rw [show noTree.kind = 0 from rfl]
 clear hn hb
 go_wp2_with fail
 refine (HX2.out.1 _).mono ?_
 rintro ee w32 ⟨rfl, hb⟩
 have HB32 := Lib.hid ((HB31.out.trans ((alloc_below _ _).mono HB31.out.size)).trans (hb.mono (HB31.out.trans ((alloc_below _ _).mono HB31.out.size)).size))
 clear hb
 go_wp2_with fail
 refine (parse_at HS.out X2 HX2.out.2.1 HX2.out.2.2.1 _ (HW.out _ HB32.out)).mono ?_
 rintro ee w33 ⟨v2, rfl, hn, hb⟩
 have HB33 := Lib.hid (HB32.out.trans (hb.mono HB32.out.size))
 rw [HX2.out.2.2.2] at hn ⊢
 have hn : NIn w33 _ noTree v2 := hn
 obtain ⟨ja2, jc2, rfl, -, -⟩ := hn.open
 simp only [placeOf, faultOf]
 rw [show noTree.kind = 0 from rfl]
 clear hn hb
 go_wp2_with fail
 refine (HX3.out.1 _).mono ?_
 rintro ee w34 ⟨rfl, hb⟩
 have HB34 := Lib.hid ((HB33.out.trans ((alloc_below _ _).mono HB33.out.size)).trans (hb.mono (HB33.out.trans ((alloc_below _ _).mono HB33.out.size)).size))
 clear hb
 go_wp2_with fail
 refine (parse_at HS.out X3 HX3.out.2.1 HX3.out.2.2.1 _ (HW.out _ HB34.out)).mono ?_
 rintro ee w35 ⟨v3, rfl, hn, hb⟩
 have HB35 := Lib.hid (HB34.out.trans (hb.mono HB34.out.size))
 rw [HX3.out.2.2.2] at hn ⊢
 have hn : NIn w35 _ noTree v3 := hn
 obtain ⟨ja3, jc3, rfl, -, -⟩ := hn.open
 simp only [placeOf, faultOf]
 rw [show noTree.kind = 0 from rfl]
 clear hn hb
 go_wp2_with fail
 refine (parse_at HS.out prs_2 (by decide) float_2 _ (HW.out _ (HB35.out.trans ((alloc_below _ _).mono HB35.out.size)))).mono ?_
 rintro ee w36 ⟨v4, rfl, hn, hb⟩
 have HB36 := Lib.hid ((HB35.out.trans ((alloc_below _ _).mono HB35.out.size)).trans (hb.mono (HB35.out.trans ((alloc_below _ _).mono HB35.out.size)).size))
 rw [badB_eq (parse_2 ff)] at hn ⊢
 have hn : NIn w36 _ noTree v4 := hn
 obtain ⟨ja4, jc4, rfl, -, -⟩ := hn.open
 simp only [placeOf, faultOf]
 rw [show noTree.kind = 0 from rfl]
 clear hn hb
 go_wp2_with fail
 rw [HX5.out.1]
 refine (parse_at HS.out X5 HX5.out.2.1 HX5.out.2.2.1 _ (HW.out _ (HB36.out.trans ((alloc_below _ _).mono HB36.out.size)))).mono ?_
 rintro ee w37 ⟨v5, rfl, hn, hb⟩
 have HB37 := Lib.hid ((HB36.out.trans ((alloc_below _ _).mono HB36.out.size)).trans (hb.mono (HB36.out.trans ((alloc_below _ _).mono HB36.out.size)).size))
 obtain ⟨n5, hR5⟩ := okB_eq HX5.out.2.2.2
 rw [hR5] at hn ⊢
 have hn : NIn w37 _ n5 v5 := hn
 obtain ⟨ja5, jc5, rfl, -, -⟩ := hn.open
 simp only [placeOf, faultOf]
 clear hn hb hR5
 go_wp2_with fail
 refine (pawake_any HS.out _ (HW.out _ (HB37.out.trans ((alloc_below _ _).mono HB37.out.size)))).mono ?_
 rintro ee w38 ⟨rfl, hb⟩
 have HB38 := Lib.hid ((HB37.out.trans ((alloc_below _ _).mono HB37.out.size)).trans (hb.mono (HB37.out.trans ((alloc_below _ _).mono HB37.out.size)).size))
 clear hb
 go_wp2_with fail
 go_ret
 exact ⟨rfl, HB38.out⟩
end
theorem parserKnown_law (w : World) (hF : Facts w) : Calls Tryz.prog 4 #[] w fun e w' => e = .returned (.bool true) ∧ Below w.heap.size w w' := pknown_any fspec_none w ⟨hF, trivial⟩
end Go.Proofs.YthaaolajbmafgaaGreatDoor
