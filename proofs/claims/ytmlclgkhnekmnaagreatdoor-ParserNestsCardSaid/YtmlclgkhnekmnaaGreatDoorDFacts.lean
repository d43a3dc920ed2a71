/- Part of a proof. -/
import Derived.Test.YtmlclgkhnekmnaaGreatDoorDBits
import Derived.Test.YtmlclgkhnekmnaaGreatDoorDSet
import Derived.Test.YtmlclgkhnekmnaaGreatDoorFltZ
namespace Go.Proofs.YtmlclgkhnekmnaaGreatDoor
open Go.RowKit
structure SlowIn (W : World) : Prop where
 expb : W.cell? ⟨8, 1, none⟩ = some (.int .u64 11)
 bias : W.cell? ⟨8, 2, none⟩ = some (.int .i64 (-1023))
 pow : ∃ R o cap, W.cell? ⟨10, 0, none⟩ = some (.slice (some ⟨R, o, none⟩) 9 cap) ∧ ∀ i, i < 9 → W.cell? ⟨R, o + i, none⟩ = some (.int .i64 (pw i : Nat))
 cheat : ∃ R o cap, W.cell? ⟨14, 0, none⟩ = some (.slice (some ⟨R, o, none⟩) 61 cap) ∧ ∀ i, i < 61 → 1 ≤ i → W.cell? ⟨R, o + i * 2, none⟩ = some (.int .i64 (dlt i : Int)) ∧ ∃ s, CutIs i s ∧ W.cell? ⟨R, o + i * 2 + 1, none⟩ = some (.string s)
theorem cell_low {W : World} {k i : Nat} {v : Value} (h : W.cell? ⟨k, i, none⟩ = some v) : k < W.heap.size := by
 rcases Nat.lt_or_ge k W.heap.size with h' | h'
 · exact h'
 · simp [World.cell?, Array.getElem?_eq_none h'] at h
theorem SlowIn.below {W W' : World} (h : SlowIn W) (hb : Below W.heap.size W W') : SlowIn W' := by
 obtain ⟨R, o, cap, h1, h2⟩ := h.pow
 obtain ⟨R2, o2, cap2, h3, h4⟩ := h.cheat
 refine ⟨cell_keep2 hb h.expb, cell_keep2 hb h.bias, ⟨R, o, cap, cell_keep2 hb h1, fun i hi => cell_keep2 hb (h2 i hi)⟩, R2, o2, cap2, cell_keep2 hb h3, fun i hi hj => ?_⟩
 obtain ⟨a, s, b, c⟩ := h4 i hi hj
 exact ⟨cell_keep2 hb a, s, b, cell_keep2 hb c⟩
theorem SlowIn.bit {W : World} (h : SlowIn W) (hF : FltFacts W) : BitIn W.heap.size W := by
 obtain ⟨R, o, cap, h1, h2⟩ := h.pow
 obtain ⟨R2, o2, cap2, h3, h4⟩ := h.cheat
 exact ⟨⟨cell_low h3, R2, o2, cap2, cell_low (h4 1 (by decide) (by decide)).1, h3, h4⟩, cell_low h.expb, cell_low h1, hF.mant, h.expb, h.bias, R, o, cap, cell_low (h2 0 (by decide)), h1, h2⟩
theorem ex_bounds (l : List UInt8) (f : Nat) : ∀ n, (∀ j, j < n → 48 ≤ nth l (f + j) ∧ nth l (f + j) ≤ 57) → 0 ≤ exAt l f n ∧ exAt l f n < 10 ^ n
 | 0, _ => by simp [exAt]
 | n + 1, h => by
  obtain ⟨a, b⟩ := ex_bounds l f n (fun j hj => h j (by omega))
  obtain ⟨c, d⟩ := h n (by omega)
  rw [exAt, Int.pow_succ]
  generalize (10 : Int) ^ n = P at *
  omega
theorem dp_bounds {l : List UInt8} {q : Nat} (hq : floatQ l = q) (hl : l.length ≤ 60) (hE : q = l.length ∨ (q < l.length ∧ EForm l q (floatX l))) : -100000 ≤ rfDp l ∧ rfDp l ≤ 100000 := by
 have hb := rf_bounds l q
 unfold rfDp
 rw [hq]
 rcases hE with h | ⟨h, E⟩
 · rw [if_pos h]; omega
 · rw [if_neg (by omega)]
   have f2 := E.f2
   have f3 := E.f3
   generalize hX : exAt l (floatX l) (l.length - floatX l) = X
   obtain ⟨a, b⟩ := ex_bounds l (floatX l) (l.length - floatX l) (fun j hj => E.dig _ (by omega) (by omega))
   rw [hX] at a b
   have c : (10 : Int) ^ (l.length - floatX l) ≤ 1000 := by
    have : (10 : Nat) ^ (l.length - floatX l) ≤ 10 ^ 3 := Nat.pow_le_pow_right (by decide) (by omega)
    have e3 : (10 : Nat) ^ 3 = 1000 := by decide
    rw [e3] at this
    have h5 : (((10 : Nat) ^ (l.length - floatX l) : Nat) : Int) ≤ 1000 := by omega
    rw [Int.natCast_pow] at h5
    exact h5
   split <;> omega
theorem zero_row : Tryz.zeroCells191 = (List.replicate 800 (Value.int .u8 0) ++ [Value.int .i64 0, Value.int .i64 0, Value.bool false, Value.bool false]).toArray := by kernel_rfl
theorem new_dec (w : World) : RIn (w.alloc (.cells Tryz.zeroCells191 191)) w.heap.size (fun _ => 0) 0 0 false := by
 have ht := alloc_top w Tryz.zeroCells191 191
 have hl : (List.replicate 800 (Value.int .u8 0)).length = 800 := List.length_replicate
 refine ⟨fun i => frozen_of_row _ _ _ _ _ ht, fun i hi => ?_, fun _ _ => by decide, ?_, ?_, ?_, ?_⟩
 · rw [cell_at ht, zero_row, List.getElem?_toArray, List.getElem?_append_left (by rw [hl]; exact hi), List.getElem?_replicate, if_pos hi]
   rfl
 · rw [cell_at ht, zero_row, List.getElem?_toArray, List.getElem?_append_right (by rw [hl]; decide), hl]; rfl
 · rw [cell_at ht, zero_row, List.getElem?_toArray, List.getElem?_append_right (by rw [hl]; decide), hl]; rfl
 · rw [cell_at ht, zero_row, List.getElem?_toArray, List.getElem?_append_right (by rw [hl]; decide), hl]; rfl
 · rw [cell_at ht, zero_row, List.getElem?_toArray, List.getElem?_append_right (by rw [hl]; decide), hl]; rfl
set_option maxRecDepth 100000 in
set_option maxHeartbeats 2000000 in
theorem atof_slow (H L : Nat → Nat) (s : ByteArray) (hs : s.size ≤ 60) (hf : floatB s.data.toList = true) (hS : Special s) (M : Nat) (hM : M ≠ 0) (hMr : (M : Int) = rfM s.data.toList) (hM2 : M < 18446744073709551615) (E : Int) (hR : ReadsAs s M E true) (h1 : -345 ≤ E) (h2 : E ≤ 310)
 (X1 X2 : Nat) (err1 err2 : Bool)
 (hP1 : ∀ w, PowIn H L w → Calls Tryz.prog 222 #[.int .u64 (M : Int), .int .i64 E, .int .u64 0] w fun e' w' => e' = .returned (.tuple #[.float .f64 X1, errV err1]) ∧ Below w.heap.size w w')
 (hP2 : ∀ w, PowIn H L w → Calls Tryz.prog 222 #[.int .u64 ((M : Int) + 1), .int .i64 E, .int .u64 0] w fun e' w' => e' = .returned (.tuple #[.float .f64 X2, errV err2]) ∧ Below w.heap.size w w')
 (hx : (FloatKind.f64.format.order X1 X2 == some Ordering.eq) = false) : ∃ err : Bool, ∀ w, FltFacts w → PowIn H L w → SlowIn w → Calls Tryz.prog 204 #[.string s] w (AtEnd err s.size w) := by
 obtain ⟨F, hform⟩ := float_form _ hf
 have hsz : s.data.toList.length = s.size := rfl
 obtain ⟨q, hq⟩ : ∃ q, floatQ s.data.toList = q := ⟨_, rfl⟩
 have hE : q = s.size ∨ (q < s.size ∧ EForm s.data.toList q (floatX s.data.toList)) := by
  rcases hform with h | ⟨h, h'⟩
  · exact .inl (by rw [← hq, h]; rfl)
  · refine .inr ⟨by rw [← hq]; exact h, ?_⟩
    have := exp_form _ _ h h'
    rw [← hq]
    exact this
 rw [hq] at F
 have hmm := rf_m F q (Nat.le_refl _)
 have hbd := rf_bounds s.data.toList q
 have hnd : 1 ≤ (rfAt s.data.toList q).nd := by
  rcases Nat.eq_zero_or_pos (rfAt s.data.toList q).nd with e | e
  · have e2 : (rfAt s.data.toList q).nm = 0 := by omega
    rw [e2] at hmm
    have : rfM s.data.toList = (rfAt s.data.toList q).m := by unfold rfM; rw [hq]
    rw [this] at hMr
    simp at hmm
    omega
  · exact e
 obtain ⟨x, hxd⟩ : ∃ x : Dc, x = ⟨dAt s.data.toList q, (rfAt s.data.toList q).nd, rfDp s.data.toList, false⟩ := ⟨_, rfl⟩
 have hlen := (dAt_len F q (Nat.le_refl _)).2.resolve_left (by omega)
 have hok : x.Ok := by rw [hxd]; exact ⟨hlen, by simp only; omega⟩
 have hdp : -100000 ≤ x.dp ∧ x.dp ≤ 100000 := by rw [hxd]; exact dp_bounds hq (by rw [hsz]; exact hs) hE
 refine ⟨bitsOv x, fun w h hPw hSl => ?_⟩
 have q1 : (((M : Nat) : Int) == 0) = false := by simp only [beq_eq_false_iff_ne, ne_eq]; omega
 have ho := h.opt
 have HA := Lib.hid (hP1 w hPw)
 have HPP := Lib.hid (fun (W : World) (hb : Below w.heap.size w W) => hP2 W (fun i hi => ⟨cell_keep2 hb (hPw i hi).1, cell_keep2 hb (hPw i hi).2⟩))
 have HSI := Lib.hid (fun (W : World) (hb : Below w.heap.size w W) => (hSl.below hb).bit (h.below hb))
 have HOK := Lib.hid (show x.Ok ∧ -100000 ≤ x.dp ∧ x.dp ≤ 100000 from ⟨hok, hdp⟩)
 have HSET := Lib.hid (fun (g : Nat) (W : World) (h : RIn W g (fun _ => 0) 0 0 false) => set_any g s hs (wholeEnd s.data.toList) q hq F hE W h)
 have HXD := Lib.hid hxd
 have hfr := frombits_run
 clear h hP1 hP2 hPw hSl hok hdp hxd hlen hnd hbd hmm F hE hform hMr hf hq hsz
 go_enter Tryz.func204, Tryz.ntmps204
 go_wp2_with fail
 refine (hS _).mono ?_
 rintro e w' ⟨rfl, rfl⟩
 go_wp2_with fail
 refine (hR _).mono ?_
 rintro e w' ⟨rfl, rfl⟩
 go_wp2_with fail
 refine (bool2false _).mono ?_
 rintro e w' ⟨rfl, rfl⟩
 go_wp2_with fail
 refine HA.out.mono ?_
 rintro e w1 ⟨rfl, hb⟩
 have HB := Lib.hid hb
 clear hb
 go_wp2_with fail
 refine (HPP.out _ HB.out).mono ?_
 rintro e w2 ⟨rfl, hb⟩
 have HB2 := Lib.hid (HB.out.trans (hb.mono HB.out.size))
 clear hb
 go_wp2_with fail
 have HZ := Lib.hid (new_dec w2)
 have HZB := Lib.hid (alloc_below w2 (.cells Tryz.zeroCells191 191))
 have HBI2 := Lib.hid (HSI.out w2 HB2.out)
 generalize w2.alloc (.cells Tryz.zeroCells191 191) = wz at *
 refine (HSET.out w2.heap.size wz HZ.out).mono ?_
 rintro e w3 ⟨rfl, ⟨f, y1, y2⟩, y3⟩
 have HDI : Hid (DIn w3 w2.heap.size x) := Lib.hid ⟨f, by rw [HXD.out]; exact y1, by rw [HXD.out]; exact y2⟩
 have HB3 : Hid (Below w2.heap.size w2 w3) := Lib.hid (Below.trans HZB.out y3)
 have HBI3 := Lib.hid (HBI2.out.below HB3.out)
 have HBits := Lib.hid (bits_any w2.heap.size w2.heap.size (Nat.le_refl _) x HOK.out.1 HOK.out.2 w3 HBI3.out HDI.out)
 unfold BEnd at HBits
 clear y1 y2 y3 HSET HPP HSI
 go_wp2_with fail
 refine HBits.out.mono ?_
 rintro e w4 ⟨b, rfl, y4⟩
 have HB4 : Hid (Below w.heap.size w w4) := Lib.hid (HB2.out.trans ((Below.trans HB3.out y4).mono HB2.out.size))
 clear y4
 cases hov : bitsOv x
 all_goals
  have HOVV := Lib.hid hov
  clear hov
  go_wp2_with fail
  go_ret3
  rw [HOVV.out]
  exact ⟨_, rfl, HB4.out⟩
theorem slow_any (H L : Nat → Nat) (hH : ∀ i, H i < 18446744073709551616) (hL : ∀ i, L i < 18446744073709551616) {FW : World → Prop} (hFW : ∀ w, FW w → FltFacts w ∧ PowIn H L w ∧ SlowIn w) : Slow FW := by
 intro s hs hf hT h0 h1 h2
 obtain ⟨M, hM, hM2, hR⟩ := reads_of hs hf
 have hS := special_of hs (float_form _ hf).1
 have hMz : M ≠ 0 := by omega
 rw [hT] at hR
 obtain ⟨X1, err1, hP1⟩ := pfParse_any H L hH hL M (by omega) (rfE s.data.toList) h1 h2
 obtain ⟨X2, err2, hP2⟩ := pfParse_any H L hH hL (M + 1) (by omega) (rfE s.data.toList) h1 h2
 cases hx : (FloatKind.f64.format.order X1 X2 == some Ordering.eq) with
 | true => exact ⟨err1, fun w hw => atof_near H L s hS M hMz (by omega) _ hR h1 h2 X1 X2 err1 err2 hP1 hP2 hx w (hFW w hw).1 (hFW w hw).2.1⟩
 | false =>
  obtain ⟨err, hE⟩ := atof_slow H L s hs hf hS M hMz hM (by omega) _ hR h1 h2 X1 X2 err1 err2 hP1 hP2 hx
  exact ⟨err, fun w hw => hE w (hFW w hw).1 (hFW w hw).2.1 (hFW w hw).2.2⟩
end Go.Proofs.YtmlclgkhnekmnaaGreatDoor
namespace Go.Proofs.YtmlclgkhnekmnaaGreatDoor
open Go.ChangeShapes Go.WideShapes Go.ChangeAt Go.RowKit Go.Lib
theorem info_of_reads {W : World} (h : VarReads Tryz.prog W "internal/strconv.float64info" Rows.laid_internal_strconv_float64info) : W.cell? ⟨8, 1, none⟩ = some (.int .u64 11) ∧ W.cell? ⟨8, 2, none⟩ = some (.int .i64 (-1023)) := by
 obtain ⟨g, t, cs, fuel, p, hg, hty, hvar, hd⟩ := h
 obtain rfl := Option.some.inj ((show Tryz.prog.globalNamed "internal/strconv.float64info" = some 8 by kernel_rfl).symm.trans hg)
 obtain rfl := Option.some.inj ((show (Tryz.prog.globals[8]?).map (·.type) = some 181 by kernel_rfl).symm.trans hty)
 obtain ⟨xs, n, rfl, hx, hl, hxl, hall⟩ := DataW.trod_struct Tryz.underlying181 hd
 have h1 := hall 1 _ rfl
 have h2 := hall 2 _ rfl
 have e0 := congrArg Prod.fst hx
 simp only [Rows.laid_internal_strconv_float64info, DataW.agg.injEq] at e0
 have e1 := congrArg (·[1]?) e0
 have e2 := congrArg (·[2]?) e0
 simp only [List.getElem?_map] at e1 e2
 constructor
 · cases hx0 : xs[1]? with
   | none => rw [hx0] at e1; simp at e1
   | some b =>
    rw [hx0] at e1 h1
    have e1 := Option.some.inj e1
    obtain ⟨b1, b2⟩ := b
    subst e1
    obtain ⟨z, hz, hbz, _⟩ := DataW.trod_int (show Tryz.prog.underlying 125 = some (.int .u64) by kernel_rfl) h1
    rw [World.var?_cell hg hvar 1]
    have c1 : Tryz.prog.cellsOf 125 = 1 := by kernel_rfl
    have hz2 : (cs.toList.drop 1).take (Tryz.prog.cellsOf 125) = [.int .u64 z] := hz
    rw [c1] at hz2
    have h3 := congrArg (·[0]?) hz2
    simp only [List.getElem?_take, List.getElem?_drop, List.getElem?_cons_zero] at h3
    have hz3 : z = 11 := by
     have h4 : z = 11 ∧ b2 = [] := by simpa using hbz.symm
     exact h4.1
    subst hz3
    simpa using h3
 · cases hx0 : xs[2]? with
   | none => rw [hx0] at e2; simp at e2
   | some b =>
    rw [hx0] at e2 h2
    have e2 := Option.some.inj e2
    obtain ⟨b1, b2⟩ := b
    subst e2
    obtain ⟨z, hz, hbz, _⟩ := DataW.trod_int (show Tryz.prog.underlying 3 = some (.int .i64) by kernel_rfl) h2
    rw [World.var?_cell hg hvar 2]
    have c1 : Tryz.prog.cellsOf 3 = 1 := by kernel_rfl
    have hz2 : (cs.toList.drop 2).take (Tryz.prog.cellsOf 3) = [.int .i64 z] := hz
    rw [c1] at hz2
    have h3 := congrArg (·[0]?) hz2
    simp only [List.getElem?_take, List.getElem?_drop, List.getElem?_cons_zero] at h3
    have hz3 : z = -1023 := by
     have h4 : z = -1023 ∧ b2 = [] := by simpa using hbz.symm
     exact h4.1
    subst hz3
    simpa using h3
def intData (l : List Int) : DataW Unit := .slice (l.map fun x => .lit (.int .i64 x)) []
theorem islice_of_reads {W : World} {name : String} {g : Nat} {t e : TypeId} {l : List Int} (hn : Tryz.prog.globalNamed name = some g) (hy : (Tryz.prog.globals[g]?).map (·.type) = some t)
 (ht : Tryz.prog.underlying t = some (.slice e)) (he : Tryz.prog.underlying e = some (.int .i64)) (hc : Tryz.prog.cellsOf e = 1) (hl : 0 < l.length) (h : VarReads Tryz.prog W name (intData l)) :
 ∃ R o cap, W.cell? ⟨g, 0, none⟩ = some (.slice (some ⟨R, o, none⟩) l.length cap) ∧ ∀ i, i < l.length → W.cell? ⟨R, o + i, none⟩ = some (.int .i64 (l.getD i 0)) := by
 obtain ⟨g', t', cs, fuel, p, hg, hty, hvar, hd⟩ := h
 obtain rfl := Option.some.inj (hn.symm.trans hg)
 obtain rfl := Option.some.inj (hy.symm.trans hty)
 rcases DataW.trod_slice ht hd with ⟨_, hx⟩ | ⟨a, len, cap, el, rs, m, rfl, hcs, hx, _, hlc, _, hel, helem, hsp, _⟩
 · cases hx
 have e0 := congrArg Prod.fst hx
 simp only [intData, DataW.slice.injEq] at e0
 obtain ⟨eE, eR⟩ := e0
 have hlen : len = l.length := by
  have := congrArg List.length eE
  simp at this
  omega
 have hcell : ∀ i, i < l.length → W.cell? (a.add i) = some (.int .i64 (l.getD i 0)) := by
  intro i hi
  have h1 := helem i (by omega)
  rw [hc] at h1
  obtain ⟨b, hb⟩ : ∃ b, el[i]? = some b := ⟨el[i]'(by omega), List.getElem?_eq_getElem (by omega)⟩
  rw [hb] at h1
  obtain ⟨ce, hce, hte⟩ := Option.bind_eq_some_iff.1 h1
  have hb1 : b.1 = .lit (.int .i64 (l.getD i 0)) := by
   have := congrArg (·[i]?) eE
   simp [hb, hi] at this
   have e2 : l.getD i 0 = l[i] := by simp [List.getD, List.getElem?_eq_getElem hi]
   rw [e2]
   exact this.symm
  obtain ⟨b1, b2⟩ := b
  simp only at hb1
  subst hb1
  obtain ⟨z, hz, hbz, _⟩ := DataW.trod_int he hte
  have hz3 : z = l.getD i 0 := by
   have h4 := congrArg Prod.fst hbz
   simpa using h4.symm
  subst hz3
  obtain ⟨_, _, hcc⟩ := World.cells?_some hce
  have := hcc 0 (by omega)
  rw [hz] at this
  simp only [Nat.mul_one] at this
  have e1 : (a.add i).add 0 = a.add i := by simp [Addr.add]
  rw [e1] at this
  rw [this]
  rfl
 obtain ⟨R, o, sR⟩ := a
 obtain rfl : sR = none := by
  have h00 := hcell 0 hl
  have : (Addr.add ⟨R, o, sR⟩ 0) = ⟨R, o, sR⟩ := by simp [Addr.add]
  rw [this] at h00
  exact Go.Proofs.cell_spot h00
 refine ⟨R, o, cap, ?_, fun j hj => ?_⟩
 · rw [World.var?_cell hg hvar 0, ← Array.getElem?_toList, hcs, hlen]
   rfl
 · have := hcell j hj
   rwa [Addr.add_lit] at this
def powZ : List Int := [1, 3, 6, 9, 13, 16, 19, 23, 26]
theorem pow_data : (Rows.laid_internal_strconv_powtab : DataW Unit) = intData powZ := by kernel_rfl
theorem powZ_at : ∀ i, i < 9 → powZ.getD i 0 = ((pw i : Nat) : Int) := by decide
theorem cheat_of_reads {W : World} (h : VarReads Tryz.prog W "internal/strconv.leftcheats" Rows.laid_internal_strconv_leftcheats) :
 ∃ R o cap, W.cell? ⟨14, 0, none⟩ = some (.slice (some ⟨R, o, none⟩) 61 cap) ∧ ∀ (i : Nat) (r : Nat × List UInt8), Go.Pinned.cheatRows[i]? = some r → W.cell? ⟨R, o + i * 2, none⟩ = some (.int .i64 (r.1 : Int)) ∧ W.cell? ⟨R, o + i * 2 + 1, none⟩ = some (.string ⟨r.2.toArray⟩) := by
 obtain ⟨g', t', cs, fuel, p, hg, hty, hvar, hd⟩ := h
 obtain rfl := Option.some.inj ((show Tryz.prog.globalNamed "internal/strconv.leftcheats" = some 14 by kernel_rfl).symm.trans hg)
 obtain rfl := Option.some.inj ((show (Tryz.prog.globals[14]?).map (·.type) = some 237 by kernel_rfl).symm.trans hty)
 have hrl : Go.Pinned.cheatRows.length = 61 := by decide +kernel
 have hc : Tryz.prog.cellsOf 236 = 2 := by kernel_rfl
 rcases DataW.trod_slice Tryz.underlying237 hd with ⟨_, hx⟩ | ⟨a, len, cap, el, rs, m, rfl, hcs, hx, _, hlc, _, hel, helem, hsp, _⟩
 · cases hx
 have e0 := congrArg Prod.fst hx
 simp only [Rows.laid_internal_strconv_leftcheats, Go.Pinned.leftcheats, DataW.slice.injEq] at e0
 obtain ⟨eE, eR⟩ := e0
 have hlen : len = 61 := by
  have := congrArg List.length eE
  simp at this
  omega
 have hcell : ∀ (i : Nat) (r : Nat × List UInt8), Go.Pinned.cheatRows[i]? = some r → W.cell? (a.add (i * 2)) = some (.int .i64 (r.1 : Int)) ∧ W.cell? ((a.add (i * 2)).add 1) = some (.string ⟨r.2.toArray⟩) := by
  intro i r hr
  have hi : i < Go.Pinned.cheatRows.length := (List.getElem?_eq_some_iff.1 hr).1
  have h1 := helem i (by omega)
  rw [hc] at h1
  obtain ⟨b, hb⟩ : ∃ b, el[i]? = some b := ⟨el[i]'(by omega), List.getElem?_eq_getElem (by omega)⟩
  rw [hb] at h1
  obtain ⟨ce, hce, hte⟩ := Option.bind_eq_some_iff.1 h1
  have hb1 : b.1 = .agg [.lit (.int .i64 r.1), .lit (.string r.2)] := by
   have := congrArg (·[i]?) eE
   simp only [List.getElem?_map, hb, hr, Option.map_some, Option.some.injEq] at this
   exact this.symm
  obtain ⟨b1, b2⟩ := b
  simp only at hb1
  subst hb1
  obtain ⟨ys, m1, hm1, hy2, hyl, hyl2, hall2⟩ := DataW.trod_struct Tryz.underlying236 hte
  have y0 := hall2 0 _ rfl
  have y1 := hall2 1 _ rfl
  have e1 := congrArg Prod.fst hy2
  simp only [DataW.agg.injEq] at e1
  have hlen2 : ys.length = 2 := by
   have := congrArg List.length e1
   simp at this
   omega
  obtain ⟨u, v, rfl⟩ : ∃ u v, ys = [u, v] := by
   cases ys with
   | nil => simp at hlen2
   | cons a l1 =>
    cases l1 with
    | nil => simp at hlen2
    | cons b l2 =>
     cases l2 with
     | nil => exact ⟨a, b, rfl⟩
     | cons c l3 => simp at hlen2
  simp only [List.map_cons, List.map_nil, List.cons.injEq, and_true] at e1
  obtain ⟨q0, q1⟩ := e1
  simp only [List.getElem?_cons_zero, List.getElem?_cons_succ] at y0 y1
  obtain ⟨u1, u2⟩ := u
  obtain ⟨v1, v2⟩ := v
  simp only at q0 q1
  subst q0 q1
  obtain ⟨z, hz, hbz, _⟩ := DataW.trod_int (show Tryz.prog.underlying 3 = some (.int .i64) by kernel_rfl) y0
  obtain ⟨s, hs, hsm⟩ := trod_str1 (show Tryz.prog.underlying 9 = some .string by kernel_rfl) y1
  have hz3 : z = (r.1 : Int) := by
   have h4 := congrArg Prod.fst hbz
   simpa using h4.symm
  subst hz3
  obtain rfl : s = ⟨r.2.toArray⟩ := by
   apply ByteArray.ext
   rw [← hsm]
  have k1 : Tryz.prog.cellsOf 3 = 1 := by kernel_rfl
  have k2 : Tryz.prog.cellsOf 9 = 1 := by kernel_rfl
  obtain ⟨_, _, hcc⟩ := World.cells?_some hce
  have g0 := hcc 0 (by omega)
  have g1 := hcc 1 (by omega)
  have hz2 : (ce.drop 0).take (Tryz.prog.cellsOf 3) = [.int .i64 (r.1 : Int)] := hz
  have hs2 : (ce.drop 1).take (Tryz.prog.cellsOf 9) = [.string ⟨r.2.toArray⟩] := hs
  rw [k1] at hz2
  rw [k2] at hs2
  have s0 := congrArg (·[0]?) hz2
  have s1 := congrArg (·[0]?) hs2
  simp only [List.getElem?_take, List.getElem?_drop, List.getElem?_cons_zero] at s0 s1
  have e2 : (a.add (i * 2)).add 0 = a.add (i * 2) := by simp [Addr.add]
  rw [e2] at g0
  exact ⟨by rw [g0]; simpa using s0, by rw [g1]; simpa using s1⟩
 obtain ⟨R, o, sR⟩ := a
 obtain rfl : sR = none := by
  obtain ⟨r, hr⟩ : ∃ r, Go.Pinned.cheatRows[0]? = some r := ⟨Go.Pinned.cheatRows[0]'(by omega), List.getElem?_eq_getElem (by omega)⟩
  have h00 := (hcell 0 r hr).1
  have : (Addr.add ⟨R, o, sR⟩ (0 * 2)) = ⟨R, o, sR⟩ := by simp [Addr.add]
  rw [this] at h00
  exact Go.Proofs.cell_spot h00
 refine ⟨R, o, cap, ?_, fun i r hr => ?_⟩
 · rw [World.var?_cell hg hvar 0, ← Array.getElem?_toList, hcs, hlen]
   rfl
 · obtain ⟨z1, z2⟩ := hcell i r hr
   rw [Addr.add_lit] at z1
   rw [Addr.add_lit, Addr.add_lit] at z2
   exact ⟨z1, z2⟩
def cheatOk (i : Nat) : Bool :=
 match Go.Pinned.cheatRows[i]? with
 | some r => decide (r.1 = dlt i) && decide (r.2.length = mc i) && (List.range (mc i)).all fun j => decide ((r.2.getD j 0).toNat = 48 + dig (5 ^ i) (mc i) j)
 | none => false
theorem cheat_all : ((List.range 61).all fun i => decide (i = 0) || cheatOk i) = true := by decide +kernel
theorem Wit.slow_of {W : World} (h : laidMet Tryz.prog Rows.parserNestsRow.laid W) : SlowIn W := by
 obtain ⟨i1, i2⟩ := info_of_reads (laidMet.reads h (.tail _ (.tail _ (.tail _ (.head _)))))
 have hp := laidMet.reads h (show (_, Rows.laid_internal_strconv_powtab) ∈ _ from .tail _ (.tail _ (.tail _ (.tail _ (.tail _ (.head _))))))
 rw [pow_data] at hp
 obtain ⟨R, o, cap, p1, p2⟩ := islice_of_reads (g := 10) (t := 217) (e := 3) (l := powZ) (by kernel_rfl) (by kernel_rfl) Tryz.underlying217 (by kernel_rfl) (by kernel_rfl) (by decide) hp
 obtain ⟨R2, o2, cap2, c1, c2⟩ := cheat_of_reads (laidMet.reads h (show (_, Rows.laid_internal_strconv_leftcheats) ∈ _ from .tail _ (.tail _ (.tail _ (.tail _ (.tail _ (.tail _ (.tail _ (.tail _ (.tail _ (.tail _ (.tail _ (.tail _ (.tail _ (.head _)))))))))))))))
 refine ⟨i1, i2, ⟨R, o, cap, p1, fun i hi => by rw [← powZ_at i hi]; exact p2 i hi⟩, R2, o2, cap2, c1, fun i hi hj => ?_⟩
 have hall := List.all_eq_true.1 cheat_all i (List.mem_range.2 hi)
 have hok : cheatOk i = true := by
  rw [Bool.or_eq_true, decide_eq_true_eq] at hall
  exact hall.resolve_left (by omega)
 unfold cheatOk at hok
 cases hr : Go.Pinned.cheatRows[i]? with
 | none => rw [hr] at hok; exact absurd hok (by simp)
 | some r =>
  rw [hr] at hok
  simp only [Bool.and_eq_true, decide_eq_true_eq] at hok
  obtain ⟨⟨x1, x2⟩, x3⟩ := hok
  obtain ⟨y1, y2⟩ := c2 i r hr
  rw [x1] at y1
  refine ⟨y1, _, ⟨by rw [← x2]; rfl, fun j hj => ?_⟩, y2⟩
  have hj2 : j < r.2.length := hj
  have := List.all_eq_true.1 x3 j (List.mem_range.2 (by omega))
  rw [decide_eq_true_eq, List.getD_eq_getElem?_getD, List.getElem?_eq_getElem hj2, Option.getD_some] at this
  rw [← this]
  rfl
def FW (w : World) : Prop := FloatFacts powH powL w ∧ SlowIn w
theorem FW.below {w w' : World} (h : FW w) (hb : Below w.heap.size w w') : FW w' := ⟨h.1.below hb, h.2.below hb⟩
theorem float_spec : FSpec FW (fun l => ffOf l (outOf FW l)) (fun _ => True) :=
 spec_all powH powL powH_lt powL_lt (fun _ h => h.1) (fun _ _ h hb => h.below hb) (slow_any powH powL powH_lt powL_lt fun _ h => ⟨h.1.flt, h.1.pow, h.2⟩)
end Go.Proofs.YtmlclgkhnekmnaaGreatDoor
