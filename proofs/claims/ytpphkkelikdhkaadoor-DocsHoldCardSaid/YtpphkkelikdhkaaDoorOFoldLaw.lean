/-
  DocsFold RETURNS TRUE FOR EVERY TEXT AND EVERY LIST OF CHANGES. Conditions: the slice reads as changes (CR); what the variables that are read hold (Fx).
-/
import Derived.Test.YtpphkkelikdhkaaDoorOLarge
namespace Go.Proofs.YtpphkkelikdhkaaDoor
open Go.RowKit

theorem has_one (t : ByteArray) (n : Int) : hasD [⟨uriB, t, n⟩] uriB.data.toList = true := by
  unfold hasD
  rw [List.any_cons]
  have : (Dc.k ⟨uriB, t, n⟩ == uriB.data.toList) = true := by rw [beq_iff_eq]; rfl
  rw [this]
  rfl
theorem doc_one (t : ByteArray) (n : Int) : docOr [⟨uriB, t, n⟩] uriB.data.toList = ⟨uriB, t, n⟩ := by
  unfold docOr getD?
  have : (Dc.k ⟨uriB, t, n⟩ == uriB.data.toList) = true := by rw [beq_iff_eq]; rfl
  rw [List.find?_cons, this]
  rfl
theorem put_one (t : ByteArray) (n : Int) (t2 : ByteArray) (v : Int) : putD [⟨uriB, t, n⟩] ⟨uriB, t2, v⟩ = [⟨uriB, t2, v⟩] := by
  unfold putD delD
  have : (Dc.k ⟨uriB, t, n⟩ == Dc.k ⟨uriB, t2, v⟩) = true := by rw [beq_iff_eq]; rfl
  rw [List.filter_cons, this]
  rfl
theorem open_new {s : ByteArray} (hv : valid s.data.toList = true) (hs : s.size ≤ 65536) : openE [] uriB s = 0 := by
  unfold openE
  rw [uri_dir, hv, if_neg (by decide), if_neg (by decide), if_neg (by decide), if_neg (by decide), if_neg (by omega)]
theorem openL_new {s : ByteArray} (v : Int) (hv : valid s.data.toList = true) (hs : s.size ≤ 65536) : openL [] uriB s v = [⟨uriB, s, v⟩] := by
  unfold openL
  rw [open_new hv hs]
  rfl
theorem change_one {t : ByteArray} {n v : Int} (L : List Chg) (h : n < v) : changeE [⟨uriB, t, n⟩] uriB v L = (chgs t L).2 := by
  unfold changeE
  rw [has_one, doc_one, if_neg (by decide), if_neg (by simp only; omega)]
theorem changeL_one {t : ByteArray} {n v : Int} (L : List Chg) (h : n < v) (he : (chgs t L).2 = 0) : changeL [⟨uriB, t, n⟩] uriB v L = [⟨uriB, (chgs t L).1, v⟩] := by
  unfold changeL
  rw [change_one L h, if_pos he, doc_one]
  exact put_one _ _ _ _
theorem changeL_same {t : ByteArray} {n v : Int} (L : List Chg) (h : n < v) (he : (chgs t L).2 ≠ 0) : changeL [⟨uriB, t, n⟩] uriB v L = [⟨uriB, t, n⟩] := changeL_bad (change_one L h) he
theorem chgs_fst {t : ByteArray} {L : List Chg} (h : (chgs t L).2 ≠ 0) : chgs t L = (⟨#[]⟩, (chgs t L).2) := by
  revert t
  induction L with
  | nil => intro t h; exact absurd rfl h
  | cons c r ih =>
    intro t h
    rw [chgs] at h ⊢
    by_cases he : ofE c t = 0
    · rw [if_pos he] at h ⊢
      exact ih h
    · rw [if_neg he]
theorem chgs_one (t : ByteArray) (c : Chg) : chgs t [c] = if ofE c t = 0 then (ofT c t, 0) else (⟨#[]⟩, ofE c t) := by
  rw [chgs]
  rfl
def actL (A : Option Addr) (L : List Chg) (c : Nat) : Ac := ⟨0, ⟨#[]⟩, ⟨#[]⟩, 0, 0, A, L, c, 0⟩
theorem act_reads {W : World} {N : Nat} {A : Option Addr} {L : List Chg} {c : Nat} (h : W.heap[N]? = some (.cells #[.int .i64 0, .string ⟨#[]⟩, .string ⟨#[]⟩, .int .i64 0, .int .i64 0, .slice A L.length c, .int .u8 0] 29 (0, 0))) (hC : CR W A L) (hc : L.length ≤ c) : AR W (some ⟨N, 0, none⟩) [actL A L c] := fun _ => by
  refine ⟨N, 0, rfl, fun j x hx => ?_⟩
  rcases j with _ | j
  · obtain rfl : actL A L c = x := by simpa using hx
    exact ⟨⟨cell_at h, cell_at h, cell_at h, cell_at h, cell_at h, cell_at h, cell_at h⟩, hC, hc⟩
  · simp at hx
theorem large_one (A : Option Addr) (L : List Chg) (c : Nat) (h : largeB [actL A L c] = false) : L.length ≤ 8 ∧ ∀ x ∈ L, x.s.size ≤ 300 := by
  unfold largeB at h
  rw [Bool.or_eq_false_iff] at h
  have h1 := h.1
  rw [show ([actL A L c].take 20) = [actL A L c] from rfl, List.any_cons] at h1
  rw [Bool.or_eq_false_iff] at h1
  have h2 := h1.1
  unfold largeA at h2
  rw [Bool.or_eq_false_iff, Bool.or_eq_false_iff] at h2
  refine ⟨by have := h2.1.2; simp only [decide_eq_false_iff_not] at this; exact Nat.le_of_not_lt this, fun x hx => ?_⟩
  have := List.any_eq_false.1 h2.2 x hx
  unfold bigC at this
  simp at this
  exact this
/-- A piece of a slice of changes. -/
theorem cr_one {W : World} {b o : Nat} {L : List Chg} {i : Nat} {x : Chg} (hC : CR W (some ⟨b, o, none⟩) L) (hx : L[i]? = some x) : CR W (some ⟨b, o + i * 6, none⟩) [x] := fun _ => by
  obtain ⟨b', o', e, hc⟩ := hC.at hx
  injection e with e
  injection e with e1 e2
  subst e1 e2
  refine ⟨b, o + i * 6, rfl, fun j y hy => ?_⟩
  rcases j with _ | j
  · obtain rfl : x = y := by simpa using hy
    rw [Nat.zero_mul, Nat.add_zero]
    exact hc
  · simp at hy
theorem slice_one (b o n c i : Nat) (h : i + 1 ≤ c) (W : World) :
    (Instr.slice 26 (.slice (some ⟨b, o, none⟩) n c) (some (.int .i64 (i : Int))) (some (.int .i64 ((i : Int) + 1))) none).run Tryd.prog W = .ok (.slice (some ⟨b, o + i * 6, none⟩) 1 (c - i)) W := by
  have hz : ∀ W, (sizeOf 54).run Tryd.prog W = .ok 6 W := fun W => by kernel_rfl
  have he : Tryd.prog.elem 26 = 54 := by kernel_rfl
  have hu : Tryd.prog.underlying 26 = some (.slice (Tryd.prog.elem 26)) := by rw [he]; exact Tryd.underlying26
  rw [run_slice_lh W 26 (some ⟨b, o, none⟩) n c hu .i64 .i64 (i : Int) ((i : Int) + 1) (by omega) (by omega) (by omega), he, hz]
  have e1 : ((i : Int) + 1).toNat = i + 1 := by omega
  simp only [Result.andThen, sliced, Int.toNat_natCast, e1]
  rw [if_neg (by omega)]
  simp [Addr.add]
/-- What is done one behind the other, ahead of the place i. -/
structure FoldAt (R : ByteArray × Int) (L : List Chg) (i : Nat) (f : Int) (d : Dc) : Prop where
  u : d.u = uriB
  go : f = 0 → R = chgs d.t (L.drop i) ∧ d.v = i ∧ d.t.size ≤ 65536
  no : f ≠ 0 → R = (⟨#[]⟩, f)
theorem fold_step {R : ByteArray × Int} {L : List Chg} {i : Nat} {d : Dc} {x : Chg} (h : FoldAt R L i 0 d) (hx : L[i]? = some x) :
    changeE [d] uriB ((i : Int) + 1) [x] = ofE x d.t ∧ ∃ d', changeL [d] uriB ((i : Int) + 1) [x] = [d'] ∧ FoldAt R L (i + 1) (ofE x d.t) d' := by
  obtain ⟨u, t, v⟩ := d
  obtain ⟨hu, hg, _⟩ := h
  simp only at hu hg
  subst hu
  obtain ⟨h1, h2, h3⟩ := hg trivial
  rw [drop_get hx, chgs] at h1
  have hlt : v < (i : Int) + 1 := by omega
  rw [change_one _ hlt, chgs_one]
  by_cases he : ofE x t = 0
  · rw [if_pos he] at h1
    refine ⟨by rw [if_pos he, he], ⟨uriB, ofT x t, (i : Int) + 1⟩, ?_, ⟨rfl, fun _ => ⟨h1, by simp, ofT_size he⟩, fun hc => absurd he hc⟩⟩
    rw [changeL_one [x] hlt (by rw [chgs_one, if_pos he]), chgs_one, if_pos he]
  · rw [if_neg he] at h1
    refine ⟨by rw [if_neg he], ⟨uriB, t, v⟩, ?_, ⟨rfl, fun hc => absurd hc he, fun _ => h1⟩⟩
    exact changeL_same [x] hlt (by rw [chgs_one, if_neg he]; exact he)
set_option maxRecDepth 100000 in
set_option maxHeartbeats 4000000 in
theorem fold_law (s : ByteArray) (A : Option Addr) (L : List Chg) (c : Nat) (w : World) (hcap : L.length ≤ c ∧ c ≤ maxLen) (hC : CR w A L) (hF : Fx w) : Calls Tryd.prog 4 #[.string s, .slice A L.length c] w fun e w' => e = .returned (.bool true) ∧ Below w.heap.size w w' := by
  have HF := Lib.hid hF
  have HC := Lib.hid hC
  have HV := Lib.hid (fun w (h : Fx w) => valid_any s w h.1)
  obtain ⟨hcap, hc0⟩ := hcap
  unfold maxLen at hc0
  clear hF hC
  by_cases h300 : s.size ≤ 300
  case neg =>
    have q : (300 : Int) < (s.size : Int) := by omega
    go_enter Tryd.func4, Tryd.ntmps4
    go_wp2_with fail
    refine (works_any _ HF.out).mono ?_
    rintro e w3 ⟨rfl, hb⟩
    have HB3 := Lib.hid hb
    clear hb
    go_wp2_with fail
    go_ret
    exact ⟨rfl, HB3.out⟩
  have q : ¬ (300 : Int) < (s.size : Int) := by omega
  cases hv : valid s.data.toList with
  | false =>
    rw [hv] at HV
    go_enter Tryd.func4, Tryd.ntmps4
    go_wp2_with fail
    refine (HV.out _ HF.out).mono ?_
    rintro e w1 ⟨rfl, hb⟩
    have HB := Lib.hid hb
    clear hb
    go_wp2_with fail
    refine (works_any _ (HF.out.keep HB.out)).mono ?_
    rintro e w3 ⟨rfl, hb⟩
    have HB3 := Lib.hid (HB.out.trans (hb.mono HB.out.size))
    clear hb
    go_wp2_with fail
    go_ret
    exact ⟨rfl, HB3.out⟩
  | true =>
    rw [hv] at HV
    have HVV := Lib.hid hv
    clear hv
    go_enter Tryd.func4, Tryd.ntmps4
    go_wp2_with fail
    refine (HV.out _ HF.out).mono ?_
    rintro e w1 ⟨rfl, hb⟩
    have HB := Lib.hid hb
    clear hb
    go_wp2_with fail
    have HT := Lib.hid (alloc_top w1 #[.int .i64 0, .string ⟨#[]⟩, .string ⟨#[]⟩, .int .i64 0, .int .i64 0, .slice A L.length c, .int .u8 0] 29)
    have HB1 := Lib.hid (HB.out.alloc HB.out.size (.cells #[.int .i64 0, .string ⟨#[]⟩, .string ⟨#[]⟩, .int .i64 0, .int .i64 0, .slice A L.length c, .int .u8 0] 29))
    refine (large_any (some ⟨w1.heap.size, 0, none⟩) [actL A L c] 1 (show 1 ≤ 1000000000 by decide) _ (act_reads HT.out (HC.out.keep HB1.out) hcap)).mono ?_
    rintro e w2 ⟨rfl, hb⟩
    have HB2 := Lib.hid (HB1.out.trans (hb.mono HB1.out.size))
    clear hb HT HB HB1
    cases hlg : largeB [actL A L c] with
    | true =>
      go_wp2_with fail
      refine (works_any _ (HF.out.keep HB2.out)).mono ?_
      rintro e w3 ⟨rfl, hb⟩
      have HB3 := Lib.hid (HB2.out.trans (hb.mono HB2.out.size))
      clear hb
      go_wp2_with fail
      go_ret
      exact ⟨rfl, HB3.out⟩
    | false =>
      obtain ⟨hl8, hl3⟩ := large_one A L c hlg
      have HL3 := Lib.hid (fun x hx => Nat.le_trans (hl3 x hx) (show 300 ≤ 1000000 by decide))
      clear hlg hl3
      go_wp2_with fail
      refine (new_any _).mono ?_
      rintro e w3 ⟨rfl, hd, hb⟩
      have HD := Lib.hid hd
      have HB3 := Lib.hid (HB2.out.trans (hb.mono HB2.out.size))
      have hz := hb.size
      clear hb hd
      go_wp2_with fail
      refine (new_any _).mono ?_
      rintro e w4 ⟨rfl, hd, hb⟩
      have hl3 := heap_lt HD.out.own
      have HD2 := Lib.hid hd
      have HDa := Lib.hid (HD.out.below hb)
      have HB4 := Lib.hid (HB3.out.trans (hb.mono HB3.out.size))
      have n1 : w2.heap.size ≠ w3.heap.size := by omega
      have n2 : w2.heap.size + 1 ≠ w3.heap.size := by omega
      have n3 : w3.heap.size + 1 ≠ w2.heap.size := by omega
      have n4 : w.heap.size ≤ w2.heap.size := HB2.out.size
      have n5 : w.heap.size ≤ w3.heap.size := HB3.out.size
      clear hb hd hz hl3 HD HB2 HB3
      obtain ⟨b1, hb1⟩ : ∃ b, w2.heap.size + 1 = b := ⟨_, rfl⟩
      obtain ⟨b2, hb2⟩ : ∃ b, w3.heap.size + 1 = b := ⟨_, rfl⟩
      obtain ⟨m1, hm1⟩ : ∃ b, w2.heap.size = b := ⟨_, rfl⟩
      obtain ⟨m2, hm2⟩ : ∃ b, w3.heap.size = b := ⟨_, rfl⟩
      rw [hb1, hm1] at HDa
      rw [hb2, hm2] at HD2
      rw [hm1, hm2] at n1
      rw [hb1, hm2] at n2
      rw [hb2, hm1] at n3
      rw [hm1] at n4
      rw [hm2] at n5
      rw [hb1, hb2]
      clear hb1 hb2 hm1 hm2
      have HN1 := Lib.hid n1
      have HN2 := Lib.hid n2
      have HN3 := Lib.hid n3
      have HN4 := Lib.hid n4
      have HN5 := Lib.hid n5
      clear n1 n2 n3 n4 n5
      go_wp2_with fail
      refine (lawUri_any _).mono ?_
      rintro e w5 ⟨rfl, rfl⟩
      have HO := Lib.hid (open_any b1 m1 [] uriB s 0 (by decide) (by omega) _ HDa.out (HF.out.keep HB4.out))
      rw [open_new HVV.out (by omega), openL_new 0 HVV.out (by omega)] at HO
      go_wp2_with fail
      refine HO.out.mono ?_
      rintro e w6 ⟨rfl, hd, hf, hx⟩
      have HDa := Lib.hid hd
      have HDb := Lib.hid (HD2.out.keep hf (fun e => HN3.out e) (fun e => HN1.out e.symm))
      have HB5 := Lib.hid (HB4.out.trans (hf.to_below HB4.out.size (fun k hk => by have := HN4.out; omega)))
      have HX := Lib.hid hx
      clear hd hf hx HD2 HO HB4
      go_wp2_with fail
      refine (lawUri_any _).mono ?_
      rintro e w7 ⟨rfl, rfl⟩
      have HO := Lib.hid (open_any b2 m2 [] uriB s 0 (by decide) (by omega) _ HDb.out HX.out)
      rw [open_new HVV.out (by omega), openL_new 0 HVV.out (by omega)] at HO
      go_wp2_with fail
      refine HO.out.mono ?_
      rintro e w8 ⟨rfl, hd, hf, hx⟩
      have HDa2 := Lib.hid (HDa.out.keep hf (fun e => HN2.out e) (fun e => HN1.out e))
      have HDb2 := Lib.hid hd
      have HB6 := Lib.hid (HB5.out.trans (hf.to_below HB5.out.size (fun k hk => by have := HN5.out; omega)))
      have HX2 := Lib.hid hx
      clear hd hf hx HDa HDb HO HB5 HX
      go_wp2_with fail
      refine (lawUri_any _).mono ?_
      rintro e w9 ⟨rfl, rfl⟩
      have HO := Lib.hid (change_any b1 m1 [⟨uriB, s, 0⟩] uriB 100 A L c (by decide) (by omega) HL3.out _ HDa2.out HX2.out (HC.out.keep HB6.out))
      rw [change_one L (by decide)] at HO
      go_wp2_with fail
      refine HO.out.mono ?_
      rintro e wa ⟨rfl, hd, hf, hx⟩
      have HDa3 := Lib.hid hd
      have HDb3 := Lib.hid (HDb2.out.keep hf (fun e => HN3.out e) (fun e => HN1.out e.symm))
      have HB7 := Lib.hid (HB6.out.trans (hf.to_below HB6.out.size (fun k hk => by have := HN4.out; omega)))
      have HX3 := Lib.hid hx
      clear hd hf hx HDa2 HDb2 HO HB6 HX2
      go_wp2_with fail
      have HFA : Hid (FoldAt (chgs s L) L 0 0 ⟨uriB, s, 0⟩) := Lib.hid ⟨rfl, fun _ => ⟨by rw [List.drop_zero], rfl, by simp only; omega⟩, fun h => absurd rfl h⟩
      obtain ⟨R, hR⟩ : ∃ R, chgs s L = R := ⟨_, rfl⟩
      have HDA : Hid (∀ W, DocsAt W b1 m1 (changeL [⟨uriB, s, 0⟩] uriB 100 L) → R.2 = 0 → DocsAt W b1 m1 [⟨uriB, R.1, 100⟩]) := Lib.hid (fun W h he => by
        rw [changeL_one L (by decide) (by rw [hR]; exact he), hR] at h; exact h)
      have HDA2 : Hid (∀ W, DocsAt W b1 m1 (changeL [⟨uriB, s, 0⟩] uriB 100 L) → R.2 ≠ 0 → DocsAt W b1 m1 [⟨uriB, s, 0⟩]) := Lib.hid (fun W h he => by
        rw [changeL_same L (by decide) (by rw [hR]; exact he)] at h; exact h)
      rw [hR] at HFA
      rw [hR]
      generalize changeL [⟨uriB, s, 0⟩] uriB 100 L = da at *
      clear hR HVV HV
      go_loopw [8, 9] (fun fv k wr => ∃ (i : Nat) (f : Int) (d : Dc), fv = .int .i64 f ∧ k = .int .i64 (i : Int) ∧ i ≤ L.length ∧ Hid (FoldAt R L i f d) ∧ Hid (DocsAt wr b2 m2 [d]) ∧ Hid (DocsAt wr b1 m1 da) ∧ Hid (Fx wr) ∧ Hid (Below w.heap.size w wr)) (fun _ k _ => L.length - (intOf k).toNat)
      case atStart => exact ⟨0, 0, _, rfl, rfl, Nat.zero_le _, HFA, HDb3, HDa3, HX3, HB7⟩
      case round =>
        clear HFA HDb3 HDa3 HX3 HB7
        obtain ⟨i, f, d, rfl, rfl, hi, hfa, hdb, hda, hx, hb⟩ := hrel
        by_cases hgo : i < L.length ∧ f = 0
        · obtain ⟨hlt, rfl⟩ := hgo
          obtain ⟨x, hxi⟩ : ∃ x, L[i]? = some x := ⟨_, List.getElem?_eq_getElem hlt⟩
          obtain ⟨hce, d', hcl, hfa2⟩ := fold_step hfa.out hxi
          obtain ⟨b, o, rfl, _⟩ := HC.out.at hxi
          have HCR := Lib.hid (cr_one (HC.out.keep hb.out) hxi)
          have HX1 := Lib.hid (HL3.out x (List.mem_of_getElem? hxi))
          have HFA2 := Lib.hid hfa2
          have q1 : (i : Int) < (L.length : Int) := by omega
          have q2 : decide ((i : Int) < (L.length : Int)) = true := by simpa using hlt
          have q3 : (i : Int) + 1 ≤ (c : Int) := by omega
          have q4 : (i : Int) ≤ (i : Int) + 1 := by omega
          have HO := Lib.hid (fun W h1 h2 h3 => change_any b2 m2 [d] uriB ((i : Int) + 1) (some ⟨b, o + i * 6, none⟩) [x] (c - i) (by decide) (show 1 ≤ 1000000 by decide) (fun y hy => by rw [List.mem_singleton.1 hy]; exact HX1.out) W h1 h2 h3)
          rw [hce, hcl] at HO
          generalize ofE x d.t = f2 at *
          clear hce hcl hfa2 hxi hlt
          go_wp2_with fail
          have hsl := slice_one b o L.length c i (by omega)
          have hw : IntKind.i64.wrap ((i : Int) + 1) = (i : Int) + 1 := by
            unfold IntKind.wrap
            simp [IntKind.bits, IntKind.signed]
            omega
          refine wp_region_still_tail 9 (by kernel_rfl) (by kernel_rfl) ?_
          simp only [List.take_succ_cons, List.take_zero, List.drop_succ_cons, List.drop_zero]
          still_step
          still_call (lawUri_any _)
          repeat still_step
          refine wpStill_nil ?_
          change wpList _ _ _ _ _ wr.drew
          have HBd : Hid (Below wr.heap.size wr wr.drew) := Lib.hid ⟨rfl, rfl, rfl, Nat.le_refl _, fun _ _ => rfl⟩
          generalize wr.drew = wd at *
          clear hsl
          go_wp2_with fail
          refine (HO.out _ (hdb.out.below HBd.out) (hx.out.keep HBd.out) (HCR.out.keep HBd.out)).mono ?_
          rintro e w5 ⟨rfl, hd5, hf5, hx5⟩
          have HD5 := Lib.hid hd5
          have HX5 := Lib.hid hx5
          have HA5 := Lib.hid ((hda.out.below HBd.out).keep hf5 (fun e => HN2.out e) (fun e => HN1.out e))
          have HB8 := Lib.hid ((hb.out.trans (HBd.out.mono hb.out.size)).trans (hf5.to_below (Nat.le_trans hb.out.size HBd.out.size) (fun k hk => by have := HN5.out; omega)))
          clear hd5 hf5 hx5
          go_wp2_with fail
          go_roundw
          case rel => exact ⟨i + 1, f2, d', rfl, by go_num, by omega, HFA2, HD5, HA5, HX5, HB8⟩
          case measure => simp [intOf]; omega
        · have HG := Lib.hid (fun W => get_any b1 m1 da uriB (by decide) W)
          have HGb := Lib.hid (fun W => get_any b2 m2 [d] uriB (by decide) W)
          obtain ⟨u, t, v⟩ := d
          obtain ⟨hu, hg, hno⟩ := hfa.out
          simp only at hu hg
          subst hu
          rw [has_one, doc_one] at HGb
          clear hfa HC HL3 HN1 HN2 HN3 HN4 HN5
          by_cases hf0 : f = 0
          · subst hf0
            have hil : i = L.length := by
              by_cases h : i < L.length
              · exact absurd ⟨h, rfl⟩ hgo
              · omega
            obtain ⟨h1, h2, h3⟩ := hg rfl
            rw [hil, List.drop_eq_nil_of_le (Nat.le_refl _)] at h1
            have hR2 : R.2 = 0 := by rw [h1]; rfl
            have hR1 : R.1 = t := by rw [h1]; rfl
            have hda2 := HDA.out _ hda.out hR2
            rw [hR1] at hda2
            have HGa := Lib.hid (fun W => get_any b1 m1 [⟨uriB, t, 100⟩] uriB (by decide) W)
            rw [has_one, doc_one] at HGa
            have HA := Lib.hid hda2
            have q1 : ¬ (i : Int) < (L.length : Int) := by omega
            rw [hR2]
            clear hgo hg hno h1 h2 h3 hR2 hR1 hda hda2 HDA HDA2 HG
            unfold docV at HGa HGb
            go_wp2_with fail
            refine (lawUri_any _).mono ?_
            rintro e w5 ⟨rfl, rfl⟩
            go_wp2_with fail
            refine (HGa.out _ HA.out).mono ?_
            rintro e w6 ⟨rfl, hb6⟩
            have HB6 := Lib.hid (hb.out.trans (hb6.mono hb.out.size))
            have HDB6 := Lib.hid (hdb.out.below hb6)
            have HX6 := Lib.hid (hx.out.keep hb6)
            clear hb6
            go_wp2_with fail
            refine (lawUri_any _).mono ?_
            rintro e w7 ⟨rfl, rfl⟩
            go_wp2_with fail
            refine (HGb.out _ (HDB6.out.below (alloc_below w6 _))).mono ?_
            rintro e w8 ⟨rfl, hb8⟩
            have k := heap_keep hb8 (alloc_top w6 #[.string uriB, .string t, .int .i64 100] 38)
            have HB8 := Lib.hid ((HB6.out.alloc HB6.out.size _).trans (hb8.mono (by have := HB6.out.size; simp; omega)))
            have HX8 := Lib.hid ((HX6.out.keep (alloc_below w6 _)).keep hb8)
            have k2 := heap_keep (alloc_below w8 (.cells #[.string uriB, .string t, .int .i64 v] 38)) k
            have c0 := cell_at (i := 1) k2
            have c1 := cell_at (i := 2) k2
            have c3 := cell_at (i := 1) (alloc_top w8 #[.string uriB, .string t, .int .i64 v] 38)
            clear hb8 k k2
            go_wp2_with fail
            refine (works_any _ (HX8.out.keep (alloc_below w8 _))).mono ?_
            rintro e w9 ⟨rfl, hb9⟩
            have HB9 := Lib.hid ((HB8.out.alloc HB8.out.size _).trans (hb9.mono (by have := HB8.out.size; simp; omega)))
            clear hb9 c0 c1 c3
            go_wp2_with fail
            go_ret
            exact ⟨rfl, HB9.out⟩
          · have hR := hno hf0
            have hR2 : R.2 = f := by rw [hR]
            have hda2 := HDA2.out _ hda.out (by rw [hR2]; exact hf0)
            have HGa := Lib.hid (fun W => get_any b1 m1 [⟨uriB, s, 0⟩] uriB (by decide) W)
            rw [has_one, doc_one] at HGa
            have HA := Lib.hid hda2
            have q3 : (f == 0) = false := by simpa using hf0
            rw [hR2]
            clear hgo hg hno hR hR2 hda hda2 HDA HDA2 HG
            unfold docV at HGa HGb
            have HQ := Lib.hid hi
            by_cases hlt : i < L.length
            · have q1 : (i : Int) < (L.length : Int) := by omega
              go_wp2_with fail
              refine (lawUri_any _).mono ?_
              rintro e w5 ⟨rfl, rfl⟩
              go_wp2_with fail
              refine (HGa.out _ HA.out).mono ?_
              rintro e w6 ⟨rfl, hb6⟩
              have HB6 := Lib.hid (hb.out.trans (hb6.mono hb.out.size))
              have HDB6 := Lib.hid (hdb.out.below hb6)
              have HX6 := Lib.hid (hx.out.keep hb6)
              clear hb6
              go_wp2_with fail
              refine (lawUri_any _).mono ?_
              rintro e w7 ⟨rfl, rfl⟩
              go_wp2_with fail
              refine (HGb.out _ (HDB6.out.below (alloc_below w6 _))).mono ?_
              rintro e w8 ⟨rfl, hb8⟩
              have k := heap_keep hb8 (alloc_top w6 #[.string uriB, .string s, .int .i64 0] 38)
              have HB8 := Lib.hid ((HB6.out.alloc HB6.out.size _).trans (hb8.mono (by have := HB6.out.size; simp; omega)))
              have HX8 := Lib.hid ((HX6.out.keep (alloc_below w6 _)).keep hb8)
              have k2 := heap_keep (alloc_below w8 (.cells #[.string uriB, .string t, .int .i64 v] 38)) k
              have c0 := cell_at (i := 0) k2
              have c1 := cell_at (i := 1) k2
              have c2 := cell_at (i := 2) k2
              clear hb8 k k2
              go_wp2_with fail
              have HB9 := Lib.hid (HB8.out.alloc HB8.out.size (.cells #[.string uriB, .string t, .int .i64 v] 38))
              have HX9 := Lib.hid (HX8.out.keep (alloc_below w8 (.cells #[.string uriB, .string t, .int .i64 v] 38)))
              generalize w8.alloc (.cells #[.string uriB, .string t, .int .i64 v] 38) = W at *
              have HWd : Hid (Below W.heap.size W W.drew) := Lib.hid ⟨rfl, rfl, rfl, Nat.le_refl _, fun _ _ => rfl⟩
              refine wp_region_still_tail 6 (by kernel_rfl) (by kernel_rfl) ?_
              simp only [List.take_succ_cons, List.take_zero, List.drop_succ_cons, List.drop_zero]
              still_step
              still_call (lawUri_any _)
              repeat still_step
              refine wpStill_nil ?_
              change wpList _ _ _ _ _ W.drew
              generalize W.drew = Wd at *
              clear c0 c1 c2
              go_wp2_with fail
              refine (works_any _ (HX9.out.keep HWd.out)).mono ?_
              rintro e wz ⟨rfl, hbz⟩
              have HBz := Lib.hid ((HB9.out.trans (HWd.out.mono HB9.out.size)).trans (hbz.mono (Nat.le_trans HB9.out.size HWd.out.size)))
              clear hbz
              go_wp2_with fail
              go_ret
              exact ⟨rfl, HBz.out⟩
            · have q1 : ¬ (i : Int) < (L.length : Int) := by omega
              go_wp2_with fail
              refine (lawUri_any _).mono ?_
              rintro e w5 ⟨rfl, rfl⟩
              go_wp2_with fail
              refine (HGa.out _ HA.out).mono ?_
              rintro e w6 ⟨rfl, hb6⟩
              have HB6 := Lib.hid (hb.out.trans (hb6.mono hb.out.size))
              have HDB6 := Lib.hid (hdb.out.below hb6)
              have HX6 := Lib.hid (hx.out.keep hb6)
              clear hb6
              go_wp2_with fail
              refine (lawUri_any _).mono ?_
              rintro e w7 ⟨rfl, rfl⟩
              go_wp2_with fail
              refine (HGb.out _ (HDB6.out.below (alloc_below w6 _))).mono ?_
              rintro e w8 ⟨rfl, hb8⟩
              have k := heap_keep hb8 (alloc_top w6 #[.string uriB, .string s, .int .i64 0] 38)
              have HB8 := Lib.hid ((HB6.out.alloc HB6.out.size _).trans (hb8.mono (by have := HB6.out.size; simp; omega)))
              have HX8 := Lib.hid ((HX6.out.keep (alloc_below w6 _)).keep hb8)
              have k2 := heap_keep (alloc_below w8 (.cells #[.string uriB, .string t, .int .i64 v] 38)) k
              have c0 := cell_at (i := 0) k2
              have c1 := cell_at (i := 1) k2
              have c2 := cell_at (i := 2) k2
              clear hb8 k k2
              go_wp2_with fail
              have HB9 := Lib.hid (HB8.out.alloc HB8.out.size (.cells #[.string uriB, .string t, .int .i64 v] 38))
              have HX9 := Lib.hid (HX8.out.keep (alloc_below w8 (.cells #[.string uriB, .string t, .int .i64 v] 38)))
              generalize w8.alloc (.cells #[.string uriB, .string t, .int .i64 v] 38) = W at *
              have HWd : Hid (Below W.heap.size W W.drew) := Lib.hid ⟨rfl, rfl, rfl, Nat.le_refl _, fun _ _ => rfl⟩
              refine wp_region_still_tail 6 (by kernel_rfl) (by kernel_rfl) ?_
              simp only [List.take_succ_cons, List.take_zero, List.drop_succ_cons, List.drop_zero]
              still_step
              still_call (lawUri_any _)
              repeat still_step
              refine wpStill_nil ?_
              change wpList _ _ _ _ _ W.drew
              generalize W.drew = Wd at *
              clear c0 c1 c2
              go_wp2_with fail
              refine (works_any _ (HX9.out.keep HWd.out)).mono ?_
              rintro e wz ⟨rfl, hbz⟩
              have HBz := Lib.hid ((HB9.out.trans (HWd.out.mono HB9.out.size)).trans (hbz.mono (Nat.le_trans HB9.out.size HWd.out.size)))
              clear hbz
              go_wp2_with fail
              go_ret
              exact ⟨rfl, HBz.out⟩
end Go.Proofs.YtpphkkelikdhkaaDoor
