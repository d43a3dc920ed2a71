/-
  json's faultByKeys, faultOf, Check AT EVERY VALUE in memory of at most 1000000 (szJ): the first fault (faultJ, checkJ); nothing that was there turns. Conditions: the value's size; the variables that are read hold what their text lays (Facts).
-/
import Derived.Test.YtmkjoonbjmieoaaDoorQDeeper
import Derived.Test.YtmkjoonbjmieoaaDoorQShelfB
import Derived.Test.YtmkjoonbjmieoaaDoorQItems2
namespace Go.Proofs.YtmkjoonbjmieoaaDoor
open Go.RowKit

theorem decodeL_pt (l : List UInt8) : Lib.decodeL l = if pt l < 0 then (65533, 1) else ((pt l).toNat, wd l) := by
  have h := decode_pt ⟨l.toArray⟩ 0
  unfold Lib.decodeL
  rw [h]
  rfl
theorem validGo_eq : ∀ (f : Nat) (l : List UInt8), Lib.validGoD f l = validF f l
  | 0, _ => rfl
  | f + 1, l => by
    rw [Lib.validGoD, validF, decodeL_pt]
    by_cases hl : l = []
    · rw [if_pos hl, if_pos hl]
    · rw [if_neg hl, if_neg hl]
      by_cases hp : pt l < 0
      · rw [if_pos hp, if_pos ⟨rfl, rfl⟩]
        have : decide (0 ≤ pt l) = false := by simp; omega
        rw [this]; rfl
      · rw [if_neg hp]
        have hd : decide (0 ≤ pt l) = true := by simp; omega
        rw [if_neg, hd, Bool.true_and, validGo_eq f]
        rintro ⟨h1, h2⟩
        have := pt_fffd l (by simp only at h1; omega)
        simp only at h2
        omega
theorem validD_eq (l : List UInt8) : Lib.validD l = valid l := validGo_eq _ l
theorem validString_any (s : ByteArray) (hs : s.size ≤ 1000000) (w : World) (hF : Facts w) : Calls Tryd.prog 38 #[.string s] w fun e w' => e = .returned (.bool (valid s.data.toList)) ∧ Below w.heap.size w w' := by
  rw [← validD_eq]
  exact Tryd.utf8_ValidString s w (by omega) hF.tabs
theorem faultK_same : ∀ (nk : List (List UInt8)) (l : List J) (a b : List (List UInt8)), (∀ x, a.contains x = b.contains x) → faultK a nk l = faultK b nk l
  | [], _, a, b, _ => by rw [faultK, faultK]
  | _ :: _, [], a, b, _ => by rw [faultK, faultK]
  | key :: nk, j :: l, a, b, h => by
    rw [faultK, faultK, h key, faultK_same nk l (key :: a) (key :: b) (fun x => by rw [List.contains_cons, List.contains_cons, h x])]
theorem contains_end (ks : List (List UInt8)) (key : List UInt8) : ∀ x, (ks ++ [key]).contains x = (key :: ks).contains x := fun x => (mem_met (fun _ => rfl) key x).symm
/-- faultOf's contract at a value. -/
def FOk (P : Nat → Prop) (j : J) : Prop := ∀ (v : Value) (w : World), JIn w P j v → Facts w → Calls Tryd.prog 19 #[v] w fun e w' => e = .returned (.int .i64 (faultJ j : Nat)) ∧ Below w.heap.size w w'
theorem kin_at {W : World} {P : Nat → Prop} {A : Option Addr} {ks : List (List UInt8)} (h : KIn W P A ks) (hp : 0 < ks.length) : ∃ b o, A = some ⟨b, o, none⟩ ∧ ∀ i x, ks[i]? = some x → W.cell? ⟨b, o + i, none⟩ = some (.string (txt x)) := by
  obtain ⟨b, o, h1, _, h2⟩ := h hp
  exact ⟨b, o, h1, h2⟩
theorem jin_shape {W : World} {P : Nat → Prop} {j : J} {v0 v1 v2 v3 : Value} (h : JIn W P j (.agg #[v0, v1, v2, v3])) : ∃ k s A n c B m d, v0 = .int .i64 k ∧ v1 = .string s ∧ v2 = .slice A n c ∧ v3 = .slice B m d := by
  obtain ⟨k, s, ks, l⟩ := j
  obtain ⟨ka, kc, ia, ic, he, _⟩ := h.open
  simp only [Value.agg.injEq, Array.mk.injEq, List.cons.injEq, and_true] at he
  exact ⟨_, _, _, _, _, _, _, _, he.1, he.2.1, he.2.2.1, he.2.2.2⟩
/-- What stays in a round of faultByKeys: the value's cells, the map's block, all that was there ahead. -/
structure FK (w : World) (ka ia : Option Addr) (kn kc ln ic : Nat) (ks : List (List UInt8)) (W : World) : Prop where
  below : Below w.heap.size w W
  cells : W.heap[w.heap.size]? = some (.cells #[.int .i64 6, .string (txt []), .slice ka kn kc, .slice ia ln ic] 26 (0, 0))
  set : KSet W (w.heap.size + 1) ks
theorem FK.step {w W W' : World} {ka ia : Option Addr} {kn kc ln ic : Nat} {ks : List (List UInt8)} (h : FK w ka ia kn kc ln ic ks W) (hb : Below W.heap.size W W') : FK w ka ia kn kc ln ic ks W' :=
  ⟨h.below.trans (hb.mono h.below.size), heap_keep hb h.cells, h.set.keep (hb.block _ h.set.lt)⟩
theorem FK.turn {w W W' : World} {ka ia : Option Addr} {kn kc ln ic : Nat} {ks ks' : List (List UInt8)} (h : FK w ka ia kn kc ln ic ks W) (hk : KSet W' (w.heap.size + 1) ks') (hf : Fr (· = w.heap.size + 1) W W') : FK w ka ia kn kc ln ic ks' W' := by
  have hlt : w.heap.size < W.heap.size := (Array.getElem?_eq_some_iff.1 h.cells).1
  exact ⟨h.below.trans (hf.to_below h.below.size (fun k (hk : k = _) => by omega)), (hf.block _ hlt (by omega)).trans h.cells, hk⟩
set_option maxRecDepth 100000 in
set_option maxHeartbeats 4000000 in
theorem faultByKeys_any (P : Nat → Prop) (ks : List (List UInt8)) (l : List J) (hlen : ks.length = l.length) (hsz : szK ks + szL l ≤ 1000000) (hok : ∀ j ∈ l, FOk P j) (v : Value) (w : World) (hj : JIn w P (.mk 6 [] ks l) v) (hF : Facts w) :
    Calls Tryd.prog 39 #[v] w fun e w' => e = .returned (.int .i64 (faultK [] ks l : Nat)) ∧ Below w.heap.size w w' := by
  obtain ⟨RES, hRES⟩ : ∃ r, r = faultK [] ks l := ⟨_, rfl⟩
  rw [← hRES]
  obtain ⟨ka, kc, ia, ic, rfl, hk, hl⟩ := hj.open
  have hkl := szK_len ks
  have HK := Lib.hid hk
  have HL := Lib.hid hl
  have HF := Lib.hid hF
  have HSZ := Lib.hid hsz
  have HLEN := Lib.hid hlen
  have HOK := Lib.hid hok
  have HR : Hid (RES = faultK (ks.take 0) (ks.drop 0) (l.drop 0)) := Lib.hid hRES
  have HFK : Hid (FK w ka ia ks.length kc l.length ic (ks.take 0) ((w.alloc (.cells #[.int .i64 6, .string (txt []), .slice ka ks.length kc, .slice ia l.length ic] 26)).alloc (.map #[] 0))) := Lib.hid (by
    have hb1 := alloc_below w (.cells #[.int .i64 6, .string (txt []), .slice ka ks.length kc, .slice ia l.length ic] 26)
    have ht1 := alloc_top w #[.int .i64 6, .string (txt []), .slice ka ks.length kc, .slice ia l.length ic] 26
    have hz1 : (w.alloc (.cells #[.int .i64 6, .string (txt []), .slice ka ks.length kc, .slice ia l.length ic] 26)).heap.size = w.heap.size + 1 := World.size_alloc ..
    have hks := KSet.made (w.alloc (.cells #[.int .i64 6, .string (txt []), .slice ka ks.length kc, .slice ia l.length ic] 26))
    rw [hz1] at hks
    have hb2 := alloc_below (w.alloc (.cells #[.int .i64 6, .string (txt []), .slice ka ks.length kc, .slice ia l.length ic] 26)) (.map #[] 0)
    exact ⟨hb1.trans (hb2.mono hb1.size), heap_keep hb2 ht1, hks⟩)
  have hc2 := (tok_cells HFK.out.cells).2.2.1
  have hz1 : (w.alloc (.cells #[.int .i64 6, .string (txt []), .slice ka ks.length kc, .slice ia l.length ic] 26)).heap.size = w.heap.size + 1 := World.size_alloc ..
  generalize hkn : ks.length = kn at *
  generalize hln : l.length = ln at *
  have HKN := Lib.hid hkn
  have HLN := Lib.hid hln
  have hknb : kn ≤ 1000000 := by omega
  clear hj hk hl hsz hlen hok hF hRES hkn hln hkl
  have hmm := @run_makeMap Tryd.prog
  go_enter Tryd.func39, Tryd.ntmps39
  go_wp2_with fail
  go_loopw [4, 5, 6, 11] (fun _ _ _ vi wr => ∃ i : Nat, i ≤ kn ∧ vi = .int .i64 i ∧ Hid (FK w ka ia kn kc ln ic (ks.take i) wr) ∧ Hid (RES = faultK (ks.take i) (ks.drop i) (l.drop i))) (fun _ _ _ vi _ => kn - (intOf vi).toNat)
  case atStart => exact ⟨0, Nat.zero_le _, rfl, HFK, HR⟩
  case round =>
    clear HFK HR hc2
    obtain ⟨i, hi, rfl, hfk, hr⟩ := hrel
    by_cases hlt : i < kn
    · have hltz : (i : Int) < (kn : Int) := by omega
      have hik : i < ks.length := by rw [HKN.out]; exact hlt
      have hil : i < l.length := by rw [HLN.out, ← HLEN.out]; exact hlt
      obtain ⟨kb, ko, rfl, hkc⟩ := kin_at (HK.out.below hfk.out.below) (by omega)
      have a0 := hkc i _ (List.getElem?_eq_getElem hik)
      obtain ⟨x, hx⟩ : ∃ x, x = ks[i] := ⟨_, rfl⟩
      obtain ⟨j, hjj⟩ : ∃ j, j = l[i] := ⟨_, rfl⟩
      have hxs : x.length ≤ 1000000 := by
        have := szK_mem (List.getElem_mem hik); have := HSZ.out; rw [← hx] at *; omega
      have HJM : Hid (j ∈ l) := Lib.hid (by rw [hjj]; exact List.getElem_mem hil)
      have HJI : Hid (l[i]? = some j) := Lib.hid (by rw [hjj]; exact List.getElem?_eq_getElem hil)
      have hre := hr.out
      rw [List.drop_eq_getElem_cons hik, List.drop_eq_getElem_cons hil, ← hx, ← hjj, faultK] at hre
      have HTK : Hid (ks.take (i + 1) = ks.take i ++ [x]) := Lib.hid (by rw [List.take_succ_eq_append_getElem hik, hx])
      have HTL : Hid ((ks.take i).length < maxLen) := Lib.hid (by rw [List.length_take]; unfold maxLen; omega)
      rw [← hx] at a0
      have HV := Lib.hid (validString_any (txt x) (by rw [txt_size]; exact hxs) wr (HF.out.below hfk.out.below))
      rw [txt_data] at HV
      have HRE := Lib.hid hre
      have HXS := Lib.hid hxs
      clear hkc hx hjj hre hik hil hr hxs
      cases hv : valid x with
      | false =>
        rw [hv] at HV
        have HRE2 : Hid (RES = 8) := Lib.hid (by have := HRE.out; rw [if_pos hv] at this; exact this)
        clear hv HRE
        go_wp2_with fail
        refine HV.out.mono ?_
        rintro e w1 ⟨rfl, hb⟩
        have HB := Lib.hid (hfk.out.below.trans (hb.mono hfk.out.below.size))
        clear hb HV
        go_wp2_with fail
        go_ret
        exact ⟨by rw [HRE2.out]; rfl, HB.out⟩
      | true =>
        rw [hv] at HV
        have HRE2 := Lib.hid (by have := HRE.out; rw [if_neg (by rw [hv]; simp)] at this; exact this)
        clear hv HRE
        go_wp2_with fail
        refine HV.out.mono ?_
        rintro e w1 ⟨rfl, hb⟩
        have HFK1 := Lib.hid (hfk.out.step hb)
        have HM := Lib.hid (meet_any (w.heap.size + 1) (ks.take i) x (by have := HXS.out; unfold maxLen; omega) HTL.out w1 HFK1.out.set)
        clear hb HV
        cases hcn : (ks.take i).contains x with
        | true =>
          rw [hcn] at HM
          have HRE3 : Hid (RES = 13) := Lib.hid (by have := HRE2.out; rw [if_pos hcn] at this; exact this)
          clear hcn HRE2
          go_wp2_with fail
          refine HM.out.mono ?_
          rintro e w2 ⟨rfl, hks, hfr⟩
          have HFK2 := Lib.hid (HFK1.out.turn hks hfr)
          clear hks hfr HM
          go_wp2_with fail
          go_ret
          exact ⟨by rw [HRE3.out]; rfl, HFK2.out.below⟩
        | false =>
          rw [hcn] at HM
          have HRE3 := Lib.hid (by have := HRE2.out; rw [if_neg (by rw [hcn]; simp)] at this; exact this)
          clear hcn HRE2
          go_wp2_with fail
          refine HM.out.mono ?_
          rintro e w2 ⟨rfl, hks, hfr⟩
          have HFK2 := Lib.hid (HFK1.out.turn hks hfr)
          clear hks hfr HM
          have hc3 := (tok_cells HFK2.out.cells).2.2.2
          obtain ⟨ib, io, rfl, -, hrow⟩ := (HL.out.below HFK2.out.below) (by have := HLN.out; have := HLEN.out; omega)
          obtain ⟨v0, v1, v2, v3, d0, d1, d2, d3, hj⟩ := hrow.at HJI.out
          have HO := Lib.hid (HOK.out j HJM.out _ w2 hj (HF.out.below HFK2.out.below))
          have hile : i < ln := by have := HLEN.out; omega
          clear hrow hj
          go_wp2_with fail
          refine HO.out.mono ?_
          rintro e w3 ⟨rfl, hb⟩
          have HFK3 : Hid (FK w (some ⟨kb, ko, none⟩) (some ⟨ib, io, none⟩) kn kc ln ic (ks.take (i + 1)) w3) := Lib.hid (by rw [HTK.out]; exact HFK2.out.step hb)
          have HRE4 := Lib.hid HRE3.out
          clear hb HO HRE3
          by_cases h0 : faultJ j = 0
          · have HRE5 : Hid (RES = faultK (ks.take (i + 1)) (ks.drop (i + 1)) (l.drop (i + 1))) := Lib.hid (by
              have := HRE4.out
              rw [if_pos h0] at this
              rw [this, HTK.out]
              exact faultK_same _ _ _ _ (fun y => (contains_end _ _ y).symm))
            rw [h0]
            clear HRE4 h0 hc3
            go_wp2_with fail
            go_roundw
            case rel => exact ⟨i + 1, by omega, by go_num, HFK3, HRE5⟩
            case measure => simp [intOf]; omega
          · have HRE5 : Hid (RES = faultJ j) := Lib.hid (by
              have := HRE4.out
              rw [if_neg h0] at this
              exact this)
            have hne : (((faultJ j : Nat) : Int) != 0) = true := by simp only [bne_iff_ne, ne_eq]; omega
            clear HRE4 h0 hc3
            generalize faultJ j = fj at *
            go_wp2_with fail
            go_ret
            exact ⟨by rw [HRE5.out]; rfl, HFK3.out.below⟩
    · have hltz : ¬ (i : Int) < (kn : Int) := by omega
      have HRE : Hid (RES = 0) := Lib.hid (by
        have := hr.out
        rw [List.drop_of_length_le (by have := HKN.out; omega), faultK] at this
        exact this)
      go_wp2_with fail
      go_ret
      exact ⟨by rw [HRE.out]; rfl, hfk.out.below⟩
set_option maxRecDepth 100000 in
set_option maxHeartbeats 4000000 in
theorem faultOf_step (P : Nat → Prop) (j : J) (hsz : szJ j ≤ 1000000) (hih : ∀ t : J, szJ t < szJ j → FOk P t) : FOk P j := by
  intro v w hjv hF
  obtain ⟨RES, hRES⟩ : ∃ r, r = faultJ j := ⟨_, rfl⟩
  rw [← hRES]
  obtain ⟨k, s, ks, l⟩ := j
  obtain ⟨ka, kc, ia, ic, rfl, hk, hl⟩ := hjv.open
  rw [szJ_eq] at hsz hih
  have hok : ∀ t ∈ l, FOk P t := fun t ht => hih t (by have := szL_mem ht; omega)
  have hkl := szK_len ks
  have hll := szL_len l
  have HK := Lib.hid hk
  have HL := Lib.hid hl
  have HF := Lib.hid hF
  have HOK := Lib.hid hok
  have hb1 := alloc_below w (.cells #[.int .i64 k, .string (txt s), .slice ka ks.length kc, .slice ia l.length ic] 26)
  have ht1 := alloc_top w #[.int .i64 k, .string (txt s), .slice ka ks.length kc, .slice ia l.length ic] 26
  have HB1 := Lib.hid hb1
  have HT1 := Lib.hid ht1
  have HFM := Lib.hid (isFormed_any k (txt s) ka ia ks.length l.length kc ic (by rw [txt_size]; omega) _ (hF.below hb1))
  have HVS := Lib.hid (fun (W : World) (hb : Below w.heap.size w W) => validString_any (txt s) (by rw [txt_size]; omega) W (hF.below hb))
  have HFK := Lib.hid (fun (hlen : ks.length = l.length) (hs : s = []) (hk6 : k = 6) (W : World) (hb : Below w.heap.size w W) => faultByKeys_any P ks l hlen (by omega) hok (.agg #[.int .i64 k, .string (txt s), .slice ka ks.length kc, .slice ia l.length ic]) W (by subst hs hk6; exact JIn.shut (hk.below hb) (hl.below hb)) (hF.below hb))
  rw [txt_data] at HVS
  have hRE := hRES
  rw [faultJ] at hRE
  generalize hkn : ks.length = kn at *
  generalize hln : l.length = ln at *
  have HKN := Lib.hid hkn
  have HLN := Lib.hid hln
  have hlnb : ln ≤ 1000000 := by omega
  cases hfm : formedB k (txt s) kn ln with
  | false =>
    have HRE : Hid (RES = 4) := Lib.hid (by rw [hfm, if_pos rfl] at hRE; exact hRE)
    rw [hfm] at HFM
    clear hjv hk hl hF hok hb1 ht1 hRE hRES hfm HFK HVS hkl hll hsz hih hkn hln
    go_enter Tryd.func19, Tryd.ntmps19
    go_wp2_with fail
    refine HFM.out.mono ?_
    rintro e w1 ⟨rfl, hb⟩
    have HB2 := Lib.hid (HB1.out.trans (hb.mono HB1.out.size))
    clear hb
    go_wp2_with fail
    go_ret
    exact ⟨by rw [HRE.out]; rfl, HB2.out⟩
  | true =>
    rw [hfm] at HFM
    rw [hfm, if_neg (by simp)] at hRE
    have hfo := formed_of hfm
    by_cases h4 : k = 4
    · subst h4
      cases hv : valid s with
      | false =>
        have HRE : Hid (RES = 8) := Lib.hid (by rw [if_pos ⟨rfl, hv⟩] at hRE; exact hRE)
        rw [hv] at HVS
        clear hjv hk hl hF hok hb1 ht1 hRE hRES hfm HFK hkl hll hsz hih hkn hln hfo
        go_enter Tryd.func19, Tryd.ntmps19
        go_wp2_with fail
        refine HFM.out.mono ?_
        rintro e w1 ⟨rfl, hb⟩
        have HB2 := Lib.hid (HB1.out.trans (hb.mono HB1.out.size))
        have HT2 := Lib.hid (heap_keep hb HT1.out)
        have HVS2 := Lib.hid (HVS.out w1 HB2.out)
        obtain ⟨hx0, hx1, hx2, hx3⟩ := tok_cells HT2.out
        clear hb
        go_wp2_with fail
        refine HVS2.out.mono ?_
        rintro e w2 ⟨rfl, hb⟩
        have HB3 := Lib.hid (HB2.out.trans (hb.mono HB2.out.size))
        clear hb
        go_wp2_with fail
        go_ret
        exact ⟨by rw [HRE.out]; rfl, HB3.out⟩
      | true =>
        have HR : Hid (RES = faultL (l.drop 0)) := Lib.hid (by rw [if_neg (by rw [hv]; simp), if_neg (by omega)] at hRE; exact hRE)
        rw [hv] at HVS
        clear hjv hk hl hF hok hb1 ht1 hRE hRES hfm HFK hkl hll hsz hih hkn hln hfo
        go_enter Tryd.func19, Tryd.ntmps19
        go_wp2_with fail
        refine HFM.out.mono ?_
        rintro e w1 ⟨rfl, hb⟩
        have HB2 := Lib.hid (HB1.out.trans (hb.mono HB1.out.size))
        have HT2 := Lib.hid (heap_keep hb HT1.out)
        have HVS2 := Lib.hid (HVS.out w1 HB2.out)
        obtain ⟨hx0, hx1, hx2, hx3⟩ := tok_cells HT2.out
        clear hb
        go_wp2_with fail
        refine HVS2.out.mono ?_
        rintro e w2 ⟨rfl, hb⟩
        have HBX := Lib.hid (HB2.out.trans (hb.mono HB2.out.size))
        have HTX := Lib.hid (heap_keep hb HT2.out)
        clear hb hx0 hx1 hx2 hx3
        obtain ⟨hx0, hx1, hx2, hx3⟩ := tok_cells HTX.out
        go_wp2_with fail
        go_loopw [4, 5, 29] (fun _ _ vi wr => ∃ i : Nat, i ≤ ln ∧ vi = .int .i64 i ∧ Hid (Below w.heap.size w wr) ∧ Hid (RES = faultL (l.drop i))) (fun _ _ vi _ => ln - (intOf vi).toNat)
        case atStart => exact ⟨0, Nat.zero_le _, rfl, HBX, HR⟩
        case round =>
          clear HR HBX HTX hx0 hx1 hx2 hx3
          obtain ⟨i, hi, rfl, hbw, hr⟩ := hrel
          by_cases hlt : i < ln
          · have hltz : (i : Int) < (ln : Int) := by omega
            have hil : i < l.length := by rw [HLN.out]; exact hlt
            obtain ⟨j, hjj⟩ : ∃ j, j = l[i] := ⟨_, rfl⟩
            have hji : l[i]? = some j := by rw [hjj]; exact List.getElem?_eq_getElem hil
            have HJM : Hid (j ∈ l) := Lib.hid (by rw [hjj]; exact List.getElem_mem hil)
            have hre := hr.out
            rw [List.drop_eq_getElem_cons hil, ← hjj, faultL] at hre
            have HRE := Lib.hid hre
            obtain ⟨ib, io, rfl, -, hrow⟩ := (HL.out.below hbw.out) (by omega)
            obtain ⟨v0, v1, v2, v3, d0, d1, d2, d3, hj⟩ := hrow.at hji
            obtain ⟨k1, s1, A1, n1, c1, B1, m1, e1, rfl, rfl, rfl, rfl⟩ := jin_shape hj
            have hbi := alloc_below wr (.cells #[.int .i64 k1, .string s1, .slice A1 n1 c1, .slice B1 m1 e1] 26)
            have hti := alloc_top wr #[.int .i64 k1, .string s1, .slice A1 n1 c1, .slice B1 m1 e1] 26
            have HBI := Lib.hid (hbw.out.trans (hbi.mono hbw.out.size))
            have HO := Lib.hid (HOK.out j HJM.out _ (wr.alloc (.cells #[.int .i64 k1, .string s1, .slice A1 n1 c1, .slice B1 m1 e1] 26)) (hj.below hbi) (HF.out.below HBI.out))
            clear hrow hj hre hjj hji hil hr hbi hti
            go_wp2_with fail
            refine HO.out.mono ?_
            rintro e w3 ⟨rfl, hb⟩
            have HB3 := Lib.hid (HBI.out.trans (hb.mono HBI.out.size))
            clear hb HO
            by_cases h0 : faultJ j = 0
            · have HRE5 : Hid (RES = faultL (l.drop (i + 1))) := Lib.hid (by
                have := HRE.out
                rw [if_pos h0] at this
                exact this)
              rw [h0]
              clear HRE h0
              go_wp2_with fail
              go_roundw
              case rel => exact ⟨i + 1, by omega, by go_num, HB3, HRE5⟩
              case measure => simp [intOf]; omega
            · have HRE5 : Hid (RES = faultJ j) := Lib.hid (by
                have := HRE.out
                rw [if_neg h0] at this
                exact this)
              have hne : (((faultJ j : Nat) : Int) != 0) = true := by simp only [bne_iff_ne, ne_eq]; omega
              clear HRE h0
              generalize faultJ j = fj at *
              go_wp2_with fail
              go_ret
              exact ⟨by rw [HRE5.out]; rfl, HB3.out⟩
          · have hltz : ¬ (i : Int) < (ln : Int) := by omega
            have HRE : Hid (RES = 0) := Lib.hid (by
              have := hr.out
              rw [List.drop_of_length_le (by have := HLN.out; omega), faultL] at this
              exact this)
            go_wp2_with fail
            go_ret
            exact ⟨by rw [HRE.out]; rfl, hbw.out⟩
    · by_cases h6 : k = 6
      · subst h6
        obtain ⟨hs0, hlen⟩ : s = [] ∧ kn = ln := by
          rcases hfo with ⟨h, _⟩ | ⟨h, _⟩ | ⟨h, _⟩ | ⟨h, _⟩ | ⟨_, h1, h2⟩
          · omega
          · omega
          · omega
          · omega
          · exact ⟨h1, h2⟩
        have HRE : Hid (RES = faultK [] ks l) := Lib.hid (by rw [if_neg (by omega), if_pos rfl] at hRE; exact hRE)
        have HFK2 := Lib.hid (HFK.out hlen hs0 rfl)
        rw [← HRE.out] at HFK2
        clear hjv hk hl hF hok hb1 ht1 hRE hRES hfm HFK HVS hkl hll hsz hih hkn hln hfo hs0 hlen h4
        go_enter Tryd.func19, Tryd.ntmps19
        go_wp2_with fail
        refine HFM.out.mono ?_
        rintro e w1 ⟨rfl, hb⟩
        have HB2 := Lib.hid (HB1.out.trans (hb.mono HB1.out.size))
        have HT2 := Lib.hid (heap_keep hb HT1.out)
        have HFK3 := Lib.hid (HFK2.out w1 HB2.out)
        obtain ⟨hx0, hx1, hx2, hx3⟩ := tok_cells HT2.out
        clear hb
        go_wp2_with fail
        refine HFK3.out.mono ?_
        rintro e w2 ⟨rfl, hb⟩
        have HB3 := Lib.hid (HB2.out.trans (hb.mono HB2.out.size))
        clear hb
        go_wp2_with fail
        go_ret
        exact ⟨rfl, HB3.out⟩
      · have HR : Hid (RES = faultL (l.drop 0)) := Lib.hid (by rw [if_neg (by omega), if_neg h6] at hRE; exact hRE)
        have g4 : (k == 4) = false := by simpa using h4
        have g6 : (k == 6) = false := by simpa using h6
        clear hjv hk hl hF hok hb1 ht1 hRE hRES hfm HFK HVS hkl hll hsz hih hkn hln hfo h4 h6
        go_enter Tryd.func19, Tryd.ntmps19
        go_wp2_with fail
        refine HFM.out.mono ?_
        rintro e w1 ⟨rfl, hb⟩
        have HBX := Lib.hid (HB1.out.trans (hb.mono HB1.out.size))
        have HTX := Lib.hid (heap_keep hb HT1.out)
        obtain ⟨hx0, hx1, hx2, hx3⟩ := tok_cells HTX.out
        clear hb
        go_wp2_with fail
        go_loopw [4, 5, 29] (fun _ _ vi wr => ∃ i : Nat, i ≤ ln ∧ vi = .int .i64 i ∧ Hid (Below w.heap.size w wr) ∧ Hid (RES = faultL (l.drop i))) (fun _ _ vi _ => ln - (intOf vi).toNat)
        case atStart => exact ⟨0, Nat.zero_le _, rfl, HBX, HR⟩
        case round =>
          clear HR HBX HTX hx0 hx1 hx2 hx3
          obtain ⟨i, hi, rfl, hbw, hr⟩ := hrel
          by_cases hlt : i < ln
          · have hltz : (i : Int) < (ln : Int) := by omega
            have hil : i < l.length := by rw [HLN.out]; exact hlt
            obtain ⟨j, hjj⟩ : ∃ j, j = l[i] := ⟨_, rfl⟩
            have hji : l[i]? = some j := by rw [hjj]; exact List.getElem?_eq_getElem hil
            have HJM : Hid (j ∈ l) := Lib.hid (by rw [hjj]; exact List.getElem_mem hil)
            have hre := hr.out
            rw [List.drop_eq_getElem_cons hil, ← hjj, faultL] at hre
            have HRE := Lib.hid hre
            obtain ⟨ib, io, rfl, -, hrow⟩ := (HL.out.below hbw.out) (by omega)
            obtain ⟨v0, v1, v2, v3, d0, d1, d2, d3, hj⟩ := hrow.at hji
            obtain ⟨k1, s1, A1, n1, c1, B1, m1, e1, rfl, rfl, rfl, rfl⟩ := jin_shape hj
            have hbi := alloc_below wr (.cells #[.int .i64 k1, .string s1, .slice A1 n1 c1, .slice B1 m1 e1] 26)
            have hti := alloc_top wr #[.int .i64 k1, .string s1, .slice A1 n1 c1, .slice B1 m1 e1] 26
            have HBI := Lib.hid (hbw.out.trans (hbi.mono hbw.out.size))
            have HO := Lib.hid (HOK.out j HJM.out _ (wr.alloc (.cells #[.int .i64 k1, .string s1, .slice A1 n1 c1, .slice B1 m1 e1] 26)) (hj.below hbi) (HF.out.below HBI.out))
            clear hrow hj hre hjj hji hil hr hbi hti
            go_wp2_with fail
            refine HO.out.mono ?_
            rintro e w3 ⟨rfl, hb⟩
            have HB3 := Lib.hid (HBI.out.trans (hb.mono HBI.out.size))
            clear hb HO
            by_cases h0 : faultJ j = 0
            · have HRE5 : Hid (RES = faultL (l.drop (i + 1))) := Lib.hid (by
                have := HRE.out
                rw [if_pos h0] at this
                exact this)
              rw [h0]
              clear HRE h0
              go_wp2_with fail
              go_roundw
              case rel => exact ⟨i + 1, by omega, by go_num, HB3, HRE5⟩
              case measure => simp [intOf]; omega
            · have HRE5 : Hid (RES = faultJ j) := Lib.hid (by
                have := HRE.out
                rw [if_neg h0] at this
                exact this)
              have hne : (((faultJ j : Nat) : Int) != 0) = true := by simp only [bne_iff_ne, ne_eq]; omega
              clear HRE h0
              generalize faultJ j = fj at *
              go_wp2_with fail
              go_ret
              exact ⟨by rw [HRE5.out]; rfl, HB3.out⟩
          · have hltz : ¬ (i : Int) < (ln : Int) := by omega
            have HRE : Hid (RES = 0) := Lib.hid (by
              have := hr.out
              rw [List.drop_of_length_le (by have := HLN.out; omega), faultL] at this
              exact this)
            go_wp2_with fail
            go_ret
            exact ⟨by rw [HRE.out]; rfl, hbw.out⟩
theorem faultOf_any (P : Nat → Prop) : ∀ (n : Nat) (j : J), szJ j ≤ n → n ≤ 1000000 → FOk P j
  | 0, j, h, _ => by have := szJ_pos j; omega
  | n + 1, j, h, hn => faultOf_step P j (by omega) (fun t ht => faultOf_any P n t (by omega) (by omega))
set_option maxRecDepth 100000 in
/-- Check at every value. -/
theorem check_any (P : Nat → Prop) (j : J) (v : Value) (w : World) (hsz : szJ j ≤ 1000000) (hj : JIn w P j v) (hF : Facts w) :
    Calls Tryd.prog 8 #[v] w fun e w' => e = .returned (.int .i64 (checkJ j : Nat)) ∧ Below w.heap.size w w' := by
  obtain ⟨RES, hRES⟩ : ∃ r, r = checkJ j := ⟨_, rfl⟩
  rw [← hRES]
  obtain ⟨v0, v1, v2, v3, rfl⟩ : ∃ v0 v1 v2 v3, v = .agg #[v0, v1, v2, v3] := by
    obtain ⟨k, s, ks, l⟩ := j
    obtain ⟨_, _, _, _, h, _⟩ := hj.open
    exact ⟨_, _, _, _, h⟩
  have hb1 := alloc_below w (.cells #[v0, v1, v2, v3] 26)
  have ht1 := alloc_top w #[v0, v1, v2, v3] 26
  have HB1 := Lib.hid hb1
  have HT1 := Lib.hid ht1
  have HD := Lib.hid (isDeeperJ_any P 64 (Nat.le_refl _) j (.agg #[v0, v1, v2, v3]) _ hsz (hj.below hb1))
  have HFO := Lib.hid (fun (W : World) (hb : Below w.heap.size w W) => faultOf_any P 1000000 j hsz (Nat.le_refl _) (.agg #[v0, v1, v2, v3]) W (hj.below hb) (hF.below hb))
  have hRE := hRES
  unfold checkJ at hRE
  cases hd : deepJ 64 j with
  | true =>
    have HRE : Hid (RES = 3) := Lib.hid (by rw [hd, if_pos rfl] at hRE; exact hRE)
    rw [hd] at HD
    clear hRE hRES hd HFO hj hF hsz hb1 ht1
    go_enter Tryd.func8, Tryd.ntmps8
    go_wp2_with fail
    refine HD.out.mono ?_
    rintro e w1 ⟨rfl, hb⟩
    have HB2 := Lib.hid (HB1.out.trans (hb.mono HB1.out.size))
    clear hb
    go_wp2_with fail
    go_ret
    exact ⟨by rw [HRE.out]; rfl, HB2.out⟩
  | false =>
    have HRE : Hid (RES = faultJ j) := Lib.hid (by rw [hd, if_neg (by simp)] at hRE; exact hRE)
    rw [hd] at HD
    rw [← HRE.out] at HFO
    clear hRE hRES hd hj hF hsz hb1 ht1
    go_enter Tryd.func8, Tryd.ntmps8
    go_wp2_with fail
    refine HD.out.mono ?_
    rintro e w1 ⟨rfl, hb⟩
    have HB2 := Lib.hid (HB1.out.trans (hb.mono HB1.out.size))
    have HT2 := Lib.hid (heap_keep hb HT1.out)
    have HFO2 := Lib.hid (HFO.out w1 HB2.out)
    obtain ⟨hx0, hx1, hx2, hx3⟩ := tok_cells HT2.out
    clear hb
    go_wp2_with fail
    refine HFO2.out.mono ?_
    rintro e w2 ⟨rfl, hb⟩
    have HB3 := Lib.hid (HB2.out.trans (hb.mono HB2.out.size))
    clear hb
    go_wp2_with fail
    go_ret
    exact ⟨rfl, HB3.out⟩
end Go.Proofs.YtmkjoonbjmieoaaDoor
