/-
  DocsHold RETURNS TRUE at every list of acts. Conditions: the list reads as acts; what the variables that are read hold (Fx).
-/
import Derived.Test.YtpphkkelikdhkaaDoorOHold0
import Derived.Test.YtpphkkelikdhkaaDoorOHold1
import Derived.Test.YtpphkkelikdhkaaDoorOFill
import Derived.Test.YtpphkkelikdhkaaDoorOAll
import Derived.Test.YtpphkkelikdhkaaDoorOWorks
import Derived.Test.YtpphkkelikdhkaaDoorOKnownLaw
import Derived.Deep.CutBlock
import Derived.Deep.DeepCutAuto
import Derived.Deep.RegionHeld3
import Derived.StillTailTactics
namespace Go.Proofs.YtpphkkelikdhkaaDoor
open Go.RowKit

theorem small_acts {L : List Ac} (h : largeB L = false) : L.length ≤ 12 ∧ ∀ x ∈ L, x.u.size ≤ 300 ∧ x.t.size ≤ 300 ∧ x.L.length ≤ 8 ∧ ∀ y ∈ x.L, y.s.size ≤ 300 := by
  unfold largeB at h
  rw [Bool.or_eq_false_iff, decide_eq_false_iff_not] at h
  obtain ⟨h1, h2⟩ := h
  have hl : L.length ≤ 12 := by omega
  refine ⟨hl, fun x hx => ?_⟩
  rw [List.take_of_length_le (by omega), List.any_eq_false] at h1
  have := h1 x hx
  unfold largeA at this
  simp only [Bool.not_eq_true, Bool.or_eq_false_iff, decide_eq_false_iff_not, List.any_eq_false] at this
  obtain ⟨⟨⟨a, b⟩, c⟩, d⟩ := this
  refine ⟨by omega, by omega, by omega, fun y hy => ?_⟩
  have := d y hy
  unfold bigC at this
  rw [decide_eq_false_iff_not] at this
  omega
theorem hasD_of_get {l : List Dc} {k : List UInt8} {d : Dc} (h : getD? l k = some d) : hasD l k = true ∧ docOr l k = d := by
  rw [hasD_getD?]
  unfold docOr
  rw [h]
  exact ⟨rfl, rfl⟩
theorem get_of_has {l : List Dc} {k : List UInt8} (h : hasD l k = true) : getD? l k = some (docOr l k) := by
  rw [hasD_getD?] at h
  unfold docOr
  obtain ⟨d, hd⟩ := Option.isSome_iff_exists.1 h
  rw [hd]
  rfl
/-- What is open stays as it is when something is opened. -/
theorem open_keeps {l : List Dc} {k : List UInt8} (u t : ByteArray) (v : Int) (h : hasD l k = true) : hasD (openL l u t v) k = true ∧ docOr (openL l u t v) k = docOr l k := by
  by_cases he : openE l u t = 0
  · have hu : hasD l u.data.toList = false := by
      unfold openE at he
      by_cases h1 : dirB u.data.toList = false
      · rw [if_pos h1] at he; cases he
      rw [if_neg h1] at he
      by_cases h2 : hasD l u.data.toList = true
      · rw [if_pos h2] at he; cases he
      · cases hh : hasD l u.data.toList with
        | false => rfl
        | true => exact absurd hh h2
    have hne : ¬ u.data.toList = k := fun e => by rw [e, h] at hu; cases hu
    unfold openL
    rw [he, if_pos rfl]
    refine hasD_of_get ?_
    rw [getD?_put]
    have : (Dc.k ⟨u, t, v⟩ == k) = false := by
      rw [beq_eq_false_iff_ne]
      exact hne
    rw [this]
    exact get_of_has h
  · rw [openL_bad rfl he]
    exact ⟨h, rfl⟩
/-- A document that Change changes has a greater version; else it is as it was. -/
theorem change_rises {l : List Dc} {u : ByteArray} (v : Int) (L : List Chg) (h : hasD l u.data.toList = true) : hasD (changeL l u v L) u.data.toList = true ∧ (docOr (changeL l u v L) u.data.toList = docOr l u.data.toList ∨ (docOr l u.data.toList).v < (docOr (changeL l u v L) u.data.toList).v) := by
  by_cases he : changeE l u v L = 0
  · have hv : ¬ v ≤ (docOr l u.data.toList).v := by
      unfold changeE at he
      rw [if_neg (by rw [h]; decide)] at he
      intro h2
      rw [if_pos h2] at he
      cases he
    unfold changeL
    rw [he, if_pos rfl]
    have hk := (docOr_mem h).2
    obtain ⟨a, b⟩ := hasD_of_get (l := putD l ⟨(docOr l u.data.toList).u, (chgs (docOr l u.data.toList).t L).1, v⟩) (k := u.data.toList) (d := ⟨(docOr l u.data.toList).u, (chgs (docOr l u.data.toList).t L).1, v⟩) (by
      rw [getD?_put, if_pos]
      rw [beq_iff_eq]
      exact hk)
    refine ⟨a, .inr ?_⟩
    rw [b]
    show (docOr l u.data.toList).v < v
    omega
  · rw [changeL_bad rfl he]
    exact ⟨h, .inl rfl⟩
/-- What stands between two steps of a round: the documents; the one that the act speaks of as it was, in memory. -/
structure Ho (w W : World) (b mb p : Nat) (k : List UInt8) (D : Dc) (th : Bool) (l : List Dc) : Prop where
  kk : KAt w W b mb l
  h : Held l
  s : th = true → hasD l k = true ∧ docOr l k = D
  c1 : W.cell? ⟨p, 1, none⟩ = some (.string D.t)
  c2 : W.cell? ⟨p, 2, none⟩ = some (.int .i64 D.v)
theorem Ho.below {w W W' : World} {b mb p : Nat} {k : List UInt8} {D : Dc} {th : Bool} {l : List Dc} (h : Ho w W b mb p k D th l) (hb : Below W.heap.size W W') : Ho w W' b mb p k D th l :=
  ⟨h.kk.below hb, h.h, h.s, cell_keep hb h.c1, cell_keep hb h.c2⟩
theorem Ho.fr {w W W' : World} {b mb p : Nat} {k : List UInt8} {D : Dc} {th : Bool} {l l' : List Dc} (h : Ho w W b mb p k D th l) (hd : DocsAt W' b mb l') (hf : Fr (· = mb) W W') (hx : Fx W') (hh : Held l') (hs : th = true → hasD l' k = true ∧ docOr l' k = D) : Ho w W' b mb p k D th l' := by
  obtain ⟨n, es, cc, hm, _⟩ := h.kk.d.map
  exact ⟨h.kk.fr hd hf hx, hh, hs, cell_fr h.c1 hf hm, cell_fr h.c2 hf hm⟩
theorem AR.seven {W : World} {b o : Nat} {L : List Ac} (h : AR W (some ⟨b, o, none⟩) L) {i : Nat} {x : Ac} (hx : L[i]? = some x) : W.cell? ⟨b, o + i * 7, none⟩ = some (.int .i64 x.o) ∧ W.cell? ⟨b, o + i * 7 + 1, none⟩ = some (.string x.u) ∧ W.cell? ⟨b, o + i * 7 + 2, none⟩ = some (.string x.t) ∧ W.cell? ⟨b, o + i * 7 + 3, none⟩ = some (.int .i64 x.m) ∧ W.cell? ⟨b, o + i * 7 + 4, none⟩ = some (.int .i64 x.v) ∧ W.cell? ⟨b, o + i * 7 + 5, none⟩ = some (.slice x.A x.L.length x.c) ∧ W.cell? ⟨b, o + i * 7 + 6, none⟩ = some (.int .u8 x.f) := by
  obtain ⟨b', o', e, hc, _⟩ := h.at hx
  obtain ⟨rfl, rfl⟩ : b = b' ∧ o = o' := by simpa using e
  exact hc
theorem AR.chs {W : World} {A : Option Addr} {L : List Ac} (h : AR W A L) {i : Nat} {x : Ac} (hx : L[i]? = some x) : CR W x.A x.L := by
  obtain ⟨b', o', e, _, hc, _⟩ := h.at hx
  exact hc
theorem less_eq : ∀ (a b : List UInt8), Op.bytesLess a b = lt8 a b
  | [], [] => rfl
  | [], _ :: _ => rfl
  | _ :: _, [] => rfl
  | a :: r, b :: s => by
    have ih := less_eq r s
    unfold lt8 at ih ⊢
    rw [Op.bytesLess, bytesBefore, ih]
theorem rise_less {l : List Dc} (hr : Rise l) {m : Nat} {z y : Dc} (hz : l[m]? = some z) (hy : l[m + 1]? = some y) : Op.bytesLess z.u.toList y.u.toList = true := by
  rw [ByteArray.toList_eq, ByteArray.toList_eq, less_eq]
  obtain ⟨h1, rfl⟩ := List.getElem?_eq_some_iff.1 hz
  obtain ⟨h2, rfl⟩ := List.getElem?_eq_some_iff.1 hy
  exact List.pairwise_iff_getElem.1 hr m (m + 1) h1 h2 (by omega)
/-- What stands behind an act: the document that it speaks of is as it was, or newer, or nothing is said. -/
structure Hp (w W : World) (b mb p : Nat) (k : List UInt8) (D : Dc) (th : Bool) (l : List Dc) : Prop where
  kk : KAt w W b mb l
  h : Held l
  s : th = true → hasD l k = true ∧ (docOr l k = D ∨ D.v < (docOr l k).v)
  c1 : W.cell? ⟨p, 1, none⟩ = some (.string D.t)
  c2 : W.cell? ⟨p, 2, none⟩ = some (.int .i64 D.v)
theorem Hp.below {w W W' : World} {b mb p : Nat} {k : List UInt8} {D : Dc} {th : Bool} {l : List Dc} (h : Hp w W b mb p k D th l) (hb : Below W.heap.size W W') : Hp w W' b mb p k D th l :=
  ⟨h.kk.below hb, h.h, h.s, cell_keep hb h.c1, cell_keep hb h.c2⟩
theorem Ho.done {w W W' : World} {b mb p : Nat} {k : List UInt8} {D : Dc} {th th' : Bool} {l l' : List Dc} (h : Ho w W b mb p k D th l) (hd : DocsAt W' b mb l') (hf : Fr (· = mb) W W') (hx : Fx W') (hh : Held l') (hs : th' = true → hasD l' k = true ∧ (docOr l' k = D ∨ D.v < (docOr l' k).v)) : Hp w W' b mb p k D th' l' := by
  obtain ⟨n, es, cc, hm, _⟩ := h.kk.d.map
  exact ⟨h.kk.fr hd hf hx, hh, hs, cell_fr h.c1 hf hm, cell_fr h.c2 hf hm⟩
set_option maxRecDepth 100000 in
set_option maxHeartbeats 8000000 in
theorem hold_law (A : Option Addr) (L : List Ac) (c : Nat) (w : World) (hcap : L.length ≤ c ∧ c ≤ maxLen) (hA : AR w A L) (hF : Fx w) : Calls Tryd.prog 5 #[.slice A L.length c] w fun e w' => e = .returned (.bool true) ∧ Below w.heap.size w w' := by
  have HF := Lib.hid hF
  have HA := Lib.hid hA
  have HLG := Lib.hid (largeN_any A L c)
  have HCP := Lib.hid hcap
  clear hF hA hcap HCP
  cases hlg : largeB L with
  | true =>
    rw [hlg] at HLG
    go_enter Tryd.func5, Tryd.ntmps5
    go_wp2_with fail
    refine (HLG.out _ HA.out).mono ?_
    rintro e w1 ⟨rfl, hb⟩
    have HB1 := Lib.hid hb
    clear hb
    go_wp2_with fail
    refine (works_any _ (HF.out.keep HB1.out)).mono ?_
    rintro e w2 ⟨rfl, hb⟩
    have HB2 := Lib.hid (HB1.out.trans (hb.mono HB1.out.size))
    clear hb
    go_wp2_with fail
    go_ret
    exact ⟨rfl, HB2.out⟩
  | false =>
    rw [hlg] at HLG
    obtain ⟨h12, hsm⟩ := small_acts hlg
    have HSM := Lib.hid hsm
    clear hsm hlg
    go_enter Tryd.func5, Tryd.ntmps5
    go_wp2_with fail
    refine (HLG.out _ HA.out).mono ?_
    rintro e w1 ⟨rfl, hb⟩
    have HB1 := Lib.hid hb
    clear hb HLG
    go_wp2_with fail
    refine (new_any _).mono ?_
    rintro e w2 ⟨rfl, hd, hb⟩
    have HB2 := Lib.hid (HB1.out.trans (hb.mono HB1.out.size))
    have HD2 := Lib.hid hd
    have HX2 := Lib.hid ((HF.out.keep HB1.out).keep hb)
    have HMB : Hid (w.heap.size ≤ w1.heap.size) := Lib.hid HB1.out.size
    clear hd hb HB1
    generalize w1.heap.size + 1 = b at *
    generalize w1.heap.size = mb at *
    go_wp2_with fail
    have HK := Lib.hid (⟨HD2.out, HX2.out, HB2.out, HMB.out⟩ : KAt w w2 b mb [])
    clear HD2 HX2 HB2 HMB
    go_loopw [4] (fun v wr => ∃ (i : Nat) (l : List Dc), v = .int .i64 (i : Int) ∧ i ≤ L.length ∧ Hid (Held l) ∧ Hid (KAt w wr b mb l)) (fun v _ => L.length - (intOf v).toNat)
    case atStart => exact ⟨0, [], rfl, Nat.zero_le _, Lib.hid Held.nil, HK⟩
    case round =>
      obtain ⟨i, l, rfl, hi, hh, hk⟩ := hrel
      by_cases hlt : i < L.length
      · have q1 : (i : Int) < (L.length : Int) := by omega
        obtain ⟨x, hxi⟩ : ∃ x, L[i]? = some x := ⟨_, List.getElem?_eq_getElem hlt⟩
        obtain ⟨hu3, ht3, hl3, hs3⟩ := HSM.out x (List.mem_of_getElem? hxi)
        obtain ⟨b0, o0, rfl, ⟨d0, d1, d2, d3, d4, d5, d6⟩, hcr, hcx⟩ := (HA.out.keep hk.out.b).at hxi
        have HG := Lib.hid (get_any b mb l x.u (by omega) _ hk.out.d)
        unfold docV at HG
        clear d0 d2 d3 d4 d5 d6 hcr hcx
        go_wp2_with fail
        refine HG.out.mono ?_
        rintro e wa ⟨rfl, hb⟩
        have Ka := Lib.hid (hk.out.below hb)
        clear hb HG d1
        go_upto_block 2 with fail
        have HO : Hid (Ho w (wa.alloc (.cells #[.string (docOr l x.u.data.toList).u, .string (docOr l x.u.data.toList).t, .int .i64 (docOr l x.u.data.toList).v] 38)) b mb wa.heap.size x.u.data.toList (docOr l x.u.data.toList) (hasD l x.u.data.toList) l) := Lib.hid ⟨Ka.out.below (alloc_below _ _), hh.out, fun h => ⟨h, rfl⟩, cell_at (i := 1) (alloc_top wa _ _), cell_at (i := 2) (alloc_top wa _ _)⟩
        have HX := Lib.hid hxi
        have HTx := Lib.hid (text_any x ht3)
        unfold acV at HTx
        clear Ka hh hk hxi
        generalize wa.alloc (.cells #[.string (docOr l x.u.data.toList).u, .string (docOr l x.u.data.toList).t, .int .i64 (docOr l x.u.data.toList).v] 38) = wb at *
        generalize wa.heap.size = p at *
        generalize docOr l x.u.data.toList = D at *
        generalize hasD l x.u.data.toList = th at *
        go_cut [7] (fun _ wx => ∃ l, Hid (Ho w wx b mb p x.u.data.toList D th l))
        case first =>
          as_aux_lemma =>
            go_wp2_with fail
            go_loopw [7] (fun v wr => ∃ (n : Nat) (l : List Dc), v = .int .i64 (n : Int) ∧ n ≤ 40 ∧ Hid (Ho w wr b mb p x.u.data.toList D th l)) (fun v _ => 40 - (intOf v).toNat)
            case atStart => exact ⟨0, l, rfl, by decide, HO⟩
            case round =>
              clear HO
              obtain ⟨n, l, rfl, hn, HO⟩ := hrel
              obtain ⟨d0, d1, d2, d3, d4, d5, d6⟩ := (HA.out.keep HO.out.kk.b).seven HX.out
              clear d0 d1 d2 d3 d4 d5
              rcases (show ((n : Int) < wrap64 x.f ∧ (n : Int) < 40) ∨ (wrap64 x.f ≤ (n : Int)) ∨ ((n : Int) < wrap64 x.f ∧ ¬ (n : Int) < 40) by omega) with ⟨c1, c2⟩ | c1 | ⟨c1, c2⟩
              · have hn1 : IntKind.i64.wrap ((n : Int) + 1) = (n : Int) + 1 := IntWalk.i64_in _ (by omega)
                go_wp2_with fail
                refine (filler_any n (by omega) _).mono ?_
                rintro e wc ⟨⟨s, rfl, hs⟩, hb⟩
                have Hc := Lib.hid (HO.out.below hb)
                have HOp := Lib.hid (open_any b mb l s ⟨#[]⟩ 1 (by omega) (by decide) _ Hc.out.kk.d Hc.out.kk.x)
                clear hb HO d6
                go_wp2_with fail
                refine HOp.out.mono ?_
                rintro e wd ⟨rfl, hd, hf, hx⟩
                have Hd := Lib.hid (Hc.out.fr hd hf hx (Hc.out.h.open s ⟨#[]⟩ 1) (fun h => by
                  have h1 := Hc.out.s h
                  have h2 := open_keeps s ⟨#[]⟩ 1 h1.1
                  exact ⟨h2.1, h2.2.trans h1.2⟩))
                clear hd hf hx HOp Hc
                go_wp2_with fail
                go_roundw
                case rel => exact ⟨n + 1, openL l s ⟨#[]⟩ 1, by go_num, by omega, Hd⟩
                case measure => simp [intOf]; omega
              all_goals
                go_wp2_with fail
                go_meet
                exact ⟨l, HO⟩
        case rest =>
          clear HO
          obtain ⟨l, HO⟩ := hcut
          obtain ⟨d0, d1, d2, d3, d4, d5, d6⟩ := (HA.out.keep HO.out.kk.b).seven HX.out
          go_upto_block 4 with fail
          go_cut [6] (fun tv wx => ∃ (t : Bool) (l : List Dc), tv = .bool t ∧ Hid (Hp w wx b mb p x.u.data.toList D t l))
          case first =>
            as_aux_lemma =>
              go_wp2_with fail
              · clear d0 d1 d2 d3 d4 d5 d6
                go_region_held3 (fun w' => w'.cell? ⟨b0, o0 + i * 7, none⟩ = some (.int .i64 x.o) ∧ w'.cell? ⟨b0, o0 + i * 7 + 1, none⟩ = some (.string x.u) ∧ w'.cell? ⟨b0, o0 + i * 7 + 2, none⟩ = some (.string x.t) ∧ w'.cell? ⟨b0, o0 + i * 7 + 3, none⟩ = some (.int .i64 x.m) ∧ w'.cell? ⟨b0, o0 + i * 7 + 4, none⟩ = some (.int .i64 x.v) ∧ w'.cell? ⟨b0, o0 + i * 7 + 5, none⟩ = some (.slice x.A x.L.length x.c) ∧ w'.cell? ⟨b0, o0 + i * 7 + 6, none⟩ = some (.int .u8 x.f)) (first | exact (HA.out.keep (HO.out.kk.b.drew)).seven HX.out | exact (HA.out.keep HO2.out.kk.b).seven HX.out | exact (HA.out.keep HO3.out.kk.b).seven HX.out) (first | (go_at_call 18; refine (HTx.out _).mono ?_; rintro e wq ⟨⟨s, rfl, hs⟩, kq⟩; have HO2 := Lib.hid (HO.out.below (below_drew kq)); clear kq) | (go_at_call 13; refine (open_any b mb l x.u s x.v (by omega) (by omega) _ HO2.out.kk.d HO2.out.kk.x).mono ?_; rintro e wq2 ⟨rfl, hd, hf, hx⟩; have HO3 := Lib.hid (HO2.out.done (th' := th) hd hf hx (HO2.out.h.open x.u s x.v) (fun h => by have h1 := HO2.out.s h; have h2 := open_keeps x.u s x.v h1.1; exact ⟨h2.1, .inl (h2.2.trans h1.2)⟩)); clear hd hf hx))
                go_wp2_with fail
                go_meet
                exact ⟨th, _, rfl, HO3⟩
              · clear d0 d1 d2 d3 d4 d5 d6
                refine (close_any b mb l x.u (by omega) _ HO.out.kk.d HO.out.kk.x).mono ?_
                rintro e we ⟨rfl, hd, hf, hx⟩
                have HP := Lib.hid (HO.out.done (th' := false) hd hf hx (HO.out.h.del _) (fun h => by cases h))
                clear hd hf hx HO
                go_wp2_with fail
                go_meet
                exact ⟨false, _, rfl, HP⟩
              · have HCH := Lib.hid (((HA.out.keep HO.out.kk.b).chs HX.out).keep ((Below.refl wc.heap.size wc).drew))
                have HOd := Lib.hid (HO.out.below ((Below.refl wc.heap.size wc).drew))
                clear HO
                go_still_tail 16, (by kernel_rfl)
                change wpList _ _ _ _ _ wc.drew
                clear d0 d1 d2 d3 d4 d5 d6
                generalize wc.drew = wd at *
                go_wp2_with fail
                refine (change_any b mb l x.u x.v x.A x.L x.c (by omega) (by omega) (fun y hy => by have := hs3 y hy; omega) _ HOd.out.kk.d HOd.out.kk.x HCH.out).mono ?_
                rintro e we ⟨rfl, hd, hf, hx⟩
                have HP := Lib.hid (HOd.out.done (th' := th) hd hf hx (HOd.out.h.change x.u x.v x.L) (fun h => by
                  have h1 := HOd.out.s h
                  have h2 := change_rises x.v x.L h1.1
                  rw [h1.2] at h2
                  exact h2))
                clear hd hf hx HOd HCH
                go_wp2_with fail
                go_meet
                exact ⟨th, _, rfl, HP⟩
          case rest =>
            clear HO d0 d1 d2 d3 d4 d5 d6
            obtain ⟨t2, l2, rfl, HP⟩ := hcut
            obtain ⟨d0, d1, d2, d3, d4, d5, d6⟩ := (HA.out.keep HP.out.kk.b).seven HX.out
            have HG := Lib.hid (get_any b mb l2 x.u (by omega) _ HP.out.kk.d)
            unfold docV at HG
            clear d0 d2 d3 d4 d5 d6 HTx
            go_wp2_with fail
            refine HG.out.mono ?_
            rintro e wg ⟨rfl, hb⟩
            have HQ := Lib.hid (HP.out.below hb)
            clear hb HG HP d1
            go_upto_region 22 with fail
            have HP2 := Lib.hid (HQ.out.below (alloc_below wg (.cells #[.string (docOr l2 x.u.data.toList).u, .string (docOr l2 x.u.data.toList).t, .int .i64 (docOr l2 x.u.data.toList).v] 38)))
            have g1 := cell_at (i := 1) (alloc_top wg #[.string (docOr l2 x.u.data.toList).u, .string (docOr l2 x.u.data.toList).t, .int .i64 (docOr l2 x.u.data.toList).v] 38)
            have g2 := cell_at (i := 2) (alloc_top wg #[.string (docOr l2 x.u.data.toList).u, .string (docOr l2 x.u.data.toList).t, .int .i64 (docOr l2 x.u.data.toList).v] 38)
            have c1 := HP2.out.c1
            have c2 := HP2.out.c2
            have HS := Lib.hid HQ.out.s
            have HK := Lib.hid HP2.out.kk
            have HH := Lib.hid HP2.out.h
            clear HP2 HQ
            generalize wg.alloc (.cells #[.string (docOr l2 x.u.data.toList).u, .string (docOr l2 x.u.data.toList).t, .int .i64 (docOr l2 x.u.data.toList).v] 38) = wh at *
            generalize wg.heap.size = q at *
            generalize docOr l2 x.u.data.toList = D2 at *
            generalize hasD l2 x.u.data.toList = ok at *
            go_cut [140] (fun v wx => v = .bool false ∧ wh = wx)
            case first =>
              as_aux_lemma =>
                cases t2 with
                | false =>
                  go_wp2_with fail
                  go_meet
                  exact ⟨rfl, rfl⟩
                | true =>
                  obtain ⟨rfl, h⟩ := HS.out rfl
                  rcases h with rfl | h
                  · go_wp2_with fail
                    go_meet
                    exact ⟨rfl, rfl⟩
                  · have v1 : ¬ D2.v < D.v := by omega
                    have v2 : (D2.v == D.v) = false := by rw [beq_eq_false_iff_ne]; omega
                    by_cases ht : D2.t = D.t
                    · rw [ht] at g1
                      go_wp2_with fail
                      go_meet
                      exact ⟨rfl, rfl⟩
                    · go_wp2_with fail
                      all_goals go_meet
                      all_goals exact ⟨rfl, rfl⟩
            case rest =>
              obtain ⟨rfl, rfl⟩ := hcut
              clear g1 g2 c1 c2 HS
              go_wp2_with fail
              refine (all_any b mb l2 _ HK.out.d).mono ?_
              rintro e wi ⟨v, rfl, hv, hb⟩
              obtain ⟨A2, cp, rfl, hr⟩ := hv.reads
              have HK2 := Lib.hid (HK.out.below hb)
              have HR := Lib.hid hr
              have h32 : l2.length ≤ 32 := HH.out.1
              clear hb hv hr HK
              go_wp2_with fail
              go_loopw [11] (fun v wr => ∃ (k : Nat), v = .int .i64 (k : Int) ∧ k ≤ l2.length ∧ Hid (Below wi.heap.size wi wr)) (fun v _ => l2.length - (intOf v).toNat)
              case atStart => exact ⟨0, rfl, Nat.zero_le _, Lib.hid (Below.refl _ _)⟩
              case round =>
                obtain ⟨k, rfl, hk, hb⟩ := hrel
                by_cases hkl : k < l2.length
                · have q2 : (k : Int) < (l2.length : Int) := by omega
                  obtain ⟨y, hy⟩ : ∃ y, l2[k]? = some y := ⟨_, List.getElem?_eq_getElem hkl⟩
                  obtain ⟨hy1, hy2, hy3⟩ := HH.out.2 y (List.mem_of_getElem? hy)
                  have hy4 := (HK2.out.d.good.each y (List.mem_of_getElem? hy)).1
                  obtain ⟨b9, o9, rfl, e0, e1, e2⟩ := (HR.out.keep hb.out).at hy
                  have HDi := Lib.hid (dir_any y.u hy4 _ (HK2.out.x.keep hb.out))
                  rw [hy1] at HDi
                  generalize dirS y.u.data.toList = ds at *
                  have HY := Lib.hid hy
                  clear hy hy1 hy4 e1 e2
                  go_wp2_with fail
                  refine HDi.out.mono ?_
                  rintro e wk ⟨rfl, hb2⟩
                  have HB2 := Lib.hid (hb.out.trans (hb2.mono hb.out.size))
                  obtain ⟨b8, o8, e8, f0, f1, f2⟩ := (HR.out.keep HB2.out).at HY.out
                  obtain ⟨rfl, rfl⟩ : b8 = b9 ∧ o8 = o9 := by simpa [eq_comm] using e8
                  have HVV := Lib.hid hy2
                  clear hb2 hb HDi e8 hy2 f2 e0
                  go_wp2_with fail
                  have b1 : ¬ (65536 : Int) < (y.t.size : Int) := by omega
                  have b1' : decide ((65536 : Int) < (y.t.size : Int)) = false := decide_eq_false b1
                  have b0 : (0 : Int) ≤ (k : Int) := by omega
                  have hk1 : IntKind.i64.wrap ((k : Int) + 1) = (k : Int) + 1 := IntWalk.i64_in _ (by omega)
                  by_cases hk0 : k = 0
                  · as_aux_lemma =>
                      subst hk0
                      simp only [Nat.zero_mul, Nat.add_zero] at f0 f1
                      clear q2 b0 hk1
                      have q2 : (0 : Int) < (l2.length : Int) := by omega
                      refine wp_region_held_drew (S := fun w' => w'.cell? ⟨b8, o8, none⟩ = some (.string y.u) ∧ w'.cell? ⟨b8, o8 + 1, none⟩ = some (.string y.t)) (by kernel_rfl) ⟨f0, f1⟩ (fun hHeld => ?_)
                      refine wpAnyH_take (i := 0) (oi := ⟨some 158, _, _, _, _, _⟩) (v := ?_) rfl (by kernel_rfl) (by kernel_rfl) (by kernel_rfl) (fun _ _ _ h => h) (Or.inl ⟨by rfl, ?_⟩) hHeld ?_
                      rotate_left
                      · (intro W hSW; (try dsimp only at hSW); go_simp; first | done | with_reducible rfl)
                      try simp only [Act.put, List.setIfInBounds_toArray, List.set_cons_zero, List.set_cons_succ]
                      refine wpAnyH_take (i := 1) (oi := ⟨some 159, _, _, _, _, _⟩) (v := ?_) rfl (by kernel_rfl) (by kernel_rfl) (by kernel_rfl) (fun _ _ _ h => h) (Or.inl ⟨by rfl, ?_⟩) hHeld ?_
                      rotate_left
                      · (intro W hSW; (try dsimp only at hSW); go_simp; first | done | with_reducible rfl)
                      try simp only [Act.put, List.setIfInBounds_toArray, List.set_cons_zero, List.set_cons_succ]
                      refine wpAnyH_take (i := 2) (oi := ⟨some 160, _, _, _, _, _⟩) (v := ?_) rfl (by kernel_rfl) (by kernel_rfl) (by kernel_rfl) (fun _ _ _ h => h) (Or.inl ⟨by rfl, ?_⟩) hHeld ?_
                      rotate_left
                      · (intro W hSW; (try dsimp only at hSW); go_simp; first | done | with_reducible rfl)
                      try simp only [Act.put, List.setIfInBounds_toArray, List.set_cons_zero, List.set_cons_succ]
                      refine wpAnyH_take (i := 3) (oi := ⟨some 161, _, _, _, _, _⟩) (v := ?_) rfl (by kernel_rfl) (by kernel_rfl) (by kernel_rfl) (fun _ _ _ h => h) (Or.inl ⟨by rfl, ?_⟩) hHeld ?_
                      rotate_left
                      · (intro W hSW; (try dsimp only at hSW); go_simp; first | done | with_reducible rfl)
                      try simp only [Act.put, List.setIfInBounds_toArray, List.set_cons_zero, List.set_cons_succ]
                      refine wpAnyH_take (i := 4) (oi := ⟨some 162, _, _, _, _, _⟩) (v := ?_) rfl (by kernel_rfl) (by kernel_rfl) (by kernel_rfl) (fun _ _ _ h => h) (Or.inl ⟨by rfl, ?_⟩) hHeld ?_
                      rotate_left
                      · (intro W hSW; (try dsimp only at hSW); go_simp; first | done | with_reducible rfl)
                      try simp only [Act.put, List.setIfInBounds_toArray, List.set_cons_zero, List.set_cons_succ]
                      refine wpAnyH_take (i := 5) (oi := ⟨some 163, _, _, _, _, _⟩) (v := ?_) rfl (by kernel_rfl) (by kernel_rfl) (by kernel_rfl) (fun _ _ _ h => h) (Or.inl ⟨by rfl, ?_⟩) hHeld ?_
                      rotate_left
                      · (intro W hSW; (try dsimp only at hSW); go_simp; first | done | with_reducible rfl)
                      try simp only [Act.put, List.setIfInBounds_toArray, List.set_cons_zero, List.set_cons_succ]
                      refine wpAnyH_take (i := 6) (oi := ⟨some 164, _, _, _, _, _⟩) (v := ?_) rfl (by kernel_rfl) (by kernel_rfl) (by kernel_rfl) (fun _ _ _ h => h) (Or.inl ⟨by rfl, ?_⟩) hHeld ?_
                      rotate_left
                      · (intro W hSW; (try dsimp only at hSW); go_simp; first | done | with_reducible rfl)
                      try simp only [Act.put, List.setIfInBounds_toArray, List.set_cons_zero, List.set_cons_succ]
                      refine wpAnyH_take (i := 7) (oi := ⟨some 165, _, _, _, _, _⟩) (v := ?_) rfl (by kernel_rfl) (by kernel_rfl) (by kernel_rfl) (fun _ _ _ h => h) (Or.inl ⟨by rfl, ?_⟩) hHeld ?_
                      rotate_left
                      · (intro W hSW; (try dsimp only at hSW); go_simp; first | done | with_reducible rfl)
                      try simp only [Act.put, List.setIfInBounds_toArray, List.set_cons_zero, List.set_cons_succ]
                      refine wpAnyH_ready (rs := [8]) (by kernel_rfl) (by simp) ?_
                      refine AllReadyH.cons (o := ⟨some 166, _, _, _, _, _⟩) rfl (fun K hK => ?_) AllReadyH.nil
                      go_simp
                      refine (valid_any y.t _ (HK2.out.x.keep HB2.out.drew).1).mono ?_
                      rw [HVV.out]
                      rintro e wq ⟨rfl, kq⟩
                      go_wp2_with fail
                      refine hK.out _ _ (two_keep ⟨f0, f1⟩ kq) (fun hHeld2 => ?_)
                      clear hK K hHeld f0 f1
                      try simp only [Act.put, List.setIfInBounds_toArray, List.set_cons_zero, List.set_cons_succ]
                      refine wpAnyH_take (i := 9) (oi := ⟨some 167, _, _, _, _, _⟩) (v := ?_) rfl (by kernel_rfl) (by kernel_rfl) (by kernel_rfl) (fun _ _ _ h => h) (Or.inl ⟨by rfl, ?_⟩) hHeld2 ?_
                      rotate_left
                      · (intro W hSW; (try dsimp only at hSW); go_simp; first | done | with_reducible rfl)
                      try simp only [Act.put, List.setIfInBounds_toArray, List.set_cons_zero, List.set_cons_succ]
                      refine wpAnyH_take (i := 10) (oi := ⟨some 168, _, _, _, _, _⟩) (v := ?_) rfl (by kernel_rfl) (by kernel_rfl) (by kernel_rfl) (fun _ _ _ h => h) (Or.inl ⟨by rfl, ?_⟩) hHeld2 ?_
                      rotate_left
                      · (intro W hSW; (try dsimp only at hSW); go_simp; first | done | with_reducible rfl)
                      try simp only [Act.put, List.setIfInBounds_toArray, List.set_cons_zero, List.set_cons_succ]
                      refine wpAnyH_take (i := 11) (oi := ⟨some 169, _, _, _, _, _⟩) (v := ?_) rfl (by kernel_rfl) (by kernel_rfl) (by kernel_rfl) (fun _ _ _ h => h) (Or.inl ⟨by rfl, ?_⟩) hHeld2 ?_
                      rotate_left
                      · (intro W hSW; (try dsimp only at hSW); go_simp; first | done | with_reducible rfl)
                      try simp only [Act.put, List.setIfInBounds_toArray, List.set_cons_zero, List.set_cons_succ]
                      refine wpAnyH_take (i := 12) (oi := ⟨some 170, _, _, _, _, _⟩) (v := ?_) rfl (by kernel_rfl) (by kernel_rfl) (by kernel_rfl) (fun _ _ _ h => h) (Or.inl ⟨by rfl, ?_⟩) hHeld2 ?_
                      rotate_left
                      · (intro W hSW; (try dsimp only at hSW); go_simp; first | done | with_reducible rfl)
                      try simp only [Act.put, List.setIfInBounds_toArray, List.set_cons_zero, List.set_cons_succ]
                      refine wpAnyH_take (i := 13) (oi := ⟨some 171, _, _, _, _, _⟩) (v := ?_) rfl (by kernel_rfl) (by kernel_rfl) (by kernel_rfl) (fun _ _ _ h => h) (Or.inl ⟨by rfl, ?_⟩) hHeld2 ?_
                      rotate_left
                      · (intro W hSW; (try dsimp only at hSW); go_simp; first | done | with_reducible rfl)
                      try simp only [Act.put, List.setIfInBounds_toArray, List.set_cons_zero, List.set_cons_succ]
                      refine wpAnyH_take (i := 14) (oi := ⟨some 172, _, _, _, _, _⟩) (v := ?_) rfl (by kernel_rfl) (by kernel_rfl) (by kernel_rfl) (fun _ _ _ h => h) (Or.inl ⟨by rfl, ?_⟩) hHeld2 ?_
                      rotate_left
                      · (intro W hSW; (try dsimp only at hSW); go_simp; first | done | with_reducible rfl)
                      try simp only [Act.put, List.setIfInBounds_toArray, List.set_cons_zero, List.set_cons_succ]
                      refine wpAnyH_take (i := 15) (oi := ⟨some 173, _, _, _, _, _⟩) (v := ?_) rfl (by kernel_rfl) (by kernel_rfl) (by kernel_rfl) (fun _ _ _ h => h) (Or.inl ⟨by rfl, ?_⟩) hHeld2 ?_
                      rotate_left
                      · (intro W hSW; (try dsimp only at hSW); go_simp; first | done | with_reducible rfl)
                      try simp only [Act.put, List.setIfInBounds_toArray, List.set_cons_zero, List.set_cons_succ]
                      refine wpAnyH_take (i := 16) (oi := ⟨some 174, _, _, _, _, _⟩) (v := ?_) rfl (by kernel_rfl) (by kernel_rfl) (by kernel_rfl) (fun _ _ _ h => h) (Or.inl ⟨by rfl, ?_⟩) hHeld2 ?_
                      rotate_left
                      · (intro W hSW; (try dsimp only at hSW); go_simp; first | done | with_reducible rfl)
                      try simp only [Act.put, List.setIfInBounds_toArray, List.set_cons_zero, List.set_cons_succ]
                      refine wpAnyH_take (i := 17) (oi := ⟨some 175, _, _, _, _, _⟩) (v := ?_) rfl (by kernel_rfl) (by kernel_rfl) (by kernel_rfl) (fun _ _ _ h => h) (Or.inl ⟨by rfl, ?_⟩) hHeld2 ?_
                      rotate_left
                      · (intro W hSW; (try dsimp only at hSW); go_simp; first | done | with_reducible rfl)
                      try simp only [Act.put, List.setIfInBounds_toArray, List.set_cons_zero, List.set_cons_succ]
                      refine wpAnyH_take (i := 18) (oi := ⟨some 176, _, _, _, _, _⟩) (v := ?_) rfl (by kernel_rfl) (by kernel_rfl) (by kernel_rfl) (fun _ _ _ h => h) (Or.inl ⟨by rfl, ?_⟩) hHeld2 ?_
                      rotate_left
                      · (intro W hSW; (try dsimp only at hSW); go_simp; first | done | with_reducible rfl)
                      try simp only [Act.put, List.setIfInBounds_toArray, List.set_cons_zero, List.set_cons_succ]
                      refine wpAnyH_take (i := 19) (oi := ⟨some 177, _, _, _, _, _⟩) (v := ?_) rfl (by kernel_rfl) (by kernel_rfl) (by kernel_rfl) (fun _ _ _ h => h) (Or.inl ⟨by rfl, ?_⟩) hHeld2 ?_
                      rotate_left
                      · (intro W hSW; (try dsimp only at hSW); go_simp; first | done | with_reducible rfl)
                      try simp only [Act.put, List.setIfInBounds_toArray, List.set_cons_zero, List.set_cons_succ]
                      refine wpAnyH_take (i := 20) (oi := ⟨some 178, _, _, _, _, _⟩) (v := ?_) rfl (by kernel_rfl) (by kernel_rfl) (by kernel_rfl) (fun _ _ _ h => h) (Or.inl ⟨by rfl, ?_⟩) hHeld2 ?_
                      rotate_left
                      · (intro W hSW; (try dsimp only at hSW); go_simp; first | done | with_reducible rfl)
                      try simp only [Act.put, List.setIfInBounds_toArray, List.set_cons_zero, List.set_cons_succ]
                      refine wpAnyH_take (i := 21) (oi := ⟨some 179, _, _, _, _, _⟩) (v := ?_) rfl (by kernel_rfl) (by kernel_rfl) (by kernel_rfl) (fun _ _ _ h => h) (Or.inl ⟨by rfl, ?_⟩) hHeld2 ?_
                      rotate_left
                      · (intro W hSW; (try dsimp only at hSW); go_simp; first | done | with_reducible rfl)
                      try simp only [Act.put, List.setIfInBounds_toArray, List.set_cons_zero, List.set_cons_succ]
                      refine wpAnyH_take (i := 22) (oi := ⟨some 180, _, _, _, _, _⟩) (v := ?_) rfl (by kernel_rfl) (by kernel_rfl) (by kernel_rfl) (fun _ _ _ h => h) (Or.inl ⟨by rfl, ?_⟩) hHeld2 ?_
                      rotate_left
                      · (intro W hSW; (try dsimp only at hSW); go_simp; first | done | with_reducible rfl)
                      try simp only [Act.put, List.setIfInBounds_toArray, List.set_cons_zero, List.set_cons_succ]
                      refine wpAnyH_take (i := 23) (oi := ⟨some 181, _, _, _, _, _⟩) (v := ?_) rfl (by kernel_rfl) (by kernel_rfl) (by kernel_rfl) (fun _ _ _ h => h) (Or.inl ⟨by rfl, ?_⟩) hHeld2 ?_
                      rotate_left
                      · (intro W hSW; (try dsimp only at hSW); go_simp; first | done | with_reducible rfl)
                      try simp only [Act.put, List.setIfInBounds_toArray, List.set_cons_zero, List.set_cons_succ]
                      refine wpAnyH_take (i := 24) (oi := ⟨some 182, _, _, _, _, _⟩) (v := undef) rfl (by kernel_rfl) (by kernel_rfl) (by kernel_rfl) (fun _ _ _ h => h) (Or.inr ⟨by rfl, rfl⟩) hHeld2 ?_
                      try simp only [Act.put, List.setIfInBounds_toArray, List.set_cons_zero, List.set_cons_succ]
                      refine wpAnyH_take (i := 25) (oi := ⟨some 183, _, _, _, _, _⟩) (v := undef) rfl (by kernel_rfl) (by kernel_rfl) (by kernel_rfl) (fun _ _ _ h => h) (Or.inr ⟨by rfl, rfl⟩) hHeld2 ?_
                      try simp only [Act.put, List.setIfInBounds_toArray, List.set_cons_zero, List.set_cons_succ]
                      refine wpAnyH_take (i := 26) (oi := ⟨some 184, _, _, _, _, _⟩) (v := undef) rfl (by kernel_rfl) (by kernel_rfl) (by kernel_rfl) (fun _ _ _ h => h) (Or.inr ⟨by rfl, rfl⟩) hHeld2 ?_
                      try simp only [Act.put, List.setIfInBounds_toArray, List.set_cons_zero, List.set_cons_succ]
                      refine wpAnyH_take (i := 27) (oi := ⟨some 185, _, _, _, _, _⟩) (v := undef) rfl (by kernel_rfl) (by kernel_rfl) (by kernel_rfl) (fun _ _ _ h => h) (Or.inr ⟨by rfl, rfl⟩) hHeld2 ?_
                      try simp only [Act.put, List.setIfInBounds_toArray, List.set_cons_zero, List.set_cons_succ]
                      refine wpAnyH_take (i := 28) (oi := ⟨some 186, _, _, _, _, _⟩) (v := undef) rfl (by kernel_rfl) (by kernel_rfl) (by kernel_rfl) (fun _ _ _ h => h) (Or.inr ⟨by rfl, rfl⟩) hHeld2 ?_
                      try simp only [Act.put, List.setIfInBounds_toArray, List.set_cons_zero, List.set_cons_succ]
                      refine wpAnyH_take (i := 29) (oi := ⟨some 187, _, _, _, _, _⟩) (v := undef) rfl (by kernel_rfl) (by kernel_rfl) (by kernel_rfl) (fun _ _ _ h => h) (Or.inr ⟨by rfl, rfl⟩) hHeld2 ?_
                      try simp only [Act.put, List.setIfInBounds_toArray, List.set_cons_zero, List.set_cons_succ]
                      refine wpAnyH_take (i := 30) (oi := ⟨some 188, _, _, _, _, _⟩) (v := undef) rfl (by kernel_rfl) (by kernel_rfl) (by kernel_rfl) (fun _ _ _ h => h) (Or.inr ⟨by rfl, rfl⟩) hHeld2 ?_
                      try simp only [Act.put, List.setIfInBounds_toArray, List.set_cons_zero, List.set_cons_succ]
                      refine wpAnyH_take (i := 31) (oi := ⟨some 189, _, _, _, _, _⟩) (v := undef) rfl (by kernel_rfl) (by kernel_rfl) (by kernel_rfl) (fun _ _ _ h => h) (Or.inr ⟨by rfl, rfl⟩) hHeld2 ?_
                      try simp only [Act.put, List.setIfInBounds_toArray, List.set_cons_zero, List.set_cons_succ]
                      refine wpAnyH_take (i := 32) (oi := ⟨some 190, _, _, _, _, _⟩) (v := undef) rfl (by kernel_rfl) (by kernel_rfl) (by kernel_rfl) (fun _ _ _ h => h) (Or.inr ⟨by rfl, rfl⟩) hHeld2 ?_
                      try simp only [Act.put, List.setIfInBounds_toArray, List.set_cons_zero, List.set_cons_succ]
                      refine wpAnyH_take (i := 33) (oi := ⟨some 191, _, _, _, _, _⟩) (v := undef) rfl (by kernel_rfl) (by kernel_rfl) (by kernel_rfl) (fun _ _ _ h => h) (Or.inr ⟨by rfl, rfl⟩) hHeld2 ?_
                      try simp only [Act.put, List.setIfInBounds_toArray, List.set_cons_zero, List.set_cons_succ]
                      refine wpAnyH_take (i := 34) (oi := ⟨some 192, _, _, _, _, _⟩) (v := undef) rfl (by kernel_rfl) (by kernel_rfl) (by kernel_rfl) (fun _ _ _ h => h) (Or.inr ⟨by rfl, rfl⟩) hHeld2 ?_
                      try simp only [Act.put, List.setIfInBounds_toArray, List.set_cons_zero, List.set_cons_succ]
                      refine wpAnyH_take (i := 35) (oi := ⟨some 193, _, _, _, _, _⟩) (v := undef) rfl (by kernel_rfl) (by kernel_rfl) (by kernel_rfl) (fun _ _ _ h => h) (Or.inr ⟨by rfl, rfl⟩) hHeld2 ?_
                      try simp only [Act.put, List.setIfInBounds_toArray, List.set_cons_zero, List.set_cons_succ]
                      refine wpAnyH_take (i := 36) (oi := ⟨some 194, _, _, _, _, _⟩) (v := ?_) rfl (by kernel_rfl) (by kernel_rfl) (by kernel_rfl) (fun _ _ _ h => h) (Or.inl ⟨by rfl, ?_⟩) hHeld2 ?_
                      rotate_left
                      · (intro W hSW; (try dsimp only at hSW); go_simp; first | done | with_reducible rfl)
                      try simp only [Act.put, List.setIfInBounds_toArray, List.set_cons_zero, List.set_cons_succ]
                      refine wpAnyH_take (i := 37) (oi := ⟨some 195, _, _, _, _, _⟩) (v := ?_) rfl (by kernel_rfl) (by kernel_rfl) (by kernel_rfl) (fun _ _ _ h => h) (Or.inl ⟨by rfl, ?_⟩) hHeld2 ?_
                      rotate_left
                      · (intro W hSW; (try dsimp only at hSW); go_simp; first | done | with_reducible rfl)
                      try simp only [Act.put, List.setIfInBounds_toArray, List.set_cons_zero, List.set_cons_succ]
                      refine wpAnyH_done (by kernel_rfl) ?_ _
                      clear hHeld2
                      have HB3 := Lib.hid (HB2.out.trans ((below_drew kq).mono HB2.out.size))
                      clear kq b1 b1' q2
                      go_wp2_with fail
                      go_roundw
                      case rel => exact ⟨1, by go_num, by omega, HB3⟩
                      case measure => simp [intOf]; omega
                  · as_aux_lemma =>
                      obtain ⟨m, hm⟩ : ∃ m, m + 1 = k := ⟨k - 1, by omega⟩
                      obtain ⟨z, hz⟩ : ∃ z, l2[m]? = some z := ⟨_, List.getElem?_eq_getElem (by omega)⟩
                      obtain ⟨b7, o7, e7, h0, h1, h2⟩ := (HR.out.keep HB2.out).at hz
                      obtain ⟨rfl, rfl⟩ : b8 = b7 ∧ o8 = o7 := by simpa using e7
                      obtain ⟨nn, hmap⟩ := HK2.out.d.map
                      have hcmp := rise_less (owns_rise hmap) hz (by rw [hm]; exact HY.out)
                      have b2 : (0 : Int) < (k : Int) := by omega
                      have b2' : decide ((0 : Int) < (k : Int)) = true := decide_eq_true b2
                      have b3 : 0 < k := by omega
                      have b3' : decide (0 < k) = true := decide_eq_true b3
                      have hs1 : (k : Int) - 1 = (m : Int) := by omega
                      have hs2 : IntKind.i64.wrap (m : Int) = (m : Int) := IntWalk.i64_in _ (by omega)
                      have q5 : (m : Int) < (l2.length : Int) := by omega
                      have q6 : (0 : Int) ≤ (m : Int) := by omega
                      clear hk0 hm hz hmap e7 h1 h2
                      go_region_held3 (fun w' => w'.cell? ⟨b8, o8 + k * 3, none⟩ = some (.string y.u) ∧ w'.cell? ⟨b8, o8 + k * 3 + 1, none⟩ = some (.string y.t) ∧ w'.cell? ⟨b8, o8 + m * 3, none⟩ = some (.string z.u)) (first | exact ⟨f0, f1, h0⟩ | exact three_keep ⟨f0, f1, h0⟩ kq) (first | (go_at_call 10; refine (valid_any y.t _ (HK2.out.x.keep HB2.out.drew).1).mono ?_; rw [HVV.out]; rintro e wq ⟨rfl, kq⟩))
                      have HB3 := Lib.hid (HB2.out.trans ((below_drew kq).mono HB2.out.size))
                      clear f0 f1 h0 kq b1 b2 b1' b2' b3 b3' hcmp hs1 hs2 q5 q6
                      go_wp2_with fail
                      go_roundw
                      case rel => exact ⟨k + 1, by go_num, by omega, HB3⟩
                      case measure => simp [intOf]; omega
                · have q2 : ¬ (k : Int) < (l2.length : Int) := by omega
                  have q3 : ¬ (32 : Int) < (l2.length : Int) := by omega
                  have HK3 := Lib.hid (HK2.out.below hb.out)
                  clear HR hb HK2
                  go_wp2_with fail
                  go_roundw
                  case rel => exact ⟨i + 1, l2, by go_num, by omega, HH, HK3⟩
                  case measure => simp [intOf]; omega
      · have q1 : ¬ (i : Int) < (L.length : Int) := by omega
        go_wp2_with fail
        refine (works_any _ hk.out.x).mono ?_
        rintro e wz ⟨rfl, hb⟩
        have HE := Lib.hid (hk.out.b.trans (hb.mono hk.out.b.size))
        clear hb
        go_wp2_with fail
        go_ret
        exact ⟨rfl, HE.out⟩
end Go.Proofs.YtpphkkelikdhkaaDoor
