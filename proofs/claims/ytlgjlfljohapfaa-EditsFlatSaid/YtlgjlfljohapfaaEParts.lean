/-
  edits' isCopy, meanings and faultOfParts, AT EVERY TEXT and list of parts. No memory that was there turns. Conditions: the lengths.
-/
import Derived.Test.YtlgjlfljohapfaaEPlain4
namespace Go.Proofs.Ytlgjlfljohapfaa
open Go.RowKit Go.Shelf

/-- A part: from, to, its text, is it new? -/
structure Prt where
  f : Int
  t : Int
  s : ByteArray
  n : Bool
def isCp (p : Prt) : Bool := !p.n && decide (p.s.size = 0)
def inT (text : ByteArray) (p : Prt) : Bool := decide (0 ≤ p.f) && decide (p.f ≤ p.t) && decide (p.t ≤ text.size)
/-- May a part be? -/
def prtOk (text : ByteArray) (p : Prt) : Bool := !isCp p || inT text p
def meanS (text : ByteArray) (p : Prt) : ByteArray := if isCp p = true then text.extract p.f.toNat p.t.toNat else p.s
def means (text : ByteArray) (P : List Prt) : List ByteArray := P.map (meanS text)
def partsE (text : ByteArray) (P : List Prt) : Int := if P.all (prtOk text) = true then (if 65536 < tot (means text P) then 3 else 0) else 2
/-- A slice that reads as parts. -/
def PR (W : World) (A : Option Addr) (P : List Prt) : Prop :=
  0 < P.length → ∃ b o, A = some ⟨b, o, none⟩ ∧ ∀ j x, P[j]? = some x → W.cell? ⟨b, o + j * 4, none⟩ = some (.int .i64 x.f) ∧ W.cell? ⟨b, o + j * 4 + 1, none⟩ = some (.int .i64 x.t) ∧ W.cell? ⟨b, o + j * 4 + 2, none⟩ = some (.string x.s) ∧ W.cell? ⟨b, o + j * 4 + 3, none⟩ = some (.bool x.n)
theorem PR.keep {W W' : World} {A : Option Addr} {P : List Prt} (h : PR W A P) (hb : Below W.heap.size W W') : PR W' A P := fun h0 => by
  obtain ⟨b, o, e, hc⟩ := h h0
  exact ⟨b, o, e, fun j x hx => ⟨cell_keep hb (hc j x hx).1, cell_keep hb (hc j x hx).2.1, cell_keep hb (hc j x hx).2.2.1, cell_keep hb (hc j x hx).2.2.2⟩⟩
theorem PR.at {W : World} {A : Option Addr} {P : List Prt} (h : PR W A P) {i : Nat} {x : Prt} (hx : P[i]? = some x) : ∃ b o, A = some ⟨b, o, none⟩ ∧ W.cell? ⟨b, o + i * 4, none⟩ = some (.int .i64 x.f) ∧ W.cell? ⟨b, o + i * 4 + 1, none⟩ = some (.int .i64 x.t) ∧ W.cell? ⟨b, o + i * 4 + 2, none⟩ = some (.string x.s) ∧ W.cell? ⟨b, o + i * 4 + 3, none⟩ = some (.bool x.n) := by
  obtain ⟨b, o, e, hc⟩ := h (by have := (List.getElem?_eq_some_iff.1 hx).1; omega)
  exact ⟨b, o, e, hc i x hx⟩
def prtC (x : Prt) : Array Value := #[.int .i64 x.f, .int .i64 x.t, .string x.s, .bool x.n]
theorem empty_of {s : ByteArray} (h : s.size = 0) : s = ⟨#[]⟩ := by
  obtain ⟨⟨l⟩⟩ := s
  have : l = [] := List.eq_nil_of_length_eq_zero h
  subst this
  rfl
theorem isCp_new (f t : Int) (s : ByteArray) : isCp ⟨f, t, s, true⟩ = false := rfl
theorem isCp_no {f t : Int} {s : ByteArray} (h : ¬ s.size = 0) : isCp ⟨f, t, s, false⟩ = false := by unfold isCp; rw [decide_eq_false h]; rfl
theorem isCp_yes (f t : Int) : isCp ⟨f, t, ⟨#[]⟩, false⟩ = true := rfl
theorem isCopy_any (x : Prt) (w : World) : Calls Try.prog 65 #[.agg #[.int .i64 x.f, .int .i64 x.t, .string x.s, .bool x.n]] w fun e w' => e = .returned (.bool (isCp x)) ∧ Below w.heap.size w w' := by
  obtain ⟨f, t, s, n⟩ := x
  simp only
  cases n with
  | true =>
    rw [isCp_new]
    go_enter Try.func65, Try.ntmps65
    go_wp2_with fail
    go_ret
    exact ⟨rfl, alloc_below w _⟩
  | false =>
    by_cases h : s.size = 0
    · have := empty_of h
      subst this
      rw [isCp_yes]
      go_enter Try.func65, Try.ntmps65
      go_wp2_with fail
      go_ret
      exact ⟨rfl, alloc_below w _⟩
    · have e1 : (s.toList.isEmpty) = false := by
        rw [Lib.toList_data, List.isEmpty_eq_false_iff]
        intro hh
        exact h (congrArg List.length hh)
      rw [isCp_no h]
      go_enter Try.func65, Try.ntmps65
      go_wp2_with fail
      go_ret
      exact ⟨rfl, alloc_below w _⟩
theorem KX.of_below {X : Nat → Prop} {W W' : World} (h : Below W.heap.size W W') : KX X W W' := ⟨h.size, fun _ _ _ hk _ => heap_keep h hk⟩
theorem grown_of_below {W W' : World} (h : Below W.heap.size W W') : W.grownBy W' none := ⟨h.os, h.tape, h.output, h.size, fun k hk _ => h.block k hk⟩
set_option maxHeartbeats 4000000 in
set_option maxRecDepth 100000 in
theorem means_seq (n : Nat) (text : ByteArray) (A : Option Addr) (P : List Prt) (c : Nat) (hs : text.size ≤ 1000000) (hL : P.length ≤ 1000) (hZ : ∀ x ∈ P, x.s.size ≤ 1000000) (hok : P.all (prtOk text) = true) (N1 N2 : Nat) (X : Nat → Prop) (w : World)
    (h1 : w.heap[N1]? = some (.cells #[.slice A P.length c] 68 (0, 0))) (h2 : w.heap[N2]? = some (.cells #[.string text] 9 (0, 0))) (hS : PR w A P)
    (hX : ∀ k, X k → k < w.heap.size) (hX2 : ¬ X N2) (hX3 : 0 < P.length → ∀ b o, A = some ⟨b, o, none⟩ → ¬ X b) :
    SeqStopsK Fence.wide n Try.prog 66 #[.pointer (some ⟨N1, 0, none⟩), .pointer (some ⟨N2, 0, none⟩)] encS (KX X) (fun xs => vals xs = means text P) (fun _ => True) P.length w := by
  intro l J Jx W hbW hAJ hAJx hY h0
  have hN1 := cell_at (i := 0) (heap_keep hbW h1)
  have hN2 := cell_at (i := 0) (heap_keep hbW h2)
  have HS := Lib.hid (hS.keep hbW)
  have HX := Lib.hid (fun k hk => Nat.lt_of_lt_of_le (hX k hk) hbW.size)
  have HN2 := Lib.hid hN2
  have H2 := Lib.hid hX2
  have H3 := Lib.hid hX3
  have HOK := Lib.hid (List.all_eq_true.1 hok)
  have HA := Lib.hid hAJ
  have HYY := Lib.hid hY
  have HZ := Lib.hid hZ
  have HTS := Lib.hid hs
  have HJ0 := Lib.hid h0
  clear hZ hX2 hX3 hX hS hbW h1 h2 hok hAJ hAJx hY h0 hN2
  refine callsIn_of_wp Try.func66 rfl trivial ?_ rfl
  simp only [Try.ntmps66, List.size_toArray, List.length_cons, List.length_nil, Nat.reduceAdd, Nat.reduceSub, Array.replicate_succ, Array.replicate_zero, List.push_toArray, List.append_toArray, List.nil_append, List.cons_append]
  gi_wp2_with fail
  gi_loopw [9] (fun v wr => ∃ (pre : List Bs) (i : Nat), v = .int .i64 (i : Int) ∧ i ≤ P.length ∧ pre.length = i ∧ Hid (vals pre = means text (P.take i)) ∧ Hid (KX X W wr) ∧ Hid (J pre wr)) (fun v _ => P.length - (intOf v).toNat)
  case atStart => exact ⟨[], 0, rfl, Nat.zero_le _, rfl, Lib.hid rfl, Lib.hid (KX.refl _ _), HJ0⟩
  case round =>
    clear HJ0 hN1
    obtain ⟨pre, i, rfl, hi, hpi, hl, hkx, hJ⟩ := hrel
    have a2 := hkx.out.cell H2.out HN2.out
    by_cases hlt : i < P.length
    · obtain ⟨x, hx⟩ : ∃ x, P[i]? = some x := ⟨_, List.getElem?_eq_getElem hlt⟩
      obtain ⟨b, o, rfl, d0, d1, d2, d3⟩ := HS.out.at hx
      have hxb := H3.out (by omega) b o rfl
      have c0 := hkx.out.cell hxb d0
      have c1 := hkx.out.cell hxb d1
      have c2 := hkx.out.cell hxb d2
      have c3 := hkx.out.cell hxb d3
      have hxs := HZ.out x (List.mem_of_getElem? hx)
      have hxo := HOK.out x (List.mem_of_getElem? hx)
      have hms : (meanS text x).size ≤ 1000000 := by
        unfold meanS
        split
        · exact ext_le _ _ _ HTS.out
        · exact hxs
      have htk : P.take (i + 1) = P.take i ++ [x] := by
        obtain ⟨h1, rfl⟩ := List.getElem?_eq_some_iff.1 hx
        exact List.take_succ_eq_append_getElem h1
      obtain ⟨y, hy0⟩ : ∃ y : Bs, y.1 = meanS text x := ⟨⟨meanS text x, hms⟩, rfl⟩
      have HL : Hid (vals (pre ++ [y]) = means text (P.take (i + 1))) := Lib.hid (by
        rw [vals_app, hl.out, htk]
        simp [vals, means, hy0])
      have HCP := Lib.hid (fun W => isCopy_any x W)
      have q : decide ((i : Int) < (P.length : Int)) = true := by simpa using hlt
      have HK0 := Lib.hid (hkx.out.trans (KX.alloc wr (.cells #[.int .i64 x.f, .int .i64 x.t, .string x.s, .bool x.n] 67)))
      have HJ1 := Lib.hid (HA.out pre wr (wr.alloc (.cells #[.int .i64 x.f, .int .i64 x.t, .string x.s, .bool x.n] 67)) none hJ.out (World.grownBy_alloc wr _ none) (fun r e => by cases e))
      have HT := alloc_top wr #[.int .i64 x.f, .int .i64 x.t, .string x.s, .bool x.n] 67
      have hn2 := cell_lt a2
      have HT1 := Lib.hid HT
      have HA2 := Lib.hid (cell_keep (alloc_below wr (.cells #[.int .i64 x.f, .int .i64 x.t, .string x.s, .bool x.n] 67)) a2)
      unfold prtOk at hxo
      unfold meanS at hy0
      clear hms hx d0 d1 d2 d3 hl hkx hJ hxb hxs HT htk
      cases hcp : isCp x with
      | true =>
        rw [hcp] at HCP hxo
        rw [if_pos hcp] at hy0
        unfold inT at hxo
        simp only [Bool.not_true, Bool.false_or, Bool.and_eq_true, decide_eq_true_eq] at hxo
        obtain ⟨⟨g1, g2⟩, g3⟩ := hxo
        obtain ⟨xf, xt, xs, xn⟩ := x
        simp only at g1 g2 g3 c0 c1 c2 c3 HCP HJ1 HK0 HT1 HA2 hy0
        obtain ⟨f, rfl⟩ := Int.eq_ofNat_of_zero_le g1
        obtain ⟨t, rfl⟩ := Int.eq_ofNat_of_zero_le (show 0 ≤ xt by omega)
        simp only [Int.toNat_natCast] at hy0
        have HY0 := Lib.hid hy0
        have k1 : f ≤ t := by omega
        have k2 : t ≤ text.size := by omega
        clear hcp g1 g2 g3 hy0
        gi_wp2_with fail
        refine ⟨trivial, (fun h => by cases h), (callsIn_wide.2 (HCP.out _)).mono ?_⟩
        rintro e w2 ⟨rfl, hb2⟩
        have hc2 := heap_keep hb2 HT1.out
        have e0 := cell_at (i := 0) hc2
        have e1 := cell_at (i := 1) hc2
        have e2 := cell_keep hb2 HA2.out
        have HJ2 := Lib.hid (HA.out pre _ w2 none HJ1.out (grown_of_below hb2) (fun r e => by cases e))
        have HK2 := Lib.hid (HK0.out.trans (KX.of_below hb2))
        obtain ⟨fn, tmps, assign, body, hy, hR⟩ := HYY.out pre y _ HJ2.out (by omega)
        have HR := Lib.hid hR
        unfold encS at hy
        rw [HY0.out] at hy
        clear hb2 hc2 hR HJ1 HK0 HT1 HA2 a2 c0 c1 c2 c3
        gi_wp2_with fail
        refine ⟨(fun h => by cases h), HR.out.mono ?_⟩
        rintro e W2 (⟨rfl, hJ3, hK3⟩ | ⟨rfl, hJx⟩)
        · have HJ3 := Lib.hid hJ3
          have HK3 := Lib.hid (HK2.out.trans hK3)
          clear hJ3 hK3 HR hy
          gi_wp2_with fail
          refine ⟨⟨pre ++ [y], i + 1, by go_num, by omega, by rw [List.length_append, hpi]; rfl, HL, HK3, HJ3⟩, ?_⟩
          simp [intOf]
          omega
        · gi_wp2_with fail
          refine bodyPost_ret (results_none rfl _ _ _) rfl ?_
          exact ⟨⟨_, rfl⟩, .inr ⟨_, trivial, hJx⟩⟩
      | false =>
        rw [hcp] at HCP
        rw [if_neg (by rw [hcp]; simp)] at hy0
        have HY0 := Lib.hid hy0
        clear hcp hxo hy0
        gi_wp2_with fail
        refine ⟨trivial, (fun h => by cases h), (callsIn_wide.2 (HCP.out _)).mono ?_⟩
        rintro e w2 ⟨rfl, hb2⟩
        have HJ2 := Lib.hid (HA.out pre _ w2 none HJ1.out (grown_of_below hb2) (fun r e => by cases e))
        have HK2 := Lib.hid (HK0.out.trans (KX.of_below hb2))
        obtain ⟨fn, tmps, assign, body, hy, hR⟩ := HYY.out pre y _ HJ2.out (by omega)
        have HR := Lib.hid hR
        unfold encS at hy
        rw [HY0.out] at hy
        clear hb2 hR HJ1 HK0 HT1 HA2 a2 c0 c1 c2 c3
        gi_wp2_with fail
        refine ⟨(fun h => by cases h), HR.out.mono ?_⟩
        rintro e W2 (⟨rfl, hJ3, hK3⟩ | ⟨rfl, hJx⟩)
        · have HJ3 := Lib.hid hJ3
          have HK3 := Lib.hid (HK2.out.trans hK3)
          clear hJ3 hK3 HR hy
          gi_wp2_with fail
          refine ⟨⟨pre ++ [y], i + 1, by go_num, by omega, by rw [List.length_append, hpi]; rfl, HL, HK3, HJ3⟩, ?_⟩
          simp [intOf]
          omega
        · gi_wp2_with fail
          refine bodyPost_ret (results_none rfl _ _ _) rfl ?_
          exact ⟨⟨_, rfl⟩, .inr ⟨_, trivial, hJx⟩⟩
    · have HL : Hid (vals pre = means text P) := Lib.hid (by rw [hl.out, List.take_of_length_le (by omega)])
      have q : decide ((i : Int) < (P.length : Int)) = false := by simp; omega
      have HJ3 := Lib.hid hJ.out
      clear hl hJ
      gi_wp2_with fail
      go_end0
      exact ⟨⟨_, rfl⟩, .inl ⟨_, HL.out, HJ3.out⟩⟩
end Go.Proofs.Ytlgjlfljohapfaa
