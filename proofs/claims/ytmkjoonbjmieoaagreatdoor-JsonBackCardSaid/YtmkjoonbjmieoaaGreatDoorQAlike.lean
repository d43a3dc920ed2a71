/-
  json's isAlike, isAlikeByKeys, Same: a value without a fault is the same as itself, wherever its two copies lie. Condition: the value's size.
-/
import Derived.Test.YtmkjoonbjmieoaaGreatDoorQWorks
namespace Go.Proofs.YtmkjoonbjmieoaaGreatDoor
open Go.RowKit Go.Maps

abbrev OwnsP (w : World) (b n : Nat) (D : DataW Unit) : Prop := w.ownsMap Tryz.prog 9 (plainElem Tryz.prog 3) b n D
/-- The places of keys, up to one, in a map. -/
def KMap (W : World) (b : Nat) (n : Nat) (ks : List (List UInt8)) : Prop :=
  ∃ m D, m ≤ n ∧ OwnsP W b m D ∧ ∀ i x, i < n → ks[i]? = some x → Maps.has D (.string x) = true ∧ D.atKey (.string x) (.lit (.int .i64 0)) = .lit (.int .i64 (i : Int))
theorem KMap.lt {W : World} {b n : Nat} {ks : List (List UInt8)} (h : KMap W b n ks) : b < W.heap.size := by
  obtain ⟨_, _, _, ho, _⟩ := h
  exact World.ownsMap.lt ho
theorem KMap.keep {W W' : World} {b n : Nat} {ks : List (List UInt8)} (h : KMap W b n ks) (hs : W'.heap[b]? = W.heap[b]?) : KMap W' b n ks := by
  obtain ⟨m, D, hn, ho, hh⟩ := h
  obtain ⟨es, clock, h1, F, hs2, hD⟩ := ho
  exact ⟨m, D, hn, ⟨es, clock, hs.trans h1, F, hs2, hD⟩, hh⟩
theorem KMap.made (w : World) (ks : List (List UInt8)) : KMap (w.alloc (.map #[] 0)) w.heap.size 0 ks :=
  ⟨0, .map [], Nat.le_refl _, World.ownsMap_made (H := Unit) w Tryz.prog 9 (plainElem Tryz.prog 3), fun _ _ h => absurd h (Nat.not_lt_zero _)⟩
theorem int_wf (i : Nat) (h : i ≤ 1000000) : (Lit.int .i64 (i : Int)).wf = true := by
  have h1 : IntKind.i64.min = -9223372036854775808 := by decide
  have h2 : IntKind.i64.max = 9223372036854775807 := by decide
  simp only [Lit.wf, h1, h2, Bool.and_eq_true, decide_eq_true_eq]
  omega
theorem zero_int (w : World) : (zeroValue 3).run Tryz.prog w = .ok (.int .i64 0) w := by kernel_rfl
theorem kmap_step {w : World} {b i : Nat} {ks : List (List UInt8)} {x : List UInt8} (hnd : ks.Nodup) (h : KMap w b i ks) (hx : ks[i]? = some x) (hxl : x.length ≤ 1000000) (hi : i ≤ 1000000) :
    ∃ w', (Instr.mapUpdate 148 (.map (some b)) (.string (txt x)) (.int .i64 (i : Int))).run Tryz.prog w = .ok () w' ∧ KMap w' b (i + 1) ks ∧ w.grownBy w' (some b) := by
  obtain ⟨m, D, hn, ho, hh⟩ := h
  have hI := World.ownsMap.isMap ho
  obtain ⟨w', h1, h2, h3⟩ := World.ownsMap.update ho lawS Tryz.underlying148 (by unfold maxLen; omega) (Go.WideMaps.keyOf_string_mk Tryz.underlying9 (s := txt x) (by rw [txt_size]; unfold maxLen; omega)) (plainElem_int Tryz.underlying3 (int_wf i hi))
  refine ⟨w', h1, ⟨m + 1, _, by omega, h2, fun k y hk hy => ?_⟩, h3⟩
  rw [txt_data]
  by_cases hki : k = i
  · subst hki
    obtain rfl : x = y := by rw [hx] at hy; exact Option.some.inj hy
    exact ⟨has_put_same hI (is_keyS _) _, atKey_put_same hI (is_keyS _) _ _⟩
  · have hne : y ≠ x := by
      intro h
      subst h
      obtain ⟨h1, h1'⟩ := List.getElem?_eq_some_iff.1 hy
      obtain ⟨h2, h2'⟩ := List.getElem?_eq_some_iff.1 hx
      exact (List.pairwise_iff_getElem.1 hnd) k i h1 h2 (by omega) (h1'.trans h2'.symm)
    have hne2 : (Lit.string y) ≠ (.string x) := by intro h; injection h with h; exact hne h
    obtain ⟨h4, h5⟩ := hh k y (by omega) hy
    exact ⟨(has_put_other hne2 _).trans h4, (atKey_put_other hne2 _ _).trans h5⟩
theorem kmap_look {w : World} {b n i : Nat} {ks : List (List UInt8)} {x : List UInt8} (h : KMap w b n ks) (hi : i < n) (hx : ks[i]? = some x) (hxl : x.length ≤ 1000000) :
    (Instr.lookup 148 (.map (some b)) (.string (txt x)) true).run Tryz.prog w = .ok (.tuple #[.int .i64 (i : Int), .bool true]) w := by
  obtain ⟨m, D, hn, ho, hh⟩ := h
  obtain ⟨v, ps, h1, h2⟩ := World.ownsMap.look_ok ho lawS Tryz.underlying148 (zero_int w) (plainElem_int Tryz.underlying3 (by decide)) (Go.WideMaps.keyOf_string_mk Tryz.underlying9 (s := txt x) (by rw [txt_size]; unfold maxLen; omega))
  obtain ⟨c, rfl, hc, _⟩ := plainElem_int_inv Tryz.underlying3 h2
  obtain ⟨h4, h5⟩ := hh i x hi hx
  rw [txt_data] at h1 hc
  rw [h5] at hc
  rw [h4] at h1
  simp only [Prod.mk.injEq, DataW.lit.injEq, Lit.int.injEq, true_and] at hc
  rw [h1, ← hc.1]
theorem nodupK : ∀ {met ks : List (List UInt8)} {l : List J}, ks.length = l.length → faultK met ks l = 0 → ks.Nodup ∧ ∀ x ∈ ks, x ∉ met
  | _, [], _, _, _ => ⟨List.nodup_nil, fun _ h => by cases h⟩
  | _, _ :: _, [], h, _ => by simp at h
  | met, key :: ks, j :: l, hlen, h => by
    have h2 := faultK_cons h
    have ih := nodupK (by simpa using hlen) h2.2.2.2
    refine ⟨List.nodup_cons.2 ⟨fun hm => (ih.2 key hm) List.mem_cons_self, ih.1⟩, fun x hx => ?_⟩
    rcases List.mem_cons.1 hx with rfl | hx
    · simpa using h2.2.1
    · exact fun hm => ih.2 x hx (List.mem_cons_of_mem _ hm)
/-- isAlike's contract at a value. -/
def AOk (j : J) : Prop := ∀ (P Q : Nat → Prop) (u v : Value) (w : World), JIn w P j u → JIn w Q j v → Calls Tryz.prog 50 #[u, v] w fun e w' => e = .returned (.bool true) ∧ Below w.heap.size w w'
set_option maxRecDepth 100000 in
set_option maxHeartbeats 2000000 in
theorem equalFunc_any (P Q : Nat → Prop) (l : List J) (A B : Option Addr) (c d : Nat) (hn : l.length ≤ 1000000) (hok : ∀ t ∈ l, AOk t) (w : World) (h1 : SJ w P l A) (h2 : SJ w Q l B) :
    Calls Tryz.prog 84 #[.slice A l.length c, .slice B l.length d, .func (.func 50) #[] #[]] w fun e w' => e = .returned (.bool true) ∧ Below w.heap.size w w' := by
  have eg' : ∀ (args : Array Value) (w : World), (callFunc 50 args).run Tryz.prog w = .ok (.enter 50 args) w := enters_of Tryz.func50 (by kernel_rfl) rfl
  have HL1 := Lib.hid h1
  have HL2 := Lib.hid h2
  have HOK := Lib.hid hok
  generalize hln : l.length = ln at *
  have HLN := Lib.hid hln
  clear h1 h2 hok hln
  go_enter Tryz.func84, Tryz.ntmps84
  go_wp2_with fail
  go_loopw [7, 8, 9, 17] (fun _ _ _ vi wr => ∃ i : Nat, i ≤ ln ∧ vi = .int .i64 i ∧ Hid (Below w.heap.size w wr)) (fun _ _ _ vi _ => ln - (intOf vi).toNat)
  case atStart => exact ⟨0, Nat.zero_le _, rfl, Lib.hid (Below.refl _ _)⟩
  case round =>
    obtain ⟨i, hi, rfl, hb⟩ := hrel
    by_cases hlt : i < ln
    · have hltz : (i : Int) < (ln : Int) := by omega
      have hil : i < l.length := by rw [HLN.out]; exact hlt
      obtain ⟨b1, o1, rfl, -, hr1⟩ := (HL1.out.below hb.out) (by omega)
      obtain ⟨b2, o2, rfl, -, hr2⟩ := (HL2.out.below hb.out) (by omega)
      obtain ⟨t, htt⟩ : ∃ t, t = l[i] := ⟨_, rfl⟩
      have hti : l[i]? = some t := by rw [htt]; exact List.getElem?_eq_getElem hil
      have htm : t ∈ l := by rw [htt]; exact List.getElem_mem hil
      obtain ⟨v0, v1, v2, v3, d0, d1, d2, d3, hj1⟩ := hr1.at hti
      obtain ⟨u0, u1, u2, u3, e0, e1, e2, e3, hj2⟩ := hr2.at hti
      obtain ⟨k1, s1, A1, n1, c1, B1, m1, f1, rfl, rfl, rfl, rfl⟩ := jin_shape hj1
      obtain ⟨k2, s2, A2, n2, c2, B2, m2, f2, rfl, rfl, rfl, rfl⟩ := jin_shape hj2
      have HT := Lib.hid (TwoJ.new wr #[.int .i64 k1, .string s1, .slice A1 n1 c1, .slice B1 m1 f1] #[.int .i64 k2, .string s2, .slice A2 n2 c2, .slice B2 m2 f2])
      have HO := Lib.hid (HOK.out t htm P Q _ _ _ (hj1.below HT.out.below) (hj2.below HT.out.below))
      obtain ⟨x0, x1, x2, x3⟩ := tok_cells HT.out.one
      obtain ⟨y0, y1, y2, y3⟩ := tok_cells HT.out.two
      have hz1 : (wr.alloc (.cells #[.int .i64 k1, .string s1, .slice A1 n1 c1, .slice B1 m1 f1] 25)).heap.size = wr.heap.size + 1 := World.size_alloc ..
      have hba := alloc_below wr (.cells #[.int .i64 k1, .string s1, .slice A1 n1 c1, .slice B1 m1 f1] 25)
      replace e0 := cell_keep2 hba e0
      replace e1 := cell_keep2 hba e1
      replace e2 := cell_keep2 hba e2
      replace e3 := cell_keep2 hba e3
      clear hr1 hr2 hj1 hj2 hti htt htm hil hba
      go_wp2_with fail
      go_at_fn 50
      refine HO.out.mono ?_
      rintro e w' ⟨rfl, hb'⟩
      have HB2 := Lib.hid (hb.out.trans ((HT.out.below.trans (hb'.mono HT.out.below.size)).mono hb.out.size))
      clear hb' x0 x1 x2 x3 y0 y1 y2 y3 d0 d1 d2 d3 e0 e1 e2 e3 HO HT hb
      go_wp2_with fail
      go_roundw
      case rel => exact ⟨i + 1, by omega, by go_num, HB2⟩
      case measure => simp [intOf]; omega
    · have hltz : ¬ (i : Int) < (ln : Int) := by omega
      go_wp2_with fail
      go_ret
      exact ⟨rfl, hb.out⟩
/-- The two values' blocks, the map. -/
structure AK (w : World) (c1 c2 : Array Value) (n : Nat) (ks : List (List UInt8)) (W : World) : Prop where
  two : TwoJ w c1 c2 W
  map : KMap W (w.heap.size + 2) n ks
theorem AK.step {w W W' : World} {c1 c2 : Array Value} {n : Nat} {ks : List (List UInt8)} (h : AK w c1 c2 n ks W) (hb : Below W.heap.size W W') : AK w c1 c2 n ks W' :=
  ⟨h.two.step hb, h.map.keep (hb.block _ h.map.lt)⟩
theorem AK.turn {w W W' : World} {c1 c2 : Array Value} {n m : Nat} {ks : List (List UInt8)} (h : AK w c1 c2 n ks W) (hk : KMap W' (w.heap.size + 2) m ks) (hg : W.grownBy W' (some (w.heap.size + 2))) : AK w c1 c2 m ks W' := by
  have h1 := (Array.getElem?_eq_some_iff.1 h.two.one).1
  have h2 := (Array.getElem?_eq_some_iff.1 h.two.two).1
  refine ⟨⟨?_, (hg.block _ h1 (by simp)).trans h.two.one, (hg.block _ h2 (by simp)).trans h.two.two⟩, hk⟩
  exact h.two.below.trans ((Fr.of_grown hg).to_below h.two.below.size (fun k (hk : k = _) => by omega))
set_option maxRecDepth 100000 in
set_option maxHeartbeats 4000000 in
theorem alikeKeys_any (P Q : Nat → Prop) (ks : List (List UInt8)) (l : List J) (hlen : ks.length = l.length) (hsz : szK ks + szL l ≤ 1000000) (hf : faultK [] ks l = 0) (hok : ∀ t ∈ l, AOk t) (u v : Value) (w : World) (hu : JIn w P (.mk 6 [] ks l) u) (hv : JIn w Q (.mk 6 [] ks l) v) :
    Calls Tryz.prog 83 #[u, v] w fun e w' => e = .returned (.bool true) ∧ Below w.heap.size w w' := by
  obtain ⟨ka, kc, ia, ic, rfl, hk1, hl1⟩ := hu.open
  obtain ⟨kb, kd, ib, id, rfl, hk2, hl2⟩ := hv.open
  have hkl := szK_len ks
  have hll := szL_len l
  have HND := Lib.hid (nodupK hlen hf).1
  have HA : Hid (AK w #[.int .i64 6, .string (txt []), .slice ka ks.length kc, .slice ia l.length ic] #[.int .i64 6, .string (txt []), .slice kb ks.length kd, .slice ib l.length id] 0 ks (((w.alloc (.cells #[.int .i64 6, .string (txt []), .slice ka ks.length kc, .slice ia l.length ic] 25)).alloc (.cells #[.int .i64 6, .string (txt []), .slice kb ks.length kd, .slice ib l.length id] 25)).alloc (.map #[] 0))) := Lib.hid (by
    have h2 := TwoJ.new w #[.int .i64 6, .string (txt []), .slice ka ks.length kc, .slice ia l.length ic] #[.int .i64 6, .string (txt []), .slice kb ks.length kd, .slice ib l.length id]
    have hm := KMap.made ((w.alloc (.cells #[.int .i64 6, .string (txt []), .slice ka ks.length kc, .slice ia l.length ic] 25)).alloc (.cells #[.int .i64 6, .string (txt []), .slice kb ks.length kd, .slice ib l.length id] 25)) ks
    rw [World.size_alloc, World.size_alloc] at hm
    exact ⟨h2.step (alloc_below _ _), hm⟩)
  have HK1 := Lib.hid hk1
  have HK2 := Lib.hid hk2
  have HL1 := Lib.hid hl1
  have HL2 := Lib.hid hl2
  have HOK := Lib.hid hok
  have HKS : Hid (∀ x ∈ ks, x.length ≤ 1000000) := Lib.hid (fun x hx => by have := szK_mem hx; omega)
  obtain ⟨y0, y1, y2, y3⟩ := tok_cells HA.out.two.two
  have hz1 : (w.alloc (.cells #[.int .i64 6, .string (txt []), .slice ka ks.length kc, .slice ia l.length ic] 25)).heap.size = w.heap.size + 1 := World.size_alloc ..
  have hz2 : ((w.alloc (.cells #[.int .i64 6, .string (txt []), .slice ka ks.length kc, .slice ia l.length ic] 25)).alloc (.cells #[.int .i64 6, .string (txt []), .slice kb ks.length kd, .slice ib l.length id] 25)).heap.size = w.heap.size + 2 := by rw [World.size_alloc, World.size_alloc]
  generalize hkn : ks.length = kn at *
  generalize hln : l.length = ln at *
  have HKN := Lib.hid hkn
  have HLN := Lib.hid hln
  have HLEN : Hid (kn = ln) := Lib.hid hlen
  have hknb : kn ≤ 1000000 := by omega
  have hmm := @run_makeMap Tryz.prog
  clear hu hv hk1 hk2 hl1 hl2 hok hsz hf hkl hll hkn hln hlen
  go_enter Tryz.func83, Tryz.ntmps83
  go_wp2_with fail
  clear hz1 hz2
  go_loopw [6, 7, 16] (fun _ _ vi wr => ∃ i : Nat, i ≤ kn ∧ vi = .int .i64 i ∧ Hid (AK w #[.int .i64 6, .string (txt []), .slice ka kn kc, .slice ia ln ic] #[.int .i64 6, .string (txt []), .slice kb kn kd, .slice ib ln id] i ks wr)) (fun _ _ vi _ => kn - (intOf vi).toNat)
  case atStart => exact ⟨0, Nat.zero_le _, rfl, HA⟩
  case round =>
    clear HA y0 y1 y2 y3
    obtain ⟨i, hi, rfl, ha⟩ := hrel
    by_cases hlt : i < kn
    · have hltz : (i : Int) < (kn : Int) := by omega
      have hik : i < ks.length := by rw [HKN.out]; exact hlt
      obtain ⟨b1, o1, rfl, hc1⟩ := kin_at (HK2.out.below ha.out.two.below) (by omega)
      have a1 := hc1 i _ (List.getElem?_eq_getElem hik)
      obtain ⟨w9, hup, hkm, hgr⟩ := kmap_step HND.out ha.out.map (List.getElem?_eq_getElem hik) (HKS.out _ (List.getElem_mem hik)) (by omega)
      have HA2 := Lib.hid (ha.out.turn hkm hgr)
      generalize ks[i] = x at a1 hup
      clear hc1 hik hkm hgr ha
      go_wp2_with fail
      go_roundw
      case rel => exact ⟨i + 1, by omega, by go_num, HA2⟩
      case measure => simp [intOf]; omega
    · have hltz : ¬ (i : Int) < (kn : Int) := by omega
      obtain rfl : i = kn := by omega
      have HA := Lib.hid ha.out
      obtain ⟨y0, y1, y2, y3⟩ := tok_cells HA.out.two.one
      clear ha hlt hi
      go_wp2_with fail
      go_loopw [8, 9, 10, 11, 28] (fun _ _ _ _ vi wr => ∃ m : Nat, m ≤ i ∧ vi = .int .i64 m ∧ Hid (AK w #[.int .i64 6, .string (txt []), .slice ka i kc, .slice ia ln ic] #[.int .i64 6, .string (txt []), .slice kb i kd, .slice ib ln id] i ks wr)) (fun _ _ _ _ vi _ => i - (intOf vi).toNat)
      case atStart => exact ⟨0, Nat.zero_le _, rfl, HA⟩
      case round =>
        clear HA y0 y1 y2 y3
        obtain ⟨m, hm, rfl, ha⟩ := hrel
        obtain ⟨x0, x1, x2, x3⟩ := tok_cells ha.out.two.one
        obtain ⟨y0, y1, y2, y3⟩ := tok_cells ha.out.two.two
        by_cases hlt : m < i
        · have hltz : (m : Int) < (i : Int) := by omega
          have hik : m < ks.length := by rw [HKN.out]; exact hlt
          have hil : m < l.length := by rw [HLN.out, ← HLEN.out]; exact hlt
          have hile : (m : Int) < (ln : Int) := by have := HLEN.out; omega
          obtain ⟨b0, o0, rfl, hc1⟩ := kin_at (HK1.out.below ha.out.two.below) (by omega)
          have a1 := hc1 m _ (List.getElem?_eq_getElem hik)
          have hlk := kmap_look ha.out.map hlt (List.getElem?_eq_getElem hik) (HKS.out _ (List.getElem_mem hik))
          generalize ks[m] = x at a1 hlk
          obtain ⟨b1, o1, rfl, -, hr1⟩ := (HL1.out.below ha.out.two.below) (by omega)
          obtain ⟨b2, o2, rfl, -, hr2⟩ := (HL2.out.below ha.out.two.below) (by omega)
          obtain ⟨t, htt⟩ : ∃ t, t = l[m] := ⟨_, rfl⟩
          have hti : l[m]? = some t := by rw [htt]; exact List.getElem?_eq_getElem hil
          have htm : t ∈ l := by rw [htt]; exact List.getElem_mem hil
          obtain ⟨p0, p1, p2, p3, d0, d1, d2, d3, hj1⟩ := hr1.at hti
          obtain ⟨q0, q1, q2, q3, e0, e1, e2, e3, hj2⟩ := hr2.at hti
          have HI := Lib.hid (fun (W : World) (hb : Below wr.heap.size wr W) => HOK.out t htm _ _ _ _ W (hj1.below hb) (hj2.below hb))
          have HS0 := Lib.hid (show (wr.cell? ⟨w.heap.size, 3, none⟩ = some (.slice (some ⟨b1, o1, none⟩) ln ic) ∧ wr.cell? ⟨w.heap.size + 1, 3, none⟩ = some (.slice (some ⟨b2, o2, none⟩) ln id) ∧ wr.cell? ⟨b1, o1 + m * 4, none⟩ = some p0 ∧ wr.cell? ⟨b1, o1 + m * 4 + 1, none⟩ = some p1 ∧ wr.cell? ⟨b1, o1 + m * 4 + 2, none⟩ = some p2 ∧ wr.cell? ⟨b1, o1 + m * 4 + 3, none⟩ = some p3 ∧ wr.cell? ⟨b2, o2 + m * 4, none⟩ = some q0 ∧ wr.cell? ⟨b2, o2 + m * 4 + 1, none⟩ = some q1 ∧ wr.cell? ⟨b2, o2 + m * 4 + 2, none⟩ = some q2 ∧ wr.cell? ⟨b2, o2 + m * 4 + 3, none⟩ = some q3) from ⟨x3, y3, d0, d1, d2, d3, e0, e1, e2, e3⟩)
          clear hr1 hr2 hj1 hj2 htt hti htm hil hik hc1
          go_wp2_with fail
          clear x0 x1 x2 x3 y0 y1 y2 y3 d0 d1 d2 d3 e0 e1 e2 e3 hlk a1
          go_region_held3 (fun W => W.cell? ⟨w.heap.size, 3, none⟩ = some (.slice (some ⟨b1, o1, none⟩) ln ic) ∧ W.cell? ⟨w.heap.size + 1, 3, none⟩ = some (.slice (some ⟨b2, o2, none⟩) ln id) ∧ W.cell? ⟨b1, o1 + m * 4, none⟩ = some p0 ∧ W.cell? ⟨b1, o1 + m * 4 + 1, none⟩ = some p1 ∧ W.cell? ⟨b1, o1 + m * 4 + 2, none⟩ = some p2 ∧ W.cell? ⟨b1, o1 + m * 4 + 3, none⟩ = some p3 ∧ W.cell? ⟨b2, o2 + m * 4, none⟩ = some q0 ∧ W.cell? ⟨b2, o2 + m * 4 + 1, none⟩ = some q1 ∧ W.cell? ⟨b2, o2 + m * 4 + 2, none⟩ = some q2 ∧ W.cell? ⟨b2, o2 + m * 4 + 3, none⟩ = some q3) (first | exact HS0.out | exact (by obtain ⟨h0, h1, h2, h3, h4, h5, h6, h7, h8, h9⟩ := HS0.out; exact ⟨cell_keep2 (below_drewJ kq) h0, cell_keep2 (below_drewJ kq) h1, cell_keep2 (below_drewJ kq) h2, cell_keep2 (below_drewJ kq) h3, cell_keep2 (below_drewJ kq) h4, cell_keep2 (below_drewJ kq) h5, cell_keep2 (below_drewJ kq) h6, cell_keep2 (below_drewJ kq) h7, cell_keep2 (below_drewJ kq) h8, cell_keep2 (below_drewJ kq) h9⟩)) (first | (go_at_call 50; refine (HI.out _ ((Below.refl _ _).drew)).mono ?_; rintro e w' ⟨rfl, kq⟩))
          have HA2 := Lib.hid (ha.out.step (below_drewJ kq))
          clear kq HS0 ha
          go_wp2_with fail
          go_roundw
          case rel => exact ⟨m + 1, by omega, by go_num, HA2⟩
          case measure => simp [intOf]; omega
        · have hltz : ¬ (m : Int) < (i : Int) := by omega
          go_wp2_with fail
          go_ret
          exact ⟨rfl, ha.out.two.below⟩
set_option maxRecDepth 100000 in
set_option maxHeartbeats 2000000 in
theorem alike_step (j : J) (hsz : szJ j ≤ 1000000) (hf : faultJ j = 0) (hih : ∀ t : J, szJ t < szJ j → faultJ t = 0 → AOk t) : AOk j := by
  intro P Q u v w hu hv
  obtain ⟨k, s, ks, l⟩ := j
  rw [szJ_eq] at hsz hih
  obtain ⟨ka, kc, ia, ic, rfl, hk1, hl1⟩ := hu.open
  obtain ⟨kb, kd, ib, id, rfl, hk2, hl2⟩ := hv.open
  have hll := szL_len l
  have HT := Lib.hid (TwoJ.new w #[.int .i64 k, .string (txt s), .slice ka ks.length kc, .slice ia l.length ic] #[.int .i64 k, .string (txt s), .slice kb ks.length kd, .slice ib l.length id])
  obtain ⟨x0, x1, x2, x3⟩ := tok_cells HT.out.one
  obtain ⟨y0, y1, y2, y3⟩ := tok_cells HT.out.two
  have hz1 : (w.alloc (.cells #[.int .i64 k, .string (txt s), .slice ka ks.length kc, .slice ia l.length ic] 25)).heap.size = w.heap.size + 1 := World.size_alloc ..
  by_cases h6 : k = 6
  · rcases fault_of hf with ⟨hk, _⟩ | ⟨hk, _⟩ | ⟨hk, _⟩ | ⟨hk, _⟩ | ⟨_, rfl, hlen, hfk⟩
    · omega
    · omega
    · omega
    · omega
    · subst h6
      have HC := Lib.hid (alikeKeys_any P Q ks l hlen (by omega) hfk (fun t ht => hih t (by have := szL_mem ht; omega) ((faultK_mem hlen hfk).1 t ht)) _ _ _ (JIn.shut (kc := kc) (ic := ic) (hk1.below HT.out.below) (hl1.below HT.out.below)) (JIn.shut (kc := kd) (ic := id) (hk2.below HT.out.below) (hl2.below HT.out.below)))
      generalize ks.length = kn at *
      generalize l.length = ln at *
      clear hu hv hk1 hk2 hl1 hl2 hih hsz hf hfk hlen hll
      go_enter Tryz.func50, Tryz.ntmps50
      go_wp2_with fail
      refine HC.out.mono ?_
      rintro e w1 ⟨rfl, hb⟩
      have HB := Lib.hid (HT.out.below.trans (hb.mono HT.out.below.size))
      clear hb
      go_wp2_with fail
      go_ret
      exact ⟨rfl, HB.out⟩
  · have g6 : (k == 6) = false := by simpa using h6
    have hfl : ∀ t ∈ l, faultJ t = 0 := by
      rcases fault_of hf with ⟨_, _, _, rfl⟩ | ⟨_, _, _, rfl⟩ | ⟨_, _, _, rfl⟩ | ⟨_, _, _, h⟩ | ⟨h, _⟩
      · exact fun t ht => by cases ht
      · exact fun t ht => by cases ht
      · exact fun t ht => by cases ht
      · exact fun t ht => faultL_mem h ht
      · exact absurd h h6
    have HC := Lib.hid (equalFunc_any P Q l ia ib ic id (by omega) (fun t ht => hih t (by have := szL_mem ht; omega) (hfl t ht)) _ (hl1.below HT.out.below) (hl2.below HT.out.below))
    generalize ks.length = kn at *
    generalize l.length = ln at *
    clear hu hv hk1 hk2 hl1 hl2 hih hsz hf hll hfl h6
    go_enter Tryz.func50, Tryz.ntmps50
    go_wp2_with fail
    refine HC.out.mono ?_
    rintro e w1 ⟨rfl, hb⟩
    have HB := Lib.hid (HT.out.below.trans (hb.mono HT.out.below.size))
    clear hb
    go_wp2_with fail
    go_ret
    exact ⟨rfl, HB.out⟩
theorem alike_any : ∀ (n : Nat) (j : J), szJ j ≤ n → n ≤ 1000000 → faultJ j = 0 → AOk j
  | 0, j, h, _, _ => by have := szJ_pos j; omega
  | n + 1, j, h, hn, hf => alike_step j (by omega) hf (fun t ht hft => alike_any n t (by omega) (by omega) hft)
set_option maxRecDepth 100000 in
theorem same_refl (P Q : Nat → Prop) (j : J) (hsz : szJ j ≤ 1000000) (hc : checkJ j = 0) (u v : Value) (w : World) (hu : JIn w P j u) (hv : JIn w Q j v) (hF : Facts w) : Calls Tryz.prog 24 #[u, v] w fun e w' => e = .returned (.bool true) ∧ Below w.heap.size w w' := by
  obtain ⟨k1, s1, A1, n1, c1, B1, m1, e1, rfl⟩ := jin_form hu
  obtain ⟨k2, s2, A2, n2, c2, B2, m2, e2, rfl⟩ := jin_form hv
  have HT := Lib.hid (TwoJ.new w #[.int .i64 k1, .string s1, .slice A1 n1 c1, .slice B1 m1 e1] #[.int .i64 k2, .string s2, .slice A2 n2 c2, .slice B2 m2 e2])
  have HC := Lib.hid (fun (W : World) (hW : Facts W) (v : Value) (P : Nat → Prop) (hj : JIn W P j v) => check_any P j v W hsz hj hW)
  rw [hc] at HC
  have HA := Lib.hid (alike_any 1000000 j hsz (Nat.le_refl _) (check_of hc).2)
  have HU := Lib.hid hu
  have HV := Lib.hid hv
  have HF := Lib.hid hF
  have hz1 : (w.alloc (.cells #[.int .i64 k1, .string s1, .slice A1 n1 c1, .slice B1 m1 e1] 25)).heap.size = w.heap.size + 1 := World.size_alloc ..
  clear hu hv hF hc hsz
  obtain ⟨x0, x1, x2, x3⟩ := tok_cells HT.out.one
  go_enter Tryz.func24, Tryz.ntmps24
  go_wp2_with fail
  refine (HC.out _ (HF.out.below HT.out.below) _ _ (HU.out.below HT.out.below)).mono ?_
  rintro e w1 ⟨rfl, hb⟩
  have HT1 := Lib.hid (HT.out.step hb)
  clear hb x0 x1 x2 x3
  obtain ⟨y0, y1, y2, y3⟩ := tok_cells HT1.out.two
  go_wp2_with fail
  refine (HC.out _ (HF.out.below HT1.out.below) _ _ (HV.out.below HT1.out.below)).mono ?_
  rintro e w2 ⟨rfl, hb⟩
  have HT2 := Lib.hid (HT1.out.step hb)
  clear hb y0 y1 y2 y3
  obtain ⟨x0, x1, x2, x3⟩ := tok_cells HT2.out.one
  obtain ⟨y0, y1, y2, y3⟩ := tok_cells HT2.out.two
  go_wp2_with fail
  refine (HA.out _ _ _ _ _ (HU.out.below HT2.out.below) (HV.out.below HT2.out.below)).mono ?_
  rintro e w3 ⟨rfl, hb⟩
  have HB3 := Lib.hid (HT2.out.below.trans (hb.mono HT2.out.below.size))
  clear hb
  go_wp2_with fail
  go_ret
  exact ⟨rfl, HB3.out⟩
end Go.Proofs.YtmkjoonbjmieoaaGreatDoor
