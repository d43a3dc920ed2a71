/-
  json's items, given what reads one: it returns the items up to the mark that closes them, or false; nothing that was there turns but the reader and the object that is read. Condition: what reads one does as it should, at as many tokens.
-/
import Derived.Test.YtmkjoonbjmieoaaDoorQApp2
import Derived.Deep.LoopGhost
import Derived.Laws.EntriesVeiled
import Derived.Laws.NewBlocks
namespace Go.Proofs.YtmkjoonbjmieoaaDoor
open Go.RowKit

theorem jinfo : (Tryd.prog.info? 26).map (fun i => (i.zero, i.size, i.bytes)) = some (some (.agg #[.int .i64 0, .string ⟨#[]⟩, .slice none 0 0, .slice none 0 0]), 4, 72) := by kernel_rfl
theorem jv_form {W : World} {P : Nat → Prop} {j : J} {v : Value} (h : JIn W P j v) : ∃ k s A n c B m d, v = .agg #[.int .i64 k, .string s, .slice A n c, .slice B m d] := by
  cases j with
  | mk k s ks l =>
    rw [JIn] at h
    obtain ⟨ka, kc, ia, ic, hv, _⟩ := h
    exact ⟨_, _, _, _, _, _, _, _, hv⟩
theorem Fr.of_grown2 {X : Nat → Prop} {w w' : World} {row : Option Nat} (h : w.grownBy w' row) (hrow : ∀ k, row = some k → k < w.heap.size → X k) : Fr X w w' :=
  ⟨h.os, h.tape, h.output, h.size, fun k hk hx => h.block k hk (fun e => hx (hrow k e.symm hk))⟩
theorem Fr.chain {X Y : Nat → Prop} {a b c : World} (h : Fr X a b) (k : Fr Y b c) (hyx : ∀ i, i < a.heap.size → Y i → X i) : Fr X a c :=
  ⟨k.os.trans h.os, k.tape.trans h.tape, k.output.trans h.output, Nat.le_trans h.size k.size, fun i hi hx => (k.block i (Nat.lt_of_lt_of_le hi h.size) (fun hy => hx (hyx i hi hy))).trans (h.block i hi hx)⟩
def plR (f : Nat) (o : Bool) (ks : List (List UInt8)) (ts : List Tok) (tw : Bool) : Option (List J × List (List UInt8) × List Tok × Bool) :=
  if isMk (cls o) ts then some ([], ks, ts.tail, tw) else pn f o [] ks ts tw
theorem tail_len (ts : List Tok) (c : UInt8) (h : isMk c ts = true) : ts.tail.length + 1 = ts.length := by
  cases ts with
  | nil => cases h
  | cons t ts => rfl
set_option maxRecDepth 100000 in
set_option maxHeartbeats 4000000 in
theorem items_value (N R O Mb : Nat) (F : Nat) (HONE : Hid (∀ f, f < F → ∀ (ts : List Tok) (tw : Bool) (ks : List (List UInt8)) (w : World), 2 * ts.length < f → St false N R O Mb w ts tw ks → Calls Tryd.prog 15 #[.pointer (some ⟨R, 0, none⟩)] w (OneEnd false N R O Mb w (po f false ks ts tw))))
    (m : ByteArray) (hm : m = ⟨#[93]⟩) (f : Nat) (hfF : f ≤ F) (ts : List Tok) (tw : Bool) (ks : List (List UInt8)) (hb : 2 * ts.length + 1 < f) (w : World) (h : St false N R O Mb w ts tw ks) :
    Calls Tryd.prog 49 #[.pointer (some ⟨R, 0, none⟩), .string m, .func (.func 15) #[.pointer (some ⟨R, 0, none⟩)] #[]] w (ItemsEnd false N R O Mb w (plR f false ks ts tw)) := by
  obtain ⟨i0, hi, hz0, hz1, hz2⟩ := info_parts jinfo
  have HM := Lib.hid hm
  have HS := Lib.hid h
  unfold plR
  by_cases hk : isMk (cls false) ts = true
  · rw [if_pos hk]
    have HT := Lib.hid (fun w h => takeMark_yes R 93 m hm ts tw hk w h)
    have hle := tail_len ts _ hk
    clear hm h hi hz0 hz1 hz2
    go_enter Tryd.func49, Tryd.ntmps49
    go_wp2_with fail
    refine (HT.out _ HS.out.1).mono ?_
    rintro e w1 ⟨rfl, hr, hf⟩
    have HR := Lib.hid hr
    have HF := Lib.hid hf
    clear hr hf
    go_wp2_with fail
    go_ret2
    obtain ⟨hs2, hx⟩ := HS.out.step HR.out HF.out (by omega)
    exact ⟨none, 0, rfl, fun h => absurd h (by simp), hs2, HF.out.mono (fun k _ hk => .inl hk), fun k _ hk => (hx k).1 hk⟩
  · have hkf : isMk (cls false) ts = false := by simpa using hk
    rw [if_neg hk]
    have HT := Lib.hid (fun w h => takeMark_no R 93 m hm ts tw hkf w h)
    obtain ⟨RES, hRES⟩ : ∃ r, r = pn f false [] ks ts tw := ⟨_, rfl⟩
    rw [← hRES]
    have HP := Lib.hid hRES.symm
    clear hm hk hkf hRES
    go_enter Tryd.func49, Tryd.ntmps49
    go_wp2_with fail
    refine (HT.out _ HS.out.1).mono ?_
    rintro e w1 ⟨rfl, hbl⟩
    obtain ⟨hs1, hx1⟩ := HS.out.below hbl
    have HS1 := Lib.hid hs1
    have HX1 : Hid (∀ k, k < w.heap.size → XS false R O Mb w1 k → XS false R O Mb w k) := Lib.hid (fun k _ hk => (hx1 k).1 hk)
    have HF1 : Hid (Fr (XS false R O Mb w) w w1) := Lib.hid (Fr.of_below hbl)
    clear hs1 hx1 hbl h HT
    go_wp2_with fail
    go_loopg [6] f (fun gf v wr => ∃ (acc : List J) (cs : List Value) (ts : List Tok) (tw : Bool) (ks : List (List UInt8)) (v0 : Value), v0 = v ∧ gf ≤ F ∧ 2 * ts.length + 1 < gf ∧ Hid (pn gf false acc ks ts tw = RES) ∧ Hid (wr.ownsRow w.heap.size 26 4 v0 acc.length cs) ∧ Hid (AIn wr (fun k => w.heap.size ≤ k ∧ ¬ XS false R O Mb wr k ∧ v0.ownBlock ≠ some k) acc cs) ∧ Hid (∀ g, v0.ownBlock = some g → ¬ XS false R O Mb wr g) ∧ Hid (St false N R O Mb wr ts tw ks) ∧ Hid (Fr (XS false R O Mb w) w wr) ∧ Hid (∀ k, k < w.heap.size → XS false R O Mb wr k → XS false R O Mb w k) ∧ Hid (acc.length + ts.length ≤ 1000000))
    case atStart => exact ⟨[], [], ts, tw, ks, _, rfl, hfF, hb, HP, Lib.hid (World.ownsRow_nil _ _ _ _), Lib.hid rfl, Lib.hid (fun g hg => by cases hg), HS1, HF1, HX1, Lib.hid (by have := HS.out.1.tb.1; simpa using this)⟩
    case round =>
      clear HP HS1 HF1 HX1 hb
      obtain ⟨acc, cs, ts, tw, ks, v, rfl, hgF, hbt, hp, hown, hain, hvb, hst, hfr, hxs, hacc⟩ := hrel
      have HFR := hfr
      obtain ⟨gf, rfl⟩ : ∃ g, gk = g + 1 := ⟨gk - 1, by omega⟩
      have HC := Lib.hid (HONE.out gf (by omega) ts tw ks wr (by omega) hst.out)
      have hpe := hp.out
      rw [pn_succ] at hpe
      cases hpo : po gf false ks ts tw with
      | none =>
        rw [hpo] at HC hpe
        have HRES : Hid (RES = none) := Lib.hid hpe.symm
        clear hpe hp hi hz0 hz1 hz2
        go_wp2_with fail
        refine HC.out.mono ?_
        rintro e w3 ⟨ek, es, eA, en, ec, eB, em, ed, rfl, hf, hok⟩
        have HF3 := Lib.hid hf
        have HOK := Lib.hid hok
        clear hf hok
        go_wp2_with fail
        go_ret2
        rw [HRES.out]
        exact ⟨rfl, (HFR.out.chain HF3.out hxs.out).alloc _, HOK.out.below (alloc_below _ _)⟩
      | some r =>
        obtain ⟨j, ks', ts', tw'⟩ := r
        rw [hpo] at HC hpe
        have hlen := po_len hpo
        have HPE := Lib.hid hpe
        have hac := hacc.out
        clear hpe hp hpo
        go_wp2_with fail
        refine HC.out.mono ?_
        rintro e w3 ⟨vj, rfl, hj, hst3, hf3, hx3⟩
        obtain ⟨jk, js, jA, jn, jc, jB, jm, jd, rfl⟩ := jv_form hj
        have hws := HFR.out.size
        have hgb := hvb.out
        have hown3 : w3.ownsRow w.heap.size 26 4 v acc.length cs := by
          refine ⟨hown.out.1, ?_⟩
          rcases hown.out.2 with h0 | ⟨g, cap, cur, h1, h2, h3, h4⟩
          · exact .inl h0
          · exact .inr ⟨g, cap, cur, h1, h2, (hf3.block g (Array.getElem?_eq_some_iff.1 h3).1 (hgb g (by rw [h1]; rfl))).trans h3, h4⟩
        have hvb3 : ∀ g, v.ownBlock = some g → g < wr.heap.size ∧ ¬ XS false R O Mb w3 g := fun g hg => by
          have hlt := (World.ownsRow.lt hown.out g hg).2
          exact ⟨hlt, fun hx => hgb g hg (hx3 g hlt hx)⟩
        have hain3 : AIn w3 (fun k => w.heap.size ≤ k ∧ ¬ XS false R O Mb w3 k ∧ v.ownBlock ≠ some k) acc cs :=
          AIn.keep (fun k hk hkl => hf3.block k hkl hk.2.1) (fun k hk hkl => ⟨hk.1, fun hx => hk.2.1 (hx3 k hkl hx), hk.2.2⟩) hain.out
        have hj3 : JIn w3 (fun k => w.heap.size ≤ k ∧ ¬ XS false R O Mb w3 k ∧ v.ownBlock ≠ some k) j (.agg #[.int .i64 jk, .string js, .slice jA jn jc, .slice jB jm jd]) :=
          JIn.keep (fun _ _ _ => rfl) (fun k hk _ => ⟨by omega, hk.2, fun e => by have := (hvb3 k e).1; omega⟩) _ _ hj
        have HA3 := Lib.hid (AIn.snoc hj3 hain3)
        have HO3 := Lib.hid hown3
        have HV3 := Lib.hid hvb3
        have HS3 := Lib.hid hst3
        have HF3 := Lib.hid (HFR.out.chain hf3 hxs.out)
        have HX3 : Hid (∀ k, k < w.heap.size → XS false R O Mb w3 k → XS false R O Mb w k) := Lib.hid (fun k hk hx => hxs.out k hk (hx3 k (by omega) hx))
        have hs13 := hf3.size
        have hw3 : w.heap.size ≤ w3.heap.size := by omega
        clear hj hst3 hf3 hx3 hown3 hvb3 hain3 hj3 hgb HC
        go_wp2_with (at_builtin; refine wpList_append_own2 _ rfl _ _ 24 rfl w.heap.size 26 i0 (.agg #[.int .i64 0, .string ⟨#[]⟩, .slice none 0 0, .slice none 0 0]) 4 72 Tryd.underlying24 hi hz0 hz1 hz2 rfl (by decide) _ _ _ rfl ((HO3.out.alloc _).alloc _) ⟨w3.heap.size + 1, 0, none⟩ 1 1 [.int .i64 jk, .string js, .slice jA jn jc, .slice jB jm jd] rfl rfl ?c1 ?c2 ?c3 ?c4 ?c5 ?_)
        case c1 => exact new_add2 _ _ _ _
        case c2 => simp [Value.oneCell']
        case c3 => unfold maxLen; omega
        case c4 => omega
        case c5 => simp only [World.size_alloc]; omega
        intro v' w4 hown' hgrow hne
        have hs2 : ((w3.alloc (.cells #[.int .i64 jk, .string js, .slice jA jn jc, .slice jB jm jd] 26)).alloc (.cells #[.int .i64 jk, .string js, .slice jA jn jc, .slice jB jm jd] 26)).heap.size = w3.heap.size + 1 + 1 := by rw [World.size_alloc, World.size_alloc]
        have kk : Below w3.heap.size w3 ((w3.alloc (.cells #[.int .i64 jk, .string js, .slice jA jn jc, .slice jB jm jd] 26)).alloc (.cells #[.int .i64 jk, .string js, .slice jA jn jc, .slice jB jm jd] 26)) := (alloc_below _ _).trans ((alloc_below _ _).mono (by rw [World.size_alloc]; omega))
        generalize hWA : ((w3.alloc (.cells #[.int .i64 jk, .string js, .slice jA jn jc, .slice jB jm jd] 26)).alloc (.cells #[.int .i64 jk, .string js, .slice jA jn jc, .slice jB jm jd] 26)) = WA at *
        obtain ⟨hsA, hxA⟩ := HS3.out.below kk
        have hRw : R < w.heap.size := HS.out.1.lt
        obtain ⟨hs4, hx4⟩ := hsA.other hgrow (fun k hk => ⟨by have := (World.ownsRow.lt HO3.out k hk).1; omega, fun hx => (HV3.out k hk).2 ((hxA k).1 hx)⟩)
        have hxx : ∀ k, XS false R O Mb w4 k ↔ XS false R O Mb w3 k := fun k => (hx4 k).trans (hxA k)
        have HS4 := Lib.hid hs4
        have HX4 : Hid (∀ k, k < w.heap.size → XS false R O Mb w4 k → XS false R O Mb w k) := Lib.hid (fun k hk hx => HX3.out k hk ((hxx k).1 hx))
        have HF4 : Hid (Fr (XS false R O Mb w) w w4) := Lib.hid (by
          have h1 := HF3.out.trans (Fr.of_below kk)
          refine ⟨hgrow.os.trans h1.os, hgrow.tape.trans h1.tape, hgrow.output.trans h1.output, Nat.le_trans h1.size hgrow.size, fun k hk hx => ?_⟩
          rw [hgrow.block k (by have := h1.size; omega) (fun e => by have := (World.ownsRow.lt HO3.out k e.symm).1; omega)]
          exact h1.block k hk hx)
        have HV4 : Hid (∀ g, v'.ownBlock = some g → ¬ XS false R O Mb w4 g) := Lib.hid (fun g hg hx => by
          have hx' := (hxx g).1 hx
          rcases hne g hg with h1 | h1
          · exact (HV3.out g h1).2 hx'
          · have := XS.lt HS3.out hx'
            omega)
        have HA4 : Hid (AIn w4 (fun k => w.heap.size ≤ k ∧ ¬ XS false R O Mb w4 k ∧ v'.ownBlock ≠ some k) (acc ++ [j]) (cs ++ [.int .i64 jk, .string js, .slice jA jn jc, .slice jB jm jd])) := Lib.hid (
          AIn.keep (fun k hk hkl => (hgrow.block k (by omega) (fun e => hk.2.2 e.symm)).trans (kk.block k hkl)) (fun k hk hkl => ⟨hk.1, fun hx => hk.2.1 ((hxx k).1 hx), fun e => by
            rcases hne k e with h1 | h1
            · exact hk.2.2 h1
            · omega⟩) HA3.out)
        have hl1 : acc.length + 1 = (acc ++ [j]).length := by simp
        rw [hl1] at hown'
        have HO4 := Lib.hid hown'
        clear hown' hgrow hne kk hs2 hsA hxA hs4 hx4 hxx hWA hl1 HA3 HO3 HV3 HS3 HF3 HX3
        by_cases hk1 : isMk (cls false) ts' = true
        · have hpe := HPE.out
          simp only [hk1, if_true] at hpe
          have HRES := Lib.hid hpe
          have HT := Lib.hid (fun w h => takeMark_yes R 93 m HM.out ts' tw' hk1 w h)
          have hle := tail_len ts' _ hk1
          clear hpe HPE hk1 hi hz0 hz1 hz2
          obtain ⟨A5, c5, rfl⟩ := slice_form HO4.out
          go_wp2_with fail
          refine (HT.out _ HS4.out.1).mono ?_
          rintro e w5 ⟨rfl, hr, hf⟩
          have HR := Lib.hid hr
          have HF := Lib.hid hf
          clear hr hf
          go_wp2_with fail
          go_ret2
          rw [← HRES.out]
          obtain ⟨hs5, hx5⟩ := HS4.out.step HR.out HF.out (by omega)
          have hRw : R < w.heap.size := HS.out.1.lt
          refine ⟨A5, c5, by rw [show (acc ++ [j]).length = acc.length + 1 by simp]; rfl, fun hp => ?_, hs5, HF4.out.chain HF.out (fun k _ hk => .inl hk), fun k hk hx => HX4.out k hk ((hx5 k).1 hx)⟩
          rcases HO4.out.2 with ⟨h0, _⟩ | ⟨g, cap, cur, h1, h2, h3, h4, h5, h6, h7⟩
          · injection h0 with _ h0 _
            omega
          · injection h1 with h1 _ _
            have hgx : ¬ XS false R O Mb w5 g := fun hx => HV4.out g (by rw [h1]; rfl) ((hx5 g).1 hx)
            have hgl : g < w4.heap.size := (Array.getElem?_eq_some_iff.1 h3).1
            refine ⟨g, h1, ⟨h2, hgx⟩, ?_⟩
            have hA5 := AIn.keep (W' := w5) (Q := fun k => w.heap.size ≤ k ∧ ¬ XS false R O Mb w5 k) (fun k hk hkl => HF.out.block k hkl (fun e => hk.2.1 (.inl e))) (fun k hk _ => ⟨hk.1, fun hx => hk.2.1 ((hx5 k).1 hx)⟩) HA4.out
            refine AIn.lin hA5 (fun i v hv => ?_)
            have hg5 := (HF.out.block g hgl (fun e => hgx (.inl e))).trans h3
            rw [Nat.zero_add, cell_at hg5, ← Array.getElem?_toList]
            rw [← h7, List.getElem?_take] at hv
            split at hv
            · exact hv
            · cases hv
        · have hk1f : isMk (cls false) ts' = false := by simpa using hk1
          have hpe := HPE.out
          simp only [hk1f, Bool.false_eq_true, if_false] at hpe
          have HT := Lib.hid (fun w h => takeMark_no R 93 m HM.out ts' tw' hk1f w h)
          clear HPE hk1 hk1f
          by_cases hk2 : isMk 44 ts' = true
          · simp only [hk2, if_true] at hpe
            have HPE := Lib.hid hpe
            have HT2 := Lib.hid (fun w h => takeMark_yes R 44 ⟨#[44]⟩ rfl ts' tw' hk2 w h)
            have hle := tail_len ts' _ hk2
            clear hpe hk2
            go_wp2_with fail
            refine (HT.out _ HS4.out.1).mono ?_
            rintro e w5 ⟨rfl, hbl⟩
            have HB5 := Lib.hid hbl
            clear hbl
            go_wp2_with fail
            refine (HT2.out _ (HS4.out.1.below HB5.out)).mono ?_
            rintro e w6 ⟨rfl, hr, hf⟩
            obtain ⟨hs5, hx5⟩ := HS4.out.below HB5.out
            obtain ⟨hs6, hx6⟩ := hs5.step hr hf (by omega)
            have hxx : ∀ k, XS false R O Mb w6 k ↔ XS false R O Mb w4 k := fun k => (hx6 k).trans (hx5 k)
            have hblk : ∀ k, k < w4.heap.size → ¬ XS false R O Mb w4 k → w6.heap[k]? = w4.heap[k]? := fun k hk hx =>
              (hf.block k (by have := HB5.out.size; omega) (fun e => hx (.inl e))).trans (HB5.out.block k hk)
            have HS6 := Lib.hid hs6
            have HF6 := Lib.hid ((HF4.out.trans (Fr.of_below HB5.out)).chain hf (fun k _ hk => .inl hk))
            have HX6 : Hid (∀ k, k < w.heap.size → XS false R O Mb w6 k → XS false R O Mb w k) := Lib.hid (fun k hk hx => HX4.out k hk ((hxx k).1 hx))
            have HV6 : Hid (∀ g, v'.ownBlock = some g → ¬ XS false R O Mb w6 g) := Lib.hid (fun g hg hx => HV4.out g hg ((hxx g).1 hx))
            have HA6 : Hid (AIn w6 (fun k => w.heap.size ≤ k ∧ ¬ XS false R O Mb w6 k ∧ v'.ownBlock ≠ some k) (acc ++ [j]) (cs ++ [.int .i64 jk, .string js, .slice jA jn jc, .slice jB jm jd])) := Lib.hid (
              AIn.keep (fun k hk hkl => hblk k hkl hk.2.1) (fun k hk _ => ⟨hk.1, fun hx => hk.2.1 ((hxx k).1 hx), hk.2.2⟩) HA4.out)
            have HO6 : Hid (w6.ownsRow w.heap.size 26 4 v' (acc ++ [j]).length (cs ++ [.int .i64 jk, .string js, .slice jA jn jc, .slice jB jm jd])) := Lib.hid (by
              refine ⟨HO4.out.1, ?_⟩
              rcases HO4.out.2 with h0 | ⟨g, cap, cur, h1, h2, h3, h4⟩
              · exact .inl h0
              · exact .inr ⟨g, cap, cur, h1, h2, (hblk g (Array.getElem?_eq_some_iff.1 h3).1 (HV4.out g (by rw [h1]; rfl))).trans h3, h4⟩)
            have HAC : Hid ((acc ++ [j]).length + ts'.tail.length ≤ 1000000) := Lib.hid (by rw [List.length_append]; simp only [List.length_cons, List.length_nil]; omega)
            clear hr hf hs5 hx5 hs6 hx6 hxx hblk HT HT2 HS4 HF4 HX4 HV4 HA4 HO4
            go_wp2_with fail
            go_roundg gf
            case rel => exact ⟨acc ++ [j], _, ts'.tail, tw', ks', v', rfl, by omega, by omega, HPE, HO6, HA6, HV6, HS6, HF6, HX6, HAC⟩
            case measure => omega
          · have hk2f : isMk 44 ts' = false := by simpa using hk2
            simp only [hk2f, Bool.false_eq_true, if_false] at hpe
            have HRES := Lib.hid hpe
            have HT2 := Lib.hid (fun w h => takeMark_no R 44 ⟨#[44]⟩ rfl ts' tw' hk2f w h)
            clear hpe hk2 hk2f hi hz0 hz1 hz2
            go_wp2_with fail
            refine (HT.out _ HS4.out.1).mono ?_
            rintro e w5 ⟨rfl, hbl⟩
            have HB5 := Lib.hid hbl
            clear hbl
            go_wp2_with fail
            refine (HT2.out _ (HS4.out.1.below HB5.out)).mono ?_
            rintro e w6 ⟨rfl, hbl⟩
            have HB6 := Lib.hid hbl
            clear hbl
            go_wp2_with fail
            go_ret2
            rw [← HRES.out]
            exact ⟨rfl, (HF4.out.trans (Fr.of_below HB5.out)).trans (Fr.of_below HB6.out), (OK1.of_heap HS4.out.2.1 (fun _ => rfl)).below HB5.out |>.below HB6.out⟩
end Go.Proofs.YtmkjoonbjmieoaaDoor
