/-
  edits' Invert, AT EVERY TEXT and every list of splices: what leads back. No memory that was there turns. Conditions: the lengths.
-/
import Derived.Test.YtlgjlfljohapfaaEApply
import Derived.Test.YtlgjlfljohapfaaEShelf
import Derived.Deep.RegionHeld3
import Derived.Deep.AppendLies
namespace Go.Proofs.Ytlgjlfljohapfaa
open Go.RowKit

/-- What leads back, from a shift on. -/
def invF (text : ByteArray) : Int → List Spl → List Spl
  | _, [] => []
  | sh, x :: l => ⟨x.f + sh, x.f + sh + x.s.size, text.extract x.f.toNat x.t.toNat⟩ :: invF text (sh + grow x) l
def invL (text : ByteArray) (L : List Spl) : List Spl := invF text 0 L
theorem invF_len (text : ByteArray) : ∀ (L : List Spl) (a : Int), (invF text a L).length = L.length
  | [], _ => rfl
  | x :: L, a => by rw [invF, List.length_cons, List.length_cons, invF_len text L]
theorem clone_any (s : ByteArray) (hs : s.size ≤ 1000000) (w : World) : Calls Try.prog 42 #[.string s] w fun e w' => e = .returned (.string s) ∧ Below w.heap.size w w' := by
  have HC := Lib.hid (Try.stringslite_Clone s w (by omega))
  go_enter Try.func42, Try.ntmps42
  go_wp2_with fail
  refine HC.out.mono ?_
  rintro e w1 ⟨rfl, hb⟩
  go_wp2_with fail
  go_ret
  exact ⟨rfl, hb⟩
/-- Room for splices. -/
def zeroS (n : Nat) : Array Value := madeCells (Value.agg #[.int .i64 0, .int .i64 0, .string ⟨#[]⟩]).cells (n * 3)
theorem zeroS_size (n : Nat) : (zeroS n).size = n * 3 := size_madeCells _ _
/-- What Invert hands back. -/
def InvEnd (w : World) (text : ByteArray) (L : List Spl) (e : Ending) (w' : World) : Prop :=
  ∃ v, e = .returned (.tuple #[v, .int .i64 (faultV text L)]) ∧ Below w.heap.size w w' ∧ (faultV text L = 0 → SOwn w' w.heap.size v (invL text L)) ∧ (faultV text L ≠ 0 → v = .slice none 0 0)
theorem below_drew {w w' : World} (h : Below w.drew.heap.size w.drew w') : Below w.heap.size w w' := ⟨h.os, h.tape, h.output, h.size, h.block⟩
theorem three_keep {W W' : World} {b i j k : Nat} {x y z : Value} (h : W.cell? ⟨b, i, none⟩ = some x ∧ W.cell? ⟨b, j, none⟩ = some y ∧ W.cell? ⟨b, k, none⟩ = some z) (hb : Below W.heap.size W W') : W'.cell? ⟨b, i, none⟩ = some x ∧ W'.cell? ⟨b, j, none⟩ = some y ∧ W'.cell? ⟨b, k, none⟩ = some z :=
  ⟨cell_keep hb h.1, cell_keep hb h.2.1, cell_keep hb h.2.2⟩
theorem three_far {W W' : World} {b i j k : Nat} {x y z : Value} {row : Option Nat} (h : W.cell? ⟨b, i, none⟩ = some x ∧ W.cell? ⟨b, j, none⟩ = some y ∧ W.cell? ⟨b, k, none⟩ = some z) (hg : W.grownBy W' row) (hr : row ≠ some b) : W'.cell? ⟨b, i, none⟩ = some x ∧ W'.cell? ⟨b, j, none⟩ = some y ∧ W'.cell? ⟨b, k, none⟩ = some z := by
  have hb := hg.block b (cell_lt h.1) (Ne.symm hr)
  have key : ∀ i, W'.cell? ⟨b, i, none⟩ = W.cell? ⟨b, i, none⟩ := fun i => by simp [World.cell?, hb]
  rw [key, key, key]
  exact h
theorem one3 (a b : Int) (s : ByteArray) : ∀ u ∈ [Value.int .i64 a, .int .i64 b, .string s], u.oneCell' = true := by simp [Value.oneCell']
theorem own_below {W W' : World} {base n : Nat} {v : Value} {xs : List Value} (h : W.ownsRow base 62 3 v n xs) (hb : Below W.heap.size W W') : W'.ownsRow base 62 3 v n xs := by
  refine ⟨h.1, ?_⟩
  rcases h.2 with h0 | ⟨g, cap, cur, rfl, hB, hg, r⟩
  · exact .inl h0
  · exact .inr ⟨g, cap, cur, rfl, hB, heap_keep hb hg, r⟩
set_option maxRecDepth 100000 in
set_option maxHeartbeats 4000000 in
theorem invert_any (text : ByteArray) (A : Option Addr) (L : List Spl) (c : Nat) (hl : Lim text L) (w : World) (hS : SR w A L) :
    Calls Try.prog 16 #[.string text, .slice A L.length c] w (InvEnd w text L) := by
  have HC := Lib.hid (faultOf_any text A L c hl w hS)
  have HS := Lib.hid hS
  by_cases h0 : faultV text L = 0
  · have hf : fits text.size L = true := by
      unfold faultV at h0
      by_cases hf : fits text.size L = true
      · exact hf
      · rw [if_neg hf] at h0; omega
    have hf0 : fitsF text.size 0 L = true := by unfold fits at hf; rw [Bool.and_eq_true] at hf; exact hf.2
    have HF0 : Hid (fitsF text.size ((0 : Nat) : Int) (L.drop 0) = true) := Lib.hid hf0
    have hts := hl.text
    have hln := hl.len
    have HZ := Lib.hid hl.each
    unfold InvEnd
    rw [h0] at HC ⊢
    obtain ⟨i0, hi0, hz0, hz1, hz2⟩ := info_parts splInfo
    have hmk : ∀ W, (Instr.makeSlice 22 (.int .i64 0) (.int .i64 (L.length : Int))).run Try.prog W = .ok (.slice (some ⟨W.heap.size, 0, none⟩) 0 L.length) (W.alloc (.cells (zeroS L.length) 62)) := fun W => by
      have h := run_make (P := Try.prog) W 22 62 i0 _ Try.underlying22 hi0 hz0 .i64 .i64 0 (L.length : Int) (by omega) (by omega) (by rw [hz2]; omega) (by omega)
      rw [hz1, Int.toNat_natCast] at h
      exact h
    clear hf hf0 hl hS h0
    go_enter Try.func16, Try.ntmps16
    go_wp2_with fail
    refine HC.out.mono ?_
    rintro e w1 ⟨rfl, hb1⟩
    have HB1 := Lib.hid hb1
    clear hb1 HC
    go_wp2_with fail
    clear hmk
    obtain ⟨W0, hW0⟩ : ∃ W0, w1.alloc (.cells (zeroS L.length) 62) = W0 := ⟨_, rfl⟩
    have hown := World.ownsRow_made (base := w.heap.size) (e := 62) (size := 3) w1 (zeroS L.length) L.length HB1.out.size (by unfold maxLen; omega) (zeroS_size _)
    have hbb := HB1.out.trans ((alloc_below w1 (.cells (zeroS L.length) 62)).mono HB1.out.size)
    rw [hW0] at hown hbb ⊢
    have HO0 : Hid (W0.ownsRow w.heap.size 62 3 (.slice (some ⟨w1.heap.size, 0, none⟩) 0 L.length) 0 (scs [])) := Lib.hid hown
    have HB0 := Lib.hid hbb
    clear hW0 hown hbb HB1
    go_loopw [7, 8, 23] (fun v u k wr => ∃ (i : Nat) (fr sh : Int) (M : List Spl) (v0 : Value), v0 = v ∧ u = .int .i64 sh ∧ k = .int .i64 (i : Int) ∧ i ≤ L.length ∧ 0 ≤ fr ∧ -fr ≤ sh ∧ sh ≤ 1000000 * i ∧ fr ≤ text.size ∧ Hid (fitsF text.size fr (L.drop i) = true) ∧
      Hid (invL text L = M ++ invF text sh (L.drop i)) ∧ Hid (wr.ownsRow w.heap.size 62 3 v0 i (scs M)) ∧ Hid (Below w.heap.size w wr)) (fun _ _ k _ => L.length - (intOf k).toNat)
    case atStart => exact ⟨0, 0, 0, [], _, rfl, rfl, rfl, Nat.zero_le _, Int.le_refl _, by omega, by omega, by omega, HF0, Lib.hid rfl, HO0, HB0⟩
    case round =>
      clear HF0 HO0 HB0
      obtain ⟨i, fr, sh, M, v0, rfl, rfl, rfl, hi, hfr, hs1, hs2, hft, HF, HV, HO, hb⟩ := hrel
      obtain ⟨p0, cap0, hv0⟩ := slice_form HO.out
      subst hv0
      by_cases hlt : i < L.length
      · obtain ⟨x, hx⟩ : ∃ x, L[i]? = some x := ⟨_, List.getElem?_eq_getElem hlt⟩
        obtain ⟨b, o, rfl, d0, d1, d2⟩ := HS.out.at hx
        have hxs : x.s.size ≤ 1000000 := HZ.out _ (List.mem_of_getElem? hx)
        have hbw := cell_lt d0
        have c0 := cell_keep2 hb.out d0 hbw
        have c1 := cell_keep2 hb.out d1 hbw
        have c2 := cell_keep2 hb.out d2 hbw
        have hd := drop_at hx
        rw [hd] at HF HV
        obtain ⟨f1, f2, f3, f4⟩ := fitsF_step HF.out
        rw [invF] at HV
        obtain ⟨xf, xt, xs⟩ := x
        simp only at f1 f2 f3 f4 c0 c1 c2 HV hxs
        obtain ⟨f, rfl⟩ := Int.eq_ofNat_of_zero_le (show 0 ≤ xf by omega)
        obtain ⟨t, rfl⟩ := Int.eq_ofNat_of_zero_le (show 0 ≤ xt by omega)
        have HF2 := Lib.hid f4
        have q : decide ((i : Int) < (L.length : Int)) = true := by simpa using hlt
        have g1 : f ≤ t := by omega
        have g2 : t ≤ text.size := by omega
        have g3 : 0 ≤ (f : Int) + sh := by omega
        clear hx hd d0 d1 d2 f4 HF
        have hsl : ∀ W, (Instr.slice 9 (.string text) (some (.int .i64 (f : Int))) (some (.int .i64 (t : Int))) none).run Try.prog W = .ok (.string (text.extract f t)) W := fun W => by
          rw [run_slice_string W 9 text .i64 .i64 f t Try.underlying9 (by omega) (by omega) (by omega), Int.toNat_natCast, Int.toNat_natCast]
        have HCl := Lib.hid (fun W => clone_any (text.extract f t) (ext_le _ _ _ hts) W)
        have s1 : IntKind.i64.wrap ((f : Int) + sh + xs.size) = (f : Int) + sh + xs.size := IntWalk.i64_in _ (by omega)
        have HT := alloc_top wr #[.int .i64 (f : Int), .int .i64 (t : Int), .string xs] 62
        have HS0 : Hid ((wr.alloc (.cells #[.int .i64 (f : Int), .int .i64 (t : Int), .string xs] 62)).cell? ⟨wr.heap.size, 0, none⟩ = some (.int .i64 (f : Int)) ∧ (wr.alloc (.cells #[.int .i64 (f : Int), .int .i64 (t : Int), .string xs] 62)).cell? ⟨wr.heap.size, 1, none⟩ = some (.int .i64 (t : Int)) ∧ (wr.alloc (.cells #[.int .i64 (f : Int), .int .i64 (t : Int), .string xs] 62)).cell? ⟨wr.heap.size, 2, none⟩ = some (.string xs)) := Lib.hid ⟨cell_at HT, cell_at HT, cell_at HT⟩
        have HOa := Lib.hid (own_below HO.out (alloc_below wr (.cells #[.int .i64 (f : Int), .int .i64 (t : Int), .string xs] 62)))
        have HBa := Lib.hid (hb.out.trans ((alloc_below wr (.cells #[.int .i64 (f : Int), .int .i64 (t : Int), .string xs] 62)).mono hb.out.size))
        have hlo := fun j hj => (World.ownsRow.lt HO.out j hj)
        have HLO := Lib.hid hlo
        have HSZ := Lib.hid hb.out.size
        clear HT hb HO hlo
        go_wp2_with fail
        obtain ⟨wa, hwa⟩ : ∃ wa, wr.alloc (.cells #[.int .i64 (f : Int), .int .i64 (t : Int), .string xs] 62) = wa := ⟨_, rfl⟩
        rw [hwa] at HS0 HOa HBa ⊢
        have hza : wr.heap.size < wa.heap.size := by rw [← hwa, World.size_alloc]; omega
        clear hwa c0 c1 c2 hbw
        go_region_held3 (fun w' => w'.cell? ⟨wr.heap.size, 0, none⟩ = some (.int .i64 (f : Int)) ∧ w'.cell? ⟨wr.heap.size, 1, none⟩ = some (.int .i64 (t : Int)) ∧ w'.cell? ⟨wr.heap.size, 2, none⟩ = some (.string xs))
          (first | exact HS0.out | exact three_keep HS0.out (below_drew kq) | exact three_keep (three_keep HS0.out (below_drew kq)) (alloc_below _ _) | exact three_far (three_keep (three_keep HS0.out (below_drew kq)) (alloc_below _ _)) hgrow2 (fun e => by have := (HLO.out _ e).2; omega))
          (first | (go_at_call 42; refine (HCl.out _).mono ?_; rintro e wq ⟨rfl, kq⟩) | (refine step_append_lies _ (by rfl) _ _ _ (by rfl) w.heap.size 62 i0 _ 3 32 Try.underlying22 hi0 hz0 hz1 hz2 rfl (by decide) _ i (scs M) (by rfl) (World.ownsRow.alloc (own_below HOa.out (below_drew kq)) _) ⟨wq.heap.size, 0, none⟩ 1 1 [.int .i64 ((f : Int) + sh), .int .i64 ((f : Int) + sh + xs.size), .string (text.extract f t)] (by rfl) (by rfl) (new_add _ _ _) (one3 _ _ _) (by decide) (by unfold maxLen; omega) (by omega) (by rw [World.size_alloc]; exact Nat.le_succ_of_le (Nat.le_trans HBa.out.size (below_drew kq).size)) _ rfl ?_; intro gg cap w2 hown2 hgrow2 hat hlt2))
        have hz2 : w.heap.size ≤ wq.heap.size := Nat.le_trans HBa.out.size (below_drew kq).size
        have HB2 : Hid (Below w.heap.size w w2) := Lib.hid (((HBa.out.trans ((below_drew kq).mono HBa.out.size)).alloc hz2 _).grown hgrow2 (by rw [World.size_alloc]; omega) (fun j ej => (HLO.out j ej).1))
        have HO2 : Hid (w2.ownsRow w.heap.size 62 3 (.slice (some ⟨gg, 0, none⟩) (i + 1) cap) (i + 1) (scs (M ++ [⟨(f : Int) + sh, (f : Int) + sh + xs.size, text.extract f t⟩]))) := Lib.hid (by rw [scs_snoc]; exact hown2)
        have HV2 : Hid (invL text L = (M ++ [⟨(f : Int) + sh, (f : Int) + sh + xs.size, text.extract f t⟩]) ++ invF text (sh + (xs.size - ((t : Int) - f))) (L.drop (i + 1))) := Lib.hid (by
          rw [HV.out, List.append_assoc]
          rfl)
        have HG := Lib.hid (fun W => growth_any (f : Int) (t : Int) xs (by omega) f2 (by omega) (by omega) W)
        clear hown2 hgrow2 hat hlt2 HOa HBa HV HS0 kq hza hz2 HLO HCl hsl
        go_wp2_with fail
        refine (HG.out _).mono ?_
        rintro e w3 ⟨rfl, hb3⟩
        have HB3 := Lib.hid (HB2.out.trans (hb3.mono HB2.out.size))
        have HO3 := Lib.hid (own_below HO2.out hb3)
        clear hb3 HB2 HO2
        go_wp2_with fail
        go_roundw
        case rel => exact ⟨i + 1, t, sh + (xs.size - ((t : Int) - f)), _, _, rfl, by go_num, by go_num, by omega, by omega, by omega, by omega, by omega, HF2, HV2, HO3, HB3⟩
        case measure => simp [intOf]; omega
      · have hv := HV.out
        rw [List.drop_eq_nil_of_le (by omega), invF, List.append_nil] at hv
        have hlen : M.length = i := by
          have := congrArg List.length hv
          rw [invL, invF_len] at this
          omega
        have HO2 : Hid (SOwn wr w.heap.size (.slice p0 i cap0) (invL text L)) := Lib.hid (by rw [hv]; unfold SOwn; rw [hlen]; exact HO.out)
        have q : decide ((i : Int) < (L.length : Int)) = false := by simp; omega
        clear HV HO HF hv hlen
        go_wp2_with fail
        go_ret2
        exact ⟨_, rfl, hb.out, fun _ => HO2.out, fun h => absurd rfl h⟩
  · have h2 : faultV text L = 2 ∨ faultV text L = 3 := by
      unfold faultV at h0 ⊢
      split
      · rename_i hf
        rw [if_pos hf] at h0
        split
        · exact .inr rfl
        · rename_i hg; rw [if_neg hg] at h0; exact absurd rfl h0
      · exact .inl rfl
    unfold InvEnd
    generalize faultV text L = F at *
    clear hS hl h0 HS
    rcases h2 with rfl | rfl
    all_goals
      go_enter Try.func16, Try.ntmps16
      go_wp2_with fail
      refine HC.out.mono ?_
      rintro e w1 ⟨rfl, hb1⟩
      go_wp2_with fail
      go_ret2
      exact ⟨_, rfl, hb1, fun h => (by omega), fun _ => rfl⟩
end Go.Proofs.Ytlgjlfljohapfaa
