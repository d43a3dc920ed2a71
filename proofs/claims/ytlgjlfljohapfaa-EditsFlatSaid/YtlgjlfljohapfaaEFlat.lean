/-
  edits' Flat, AT EVERY TEXT and list of cuts. No memory that was there turns. Conditions: the lengths.
-/
import Derived.Test.YtlgjlfljohapfaaEFault
namespace Go.Proofs.Ytlgjlfljohapfaa
open Go.RowKit Go.Shelf

/-- A cut: from, to, its parts. -/
structure Ct where
  f : Int
  t : Int
  p : List Prt
def CR (W : World) (A : Option Addr) (C : List Ct) : Prop :=
  0 < C.length → ∃ b o, A = some ⟨b, o, none⟩ ∧ ∀ j x, C[j]? = some x → W.cell? ⟨b, o + j * 3, none⟩ = some (.int .i64 x.f) ∧ W.cell? ⟨b, o + j * 3 + 1, none⟩ = some (.int .i64 x.t) ∧ ∃ Ap cp, W.cell? ⟨b, o + j * 3 + 2, none⟩ = some (.slice Ap x.p.length cp) ∧ PR W Ap x.p
theorem CR.keep {W W' : World} {A : Option Addr} {C : List Ct} (h : CR W A C) (hb : Below W.heap.size W W') : CR W' A C := fun h0 => by
  obtain ⟨b, o, e, hc⟩ := h h0
  refine ⟨b, o, e, fun j x hx => ?_⟩
  obtain ⟨h1, h2, Ap, cp, h3, h4⟩ := hc j x hx
  exact ⟨cell_keep hb h1, cell_keep hb h2, Ap, cp, cell_keep hb h3, h4.keep hb⟩
theorem CR.at {W : World} {A : Option Addr} {C : List Ct} (h : CR W A C) {i : Nat} {x : Ct} (hx : C[i]? = some x) : ∃ b o Ap cp, A = some ⟨b, o, none⟩ ∧ W.cell? ⟨b, o + i * 3, none⟩ = some (.int .i64 x.f) ∧ W.cell? ⟨b, o + i * 3 + 1, none⟩ = some (.int .i64 x.t) ∧ W.cell? ⟨b, o + i * 3 + 2, none⟩ = some (.slice Ap x.p.length cp) ∧ PR W Ap x.p := by
  obtain ⟨b, o, e, hc⟩ := h (by have := (List.getElem?_eq_some_iff.1 hx).1; omega)
  obtain ⟨h1, h2, Ap, cp, h3, h4⟩ := hc i x hx
  exact ⟨b, o, Ap, cp, e, h1, h2, h3, h4⟩
/-- Why cuts are none: the first one's fault. -/
def cutsE (text : ByteArray) : List Ct → Int
  | [] => 0
  | c :: r => if partsE text c.p = 0 then cutsE text r else partsE text c.p
def spl0 (C : List Ct) : List Spl := C.map fun c => ⟨c.f, c.t, ⟨#[]⟩⟩
def flatS (text : ByteArray) (c : Ct) : Spl := ⟨c.f, c.t, textOf (cat (means text c.p))⟩
def flatL (text : ByteArray) (C : List Ct) : List Spl := C.map (flatS text)
def flatE (text : ByteArray) (C : List Ct) : Int := if cutsE text C = 0 then chkE (fits text.size (spl0 C)) else cutsE text C
structure LimC (text : ByteArray) (C : List Ct) : Prop where
  txt : text.size ≤ 1000000
  len : C.length ≤ 1000
  each : ∀ x ∈ C, LimP text x.p
theorem partsE_of (text : ByteArray) (P : List Prt) : partsE text P = 0 ∨ partsE text P = 2 ∨ partsE text P = 3 := by
  unfold partsE
  split
  · split
    · exact .inr (.inr rfl)
    · exact .inl rfl
  · exact .inr (.inl rfl)
theorem partsE_ok {text : ByteArray} {P : List Prt} (h : partsE text P = 0) : P.all (prtOk text) = true := by
  unfold partsE at h
  by_cases h2 : P.all (prtOk text) = true
  · exact h2
  · rw [if_neg h2] at h; omega
theorem cutsE_all {text : ByteArray} : ∀ {C : List Ct}, cutsE text C = 0 → ∀ x ∈ C, partsE text x.p = 0
  | [], _, x, hx => by cases hx
  | c :: r, h, x, hx => by
    unfold cutsE at h
    by_cases h1 : partsE text c.p = 0
    · rw [if_pos h1] at h
      rcases List.mem_cons.1 hx with rfl | hx
      · exact h1
      · exact cutsE_all h x hx
    · rw [if_neg h1] at h
      exact absurd h h1
theorem take_snoc {α : Type} {l : List α} {i : Nat} {x : α} (h : l[i]? = some x) : l.take (i + 1) = l.take i ++ [x] := by
  obtain ⟨h1, rfl⟩ := List.getElem?_eq_some_iff.1 h
  exact List.take_succ_eq_append_getElem h1
/-- A splice's text in a row of splices is put anew. -/
theorem SOwn.text {W : World} {B G cap n : Nat} {L R : List Spl} {x : Spl} (h : SOwn W B (.slice (some ⟨G, 0, none⟩) n cap) (L ++ x :: R)) (s : ByteArray) :
    SOwn (W.setCell ⟨G, L.length * 3 + 2, none⟩ (.string s)) B (.slice (some ⟨G, 0, none⟩) n cap) (L ++ ⟨x.f, x.t, s⟩ :: R) := by
  have hl : (L ++ (⟨x.f, x.t, s⟩ : Spl) :: R).length = (L ++ x :: R).length := by simp
  unfold SOwn at h ⊢
  rw [hl]
  refine ⟨by rw [scs_len, hl], ?_⟩
  rcases h.2 with ⟨h0, _⟩ | ⟨g, cap', cur, e, hB, hg, h1, h2, h3, h4⟩
  · cases h0
  · cases e
    refine .inr ⟨G, cap, cur.setIfInBounds (L.length * 3 + 2) (.string s), rfl, hB, heap_setCell_same _ _ _ _ _ _ hg, h1, h2, by rw [Array.size_setIfInBounds]; exact h3, ?_⟩
    rw [Array.toList_setIfInBounds, List.take_set]
    rw [h4]
    have e1 : scs (L ++ x :: R) = scs L ++ (spc x ++ scs R) := by simp [scs]
    have e2 : scs (L ++ (⟨x.f, x.t, s⟩ : Spl) :: R) = scs L ++ (spc ⟨x.f, x.t, s⟩ ++ scs R) := by simp [scs]
    rw [e1, e2, List.set_append_right _ _ (by rw [scs_len]; omega), scs_len, show L.length * 3 + 2 - L.length * 3 = 2 by omega]
    rfl
theorem SOwn.cellT {W : World} {B G cap n : Nat} {L R : List Spl} {x : Spl} (h : SOwn W B (.slice (some ⟨G, 0, none⟩) n cap) (L ++ x :: R)) :
    W.cell? ⟨G, L.length * 3 + 2, none⟩ = some (.string x.s) ∧ W.frozen? ⟨G, L.length * 3 + 2, none⟩ = false ∧ B ≤ G ∧ n = (L ++ x :: R).length := by
  obtain ⟨A, c, hv, hr⟩ := h.reads
  obtain ⟨b, o, e, _, _, h2⟩ := hr.at (i := L.length) (x := x) (by simp)
  rcases h.2 with ⟨h0, _⟩ | ⟨g, cap', cur, e', hB, hg, _⟩
  · cases h0
  · cases e'
    injection hv with hv1 hv2
    subst hv1
    cases e
    rw [Nat.zero_add] at h2
    exact ⟨h2, frozen_of_row _ _ _ _ _ hg, hB, hv2⟩
/-- What Flat hands back. -/
def FlatEnd (w : World) (text : ByteArray) (C : List Ct) (e : Ending) (w' : World) : Prop :=
  ∃ v, e = .returned (.tuple #[v, .int .i64 (flatE text C)]) ∧ Below w.heap.size w w' ∧ (flatE text C = 0 → SOwn w' w.heap.size v (flatL text C)) ∧ (flatE text C ≠ 0 → v = .slice none 0 0)
theorem fits_parts : ∀ (n a : Int) (L M : List Spl), L.map (fun x => (x.f, x.t)) = M.map (fun x => (x.f, x.t)) → fitsF n a L = fitsF n a M
  | _, _, [], [], _ => rfl
  | _, _, [], _ :: _, h => by cases h
  | _, _, _ :: _, [], h => by cases h
  | n, a, x :: L, y :: M, h => by
    simp only [List.map_cons, List.cons.injEq, Prod.mk.injEq] at h
    rw [fitsF_cons, fitsF_cons, h.1.1, h.1.2, fits_parts n _ L M h.2]
set_option maxRecDepth 100000 in
set_option maxHeartbeats 4000000 in
theorem flat_any (text : ByteArray) (A : Option Addr) (C : List Ct) (c : Nat) (hl : LimC text C) (w : World) (hS : CR w A C) :
    Calls Try.prog 26 #[.string text, .slice A C.length c] w (FlatEnd w text C) := by
  have HS := Lib.hid hS
  have HE := Lib.hid hl.each
  have hts := hl.txt
  have hln := hl.len
  obtain ⟨i0, hi0, hz0, hz1, hz2⟩ := info_parts splInfo
  have hmk : ∀ W, (Instr.makeSlice 22 (.int .i64 0) (.int .i64 (C.length : Int))).run Try.prog W = .ok (.slice (some ⟨W.heap.size, 0, none⟩) 0 C.length) (W.alloc (.cells (zeroS C.length) 62)) := fun W => by
    have h := run_make (P := Try.prog) W 22 62 i0 _ Try.underlying22 hi0 hz0 .i64 .i64 0 (C.length : Int) (by omega) (by omega) (by rw [hz2]; omega) (by omega)
    rw [hz1, Int.toNat_natCast] at h
    exact h
  have hown := World.ownsRow_made (base := w.heap.size) (e := 62) (size := 3) w (zeroS C.length) C.length (Nat.le_refl _) (by unfold maxLen; omega) (zeroS_size _)
  have HO0 : Hid ((w.alloc (.cells (zeroS C.length) 62)).ownsRow w.heap.size 62 3 (.slice (some ⟨w.heap.size, 0, none⟩) 0 C.length) 0 (scs (spl0 (C.take 0)))) := Lib.hid hown
  have HB0 := Lib.hid (alloc_below w (.cells (zeroS C.length) 62))
  obtain ⟨E1, hE1⟩ : ∃ E1, cutsE text C = E1 := ⟨_, rfl⟩
  have HC0 : Hid (E1 = cutsE text (C.drop 0)) := Lib.hid hE1.symm
  have HE1 := Lib.hid hE1
  clear hown hS hl hE1
  unfold FlatEnd
  obtain ⟨E, hE⟩ : ∃ E, flatE text C = E := ⟨_, rfl⟩
  rw [hE]
  have HEE : Hid (E = if E1 = 0 then chkE (fits text.size (spl0 C)) else E1) := Lib.hid (by rw [← hE, ← HE1.out]; rfl)
  clear hE
  go_enter Try.func26, Try.ntmps26
  go_wp2_with fail
  clear hmk
  go_loopw [6, 18] (fun v k wr => ∃ (i : Nat) (v0 : Value), v0 = v ∧ k = .int .i64 (i : Int) ∧ i ≤ C.length ∧ Hid (E1 = cutsE text (C.drop i)) ∧ Hid (wr.ownsRow w.heap.size 62 3 v0 i (scs (spl0 (C.take i)))) ∧ Hid (Below w.heap.size w wr)) (fun _ k _ => C.length - (intOf k).toNat)
  case atStart => exact ⟨0, _, rfl, rfl, Nat.zero_le _, HC0, HO0, HB0⟩
  case round =>
    clear HC0 HO0 HB0
    obtain ⟨i, v0, rfl, rfl, hi, hce, HO, hb⟩ := hrel
    obtain ⟨p0, cap0, hv0⟩ := slice_form HO.out
    subst hv0
    by_cases hlt : i < C.length
    · obtain ⟨x, hx⟩ : ∃ x, C[i]? = some x := ⟨_, List.getElem?_eq_getElem hlt⟩
      obtain ⟨b, o, Ap, cp, rfl, d0, d1, d2, hpr⟩ := HS.out.at hx
      have hxl := HE.out x (List.mem_of_getElem? hx)
      have hbw := cell_lt d0
      have c0 := cell_keep2 hb.out d0 hbw
      have c1 := cell_keep2 hb.out d1 hbw
      have c2 := cell_keep2 hb.out d2 hbw
      have q : decide ((i : Int) < (C.length : Int)) = true := by simpa using hlt
      have hbx := alloc_below wr (.cells #[.int .i64 x.f, .int .i64 x.t, .slice Ap x.p.length cp] 70)
      have HB2 := Lib.hid (hb.out.trans (hbx.mono hb.out.size))
      have HT := Lib.hid (alloc_top wr #[.int .i64 x.f, .int .i64 x.t, .slice Ap x.p.length cp] 70)
      have HFP := Lib.hid (faultOfParts_any text Ap x.p cp hxl _ (hpr.keep (hb.out.trans (hbx.mono hb.out.size))))
      have HO2 := Lib.hid (own_below HO.out hbx)
      have hd := drop_at hx
      rw [hd] at hce
      have hce2 : E1 = if partsE text x.p = 0 then cutsE text (C.drop (i + 1)) else partsE text x.p := hce.out
      have HTK : Hid (scs (spl0 (C.take (i + 1))) = scs (spl0 (C.take i)) ++ [.int .i64 x.f, .int .i64 x.t, .string ⟨#[]⟩]) := Lib.hid (by
        rw [take_snoc hx]
        unfold spl0
        rw [List.map_append, List.map_singleton, scs_snoc]
        rfl)
      clear hx d0 d1 d2 hd hce hxl hpr hbx HO hb hbw
      rcases partsE_of text x.p with h0 | h0
      · rw [h0] at HFP
        rw [if_pos h0] at hce2
        have HCE := Lib.hid hce2
        clear hce2 h0
        go_wp2_with fail
        refine HFP.out.mono ?_
        rintro e w2 ⟨rfl, hb2⟩
        have HB3 := Lib.hid (HB2.out.trans (hb2.mono HB2.out.size))
        have HO3 := Lib.hid (own_below HO2.out hb2)
        have hc2 := heap_keep hb2 HT.out
        have e0 := cell_at (i := 0) hc2
        have e1 := cell_at (i := 1) hc2
        clear hb2 HB2 HT c0 c1 c2 hc2 HFP HO2
        go_wp2_with (at_builtin; refine wpList_append_own _ rfl _ _ 22 rfl w.heap.size 62 i0 (.agg #[.int .i64 0, .int .i64 0, .string ⟨#[]⟩]) 3 32 Try.underlying22 hi0 hz0 hz1 hz2 rfl (by decide) _ _ _ rfl (HO3.out.alloc _) ⟨w2.heap.size, 0, none⟩ 1 1 [.int .i64 x.f, .int .i64 x.t, .string ⟨#[]⟩] rfl rfl (new_add _ _ _) ?c2 ?c3 ?c4 ?c5 ?_)
        case c2 => simp [Value.oneCell']
        case c3 => unfold maxLen; omega
        case c4 => omega
        case c5 => rw [World.size_alloc]; have := HB3.out.size; omega
        intro v4 w4 hown4 hgr4 hne4
        have HO4 : Hid (w4.ownsRow w.heap.size 62 3 v4 (i + 1) (scs (spl0 (C.take (i + 1))))) := Lib.hid (by rw [HTK.out]; exact hown4)
        have HB4 : Hid (Below w.heap.size w w4) := Lib.hid ((HB3.out.alloc HB3.out.size _).grown hgr4 (by rw [World.size_alloc]; have := HB3.out.size; omega) (fun j ej => (World.ownsRow.lt HO3.out j ej).1))
        clear hown4 hgr4 hne4 HO3 HB3 HTK e0 e1
        go_wp2_with fail
        go_roundw
        case rel => exact ⟨i + 1, _, rfl, by go_num, by omega, HCE, HO4, HB4⟩
        case measure => simp [intOf]; omega
      · have hne : ¬ partsE text x.p = 0 := by rcases h0 with h | h <;> omega
        rw [if_neg hne] at hce2
        have hEp : E = partsE text x.p := by
          have := HEE.out
          rw [hce2, if_neg hne] at this
          exact this
        rw [← hEp] at HFP h0
        clear hce2 hne hEp HTK HEE HE1
        rcases h0 with rfl | rfl
        all_goals
          go_wp2_with fail
          refine HFP.out.mono ?_
          rintro e w2 ⟨rfl, hb2⟩
          have HB3 := Lib.hid (HB2.out.trans (hb2.mono HB2.out.size))
          clear hb2 HB2 HT c0 c1 c2 HFP HO2
          go_wp2_with fail
          go_ret2
          exact ⟨_, rfl, HB3.out, fun h => (by omega), fun _ => rfl⟩
    · obtain rfl : i = C.length := by omega
      have hE1 : E1 = 0 := by rw [hce.out, List.drop_eq_nil_of_le (Nat.le_refl _)]; rfl
      have hee := HEE.out
      rw [if_pos hE1] at hee
      have hall := cutsE_all (HE1.out.trans hE1)
      have HALL := Lib.hid hall
      have hl0 : (spl0 C).length = C.length := by unfold spl0; rw [List.length_map]
      have hO : SOwn wr w.heap.size (.slice p0 C.length cap0) (spl0 C) := by
        have := HO.out
        rw [List.take_of_length_le (Nat.le_refl _)] at this
        unfold SOwn
        rw [hl0]
        exact this
      have hG : ∃ G, 0 < C.length → p0 = some ⟨G, 0, none⟩ := by
        rcases hO.2 with ⟨_, h0⟩ | ⟨g, cap', cur, e, _⟩
        · exact ⟨0, fun h => by omega⟩
        · injection e with e1; exact ⟨g, fun _ => e1⟩
      obtain ⟨G, hG⟩ := hG
      have hrd : SR wr p0 (spl0 C) := by
        obtain ⟨A', c', e, h⟩ := hO.reads
        injection e with e1
        subst e1
        exact h
      have hck := check_any (text.size : Int) p0 (spl0 C) cap0 (by omega) wr hrd
      rw [hl0] at hck
      have HCK := Lib.hid hck
      have HOO := Lib.hid hO
      have HG := Lib.hid hG
      have q : decide ((C.length : Int) < (C.length : Int)) = false := by simp
      clear hE1 hce HO hck hO hG hrd hall hl0 HEE HE1
      by_cases hf : fits text.size (spl0 C) = true
      · rw [hf] at HCK hee
        obtain rfl : E = 0 := hee
        unfold chkE at HCK
        clear hf
        go_wp2_with fail
        refine HCK.out.mono ?_
        rintro e w5 ⟨rfl, hb5⟩
        have HB5 := Lib.hid (hb.out.trans (hb5.mono hb.out.size))
        have HO5 : Hid (SOwn w5 w.heap.size (.slice p0 C.length cap0) (flatL text (C.take 0) ++ spl0 (C.drop 0))) := Lib.hid (HOO.out.keep hb5)
        clear hb5 hb HOO HCK
        go_wp2_with fail
        go_loopw [47] (fun k wx => ∃ i : Nat, k = .int .i64 (i : Int) ∧ i ≤ C.length ∧ Hid (SOwn wx w.heap.size (.slice p0 C.length cap0) (flatL text (C.take i) ++ spl0 (C.drop i))) ∧ Hid (Below w.heap.size w wx)) (fun k _ => C.length - (intOf k).toNat)
        case atStart => exact ⟨0, rfl, Nat.zero_le _, HO5, HB5⟩
        case round =>
          clear HO5 HB5
          obtain ⟨i, rfl, hi, HO, hb⟩ := hrel
          by_cases hlt : i < C.length
          · obtain ⟨x, hx⟩ : ∃ x, C[i]? = some x := ⟨_, List.getElem?_eq_getElem hlt⟩
            obtain ⟨b, o, Ap, cp, rfl, d0, d1, d2, hpr⟩ := HS.out.at hx
            have hxl := HE.out x (List.mem_of_getElem? hx)
            have hx0 := HALL.out x (List.mem_of_getElem? hx)
            have hbw := cell_lt d0
            have c0 := cell_keep2 hb.out d0 hbw
            have c1 := cell_keep2 hb.out d1 hbw
            have c2 := cell_keep2 hb.out d2 hbw
            have q : decide ((i : Int) < (C.length : Int)) = true := by simpa using hlt
            obtain rfl := HG.out (by omega)
            have hbx := alloc_below wr (.cells #[.int .i64 x.f, .int .i64 x.t, .slice Ap x.p.length cp] 70)
            have HB2 := Lib.hid (hb.out.trans (hbx.mono hb.out.size))
            have HME := Lib.hid (meanings_any text Ap x.p cp hxl (partsE_ok hx0) _ (hpr.keep (hb.out.trans (hbx.mono hb.out.size))))
            have hmt := means_tot hxl
            have HJ := Lib.hid (fun lb W h => joined_any 66 lb (means text x.p) (by omega) W h)
            have hd := drop_at hx
            have hho := HO.out
            rw [hd] at hho
            have hho : SOwn wr w.heap.size (.slice (some ⟨G, 0, none⟩) C.length cap0) (flatL text (C.take i) ++ (⟨x.f, x.t, ⟨#[]⟩⟩ : Spl) :: spl0 (C.drop (i + 1))) := hho
            have HO2 := Lib.hid (hho.keep hbx)
            have hli : (flatL text (C.take i)).length = i := by unfold flatL; rw [List.length_map, List.length_take]; omega
            have hfin : flatL text (C.take (i + 1)) ++ spl0 (C.drop (i + 1)) = flatL text (C.take i) ++ (⟨x.f, x.t, textOf (cat (means text x.p))⟩ : Spl) :: spl0 (C.drop (i + 1)) := by
              rw [take_snoc hx]
              unfold flatL
              rw [List.map_append, List.append_assoc]
              rfl
            have HFI := Lib.hid hfin
            have HLI := Lib.hid hli
            clear hx d0 d1 d2 hd hxl hpr hbx HO hb hbw hho hfin hli hmt hx0
            generalize textOf (cat (means text x.p)) = S at *
            go_wp2_with fail
            refine HME.out.mono ?_
            rintro e w2 ⟨lb, rfl, hI, hb2⟩
            have HI := Lib.hid hI
            have HB3 := Lib.hid (HB2.out.trans (hb2.mono HB2.out.size))
            have HO3 := Lib.hid (HO2.out.keep hb2)
            clear hI hb2 HB2 HO2 HME c0 c1 c2
            go_wp2_with fail
            refine (HJ.out _ _ HI.out).mono ?_
            rintro e w3 ⟨rfl, hb3⟩
            have HB4 := Lib.hid (HB3.out.trans (hb3.mono HB3.out.size))
            have ho4 := HO3.out.keep hb3
            obtain ⟨k1, k2, k3, -⟩ := ho4.cellT
            have HO5 := Lib.hid (ho4.text S)
            rw [HLI.out] at k1 k2 HO5
            have HB5 := Lib.hid (HB4.out.setCell (p := ⟨G, i * 3 + 2, none⟩) (show w.heap.size ≤ G from k3) (.string S))
            clear hb3 HB3 HO3 HB4 ho4 HI HJ
            go_wp2_with fail
            go_roundw
            case rel => exact ⟨i + 1, by go_num, by omega, Lib.hid (by rw [HFI.out]; exact HO5.out), HB5⟩
            case measure => simp [intOf]; omega
          · have hO := HO.out
            rw [List.take_of_length_le (by omega), List.drop_eq_nil_of_le (by omega)] at hO
            have hO : SOwn wr w.heap.size (.slice p0 C.length cap0) (flatL text C) := by
              have e : flatL text C ++ spl0 [] = flatL text C := by simp [spl0]
              rw [e] at hO
              exact hO
            have HO2 := Lib.hid hO
            have q : decide ((i : Int) < (C.length : Int)) = false := by simp; omega
            clear HO hO
            go_wp2_with fail
            go_ret2
            first
              | exact ⟨_, rfl, hb.out, fun _ => HO2.out, fun h => absurd rfl h⟩
              | exact ⟨_, rfl, hb.out, HO2.out⟩
              | exact ⟨_, rfl, hb.out, HO2.out, trivial⟩
      · have hf' : fits text.size (spl0 C) = false := by simpa using hf
        rw [hf'] at HCK hee
        obtain rfl : E = 2 := hee
        unfold chkE at HCK
        clear hf hf'
        go_wp2_with fail
        refine HCK.out.mono ?_
        rintro e w5 ⟨rfl, hb5⟩
        have HB5 := Lib.hid (hb.out.trans (hb5.mono hb.out.size))
        clear hb5 hb HCK
        go_wp2_with fail
        go_ret2
        exact ⟨_, rfl, HB5.out, fun h => (by omega), fun _ => rfl⟩
end Go.Proofs.Ytlgjlfljohapfaa
