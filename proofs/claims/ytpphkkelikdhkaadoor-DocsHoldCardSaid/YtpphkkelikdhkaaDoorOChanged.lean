/-
  docs' changed AT EVERY TEXT that may be, every list of changes: what it returns; no memory that was there turns. Conditions: the texts' lengths; what the variables that are read hold (Fx).
-/
import Derived.Test.YtpphkkelikdhkaaDoorOChange
namespace Go.Proofs.YtpphkkelikdhkaaDoor
open Go.RowKit Go.Maps

/-- What changes make of a text, one behind the other, or why they may not be. -/
def chgs : ByteArray → List Chg → ByteArray × Int
  | t, [] => (t, 0)
  | t, c :: r => if ofE c t = 0 then chgs (ofT c t) r else (⟨#[]⟩, ofE c t)
theorem ofT_size {c : Chg} {t : ByteArray} (h : ofE c t = 0) : (ofT c t).size ≤ 65536 := by
  have e2 : ofT c t = t.extract 0 (fromN c t) ++ c.s ++ t.extract (toN c t) t.size := by unfold ofT; rw [h, if_pos rfl]
  unfold ofE at h
  by_cases h1 : valid c.s.data.toList = false
  · rw [if_pos h1] at h; cases h
  rw [if_neg h1] at h
  by_cases h2 : okC c t = false
  · rw [if_pos h2] at h; cases h
  rw [if_neg h2] at h
  by_cases h3 : 65536 < c.s.size + (t.size - (toN c t - fromN c t))
  · rw [if_pos h3] at h; cases h
  obtain ⟨a, b⟩ := places_le (c := c) (t := t) (by cases hk : okC c t with | true => rfl | false => exact absurd hk h2)
  rw [e2, ByteArray.size_append, ByteArray.size_append, ByteArray.size_extract, ByteArray.size_extract]
  omega
/-- A slice that reads as changes. -/
def CR (W : World) (A : Option Addr) (L : List Chg) : Prop :=
  0 < L.length → ∃ b o, A = some ⟨b, o, none⟩ ∧ ∀ j x, L[j]? = some x → W.cell? ⟨b, o + j * 6, none⟩ = some (.bool x.w) ∧ W.cell? ⟨b, o + j * 6 + 1, none⟩ = some (.int .i64 x.a) ∧ W.cell? ⟨b, o + j * 6 + 2, none⟩ = some (.int .i64 x.b) ∧ W.cell? ⟨b, o + j * 6 + 3, none⟩ = some (.int .i64 x.c) ∧ W.cell? ⟨b, o + j * 6 + 4, none⟩ = some (.int .i64 x.d) ∧ W.cell? ⟨b, o + j * 6 + 5, none⟩ = some (.string x.s)
theorem CR.keep {W W' : World} {A : Option Addr} {L : List Chg} (h : CR W A L) (hb : Below W.heap.size W W') : CR W' A L := fun h0 => by
  obtain ⟨b, o, e, hc⟩ := h h0
  exact ⟨b, o, e, fun j x hx => by
    obtain ⟨h1, h2, h3, h4, h5, h6⟩ := hc j x hx
    exact ⟨cell_keep hb h1, cell_keep hb h2, cell_keep hb h3, cell_keep hb h4, cell_keep hb h5, cell_keep hb h6⟩⟩
theorem CR.at {W : World} {A : Option Addr} {L : List Chg} (h : CR W A L) {i : Nat} {x : Chg} (hx : L[i]? = some x) : ∃ b o, A = some ⟨b, o, none⟩ ∧ W.cell? ⟨b, o + i * 6, none⟩ = some (.bool x.w) ∧ W.cell? ⟨b, o + i * 6 + 1, none⟩ = some (.int .i64 x.a) ∧ W.cell? ⟨b, o + i * 6 + 2, none⟩ = some (.int .i64 x.b) ∧ W.cell? ⟨b, o + i * 6 + 3, none⟩ = some (.int .i64 x.c) ∧ W.cell? ⟨b, o + i * 6 + 4, none⟩ = some (.int .i64 x.d) ∧ W.cell? ⟨b, o + i * 6 + 5, none⟩ = some (.string x.s) := by
  obtain ⟨b, o, e, hc⟩ := h (by have := (List.getElem?_eq_some_iff.1 hx).1; omega)
  exact ⟨b, o, e, hc i x hx⟩
theorem drop_get {α : Type} {L : List α} {i : Nat} {x : α} (h : L[i]? = some x) : L.drop i = x :: L.drop (i + 1) := by
  obtain ⟨hi, rfl⟩ := List.getElem?_eq_some_iff.1 h
  exact List.drop_eq_getElem_cons hi
set_option maxRecDepth 100000 in
set_option maxHeartbeats 2000000 in
theorem changed_any (t : ByteArray) (ht : t.size ≤ 65536) (A : Option Addr) (L : List Chg) (c : Nat) (hL : L.length ≤ 1000000) (hs : ∀ x ∈ L, x.s.size ≤ 1000000) (w : World) (hF : Fx w) (hC : CR w A L) : Calls Tryd.prog 40 #[.string t, .slice A L.length c] w fun e w' => e = .returned (.tuple #[.string (chgs t L).1, .int .i64 (chgs t L).2]) ∧ Below w.heap.size w w' := by
  have HF := Lib.hid hF
  have HC := Lib.hid hC
  have HS := Lib.hid hs
  obtain ⟨R, hR⟩ : ∃ R, chgs t L = R := ⟨_, rfl⟩
  rw [hR]
  have HR := Lib.hid hR
  have HT := Lib.hid ht
  clear hF hC hs hR ht
  go_enter Tryd.func40, Tryd.ntmps40
  go_wp2_with fail
  go_loopw [0, 12] (fun tv k wr => ∃ (x : ByteArray) (i : Nat), tv = .string x ∧ k = .int .i64 (i : Int) ∧ i ≤ L.length ∧ Hid (x.size ≤ 65536) ∧ Hid (chgs x (L.drop i) = R) ∧ Hid (Below w.heap.size w wr)) (fun _ k _ => L.length - (intOf k).toNat)
  case atStart => exact ⟨t, 0, rfl, rfl, Nat.zero_le _, HT, Lib.hid (by rw [List.drop_zero]; exact HR.out), Lib.hid (Below.refl _ _)⟩
  case round =>
    obtain ⟨x, i, rfl, rfl, hi, hx, hr, hb⟩ := hrel
    by_cases hlt : i < L.length
    · obtain ⟨y, hy⟩ : ∃ y, L[i]? = some y := ⟨_, List.getElem?_eq_getElem hlt⟩
      obtain ⟨b, o, rfl, d0, d1, d2, d3, d4, d5⟩ := (HC.out.keep hb.out).at hy
      have hys := HS.out y (List.mem_of_getElem? hy)
      have HO := Lib.hid (fun w h => of_any y x hx.out hys w h)
      have hq := drop_get hy
      have HFw := Lib.hid (HF.out.keep hb.out)
      have q : (i : Int) < (L.length : Int) := by omega
      have q2 : decide ((i : Int) < (L.length : Int)) = true := by simpa using hlt
      by_cases he : ofE y x = 0
      · have hr2 : Hid (chgs (ofT y x) (L.drop (i + 1)) = R) := Lib.hid (by rw [← hr.out, hq, chgs, if_pos he])
        have hx2 := Lib.hid (ofT_size he)
        rw [he] at HO
        clear hr hq he hy hys
        generalize ofT y x = z at *
        obtain ⟨cw, ca, cb, cc, cd, cs⟩ := y
        unfold chgV at HO
        simp only at HO d0 d1 d2 d3 d4 d5
        go_wp2_with fail
        refine (HO.out _ (HFw.out.keep (alloc_below wr _))).mono ?_
        rintro e w2 ⟨rfl, hb2⟩
        have HB2 := Lib.hid ((hb.out.trans ((alloc_below wr (.cells #[.bool cw, .int .i64 ca, .int .i64 cb, .int .i64 cc, .int .i64 cd, .string cs] 54)).mono hb.out.size)).trans (hb2.mono (by have := hb.out.size; simp; omega)))
        clear hb hb2 d0 d1 d2 d3 d4 d5
        go_wp2_with fail
        go_roundw
        case rel => exact ⟨z, i + 1, rfl, by go_num, by omega, hx2, hr2, HB2⟩
        case measure => simp [intOf]; omega
      · have hr2 : Hid (R = (⟨#[]⟩, ofE y x)) := Lib.hid (by rw [← hr.out, hq, chgs, if_neg he])
        rw [ofT_bad rfl he] at HO
        have he2 : (ofE y x == 0) = false := by simpa using he
        clear hr hq hy hys
        generalize ofE y x = z at *
        obtain ⟨cw, ca, cb, cc, cd, cs⟩ := y
        unfold chgV at HO
        simp only at HO d0 d1 d2 d3 d4 d5
        go_wp2_with fail
        refine (HO.out _ (HFw.out.keep (alloc_below wr _))).mono ?_
        rintro e w2 ⟨rfl, hb2⟩
        have HB2 := Lib.hid ((hb.out.trans ((alloc_below wr (.cells #[.bool cw, .int .i64 ca, .int .i64 cb, .int .i64 cc, .int .i64 cd, .string cs] 54)).mono hb.out.size)).trans (hb2.mono (by have := hb.out.size; simp; omega)))
        clear hb hb2 d0 d1 d2 d3 d4 d5
        go_wp2_with fail
        go_ret2
        exact ⟨by rw [hr2.out]; rfl, HB2.out⟩
    · have q : ¬ (i : Int) < (L.length : Int) := by omega
      have q2 : decide ((i : Int) < (L.length : Int)) = false := by simp; omega
      have HE : Hid (R = (x, 0)) := Lib.hid (by rw [← hr.out, List.drop_eq_nil_of_le (by omega)]; rfl)
      clear hr
      go_wp2_with fail
      go_ret2
      exact ⟨by rw [HE.out]; rfl, hb.out⟩
end Go.Proofs.YtpphkkelikdhkaaDoor
