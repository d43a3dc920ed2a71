/-
  docs' Change AT EVERY URI, version, list of changes: what it returns, which documents there are then; nothing that was there turns but the documents' map. Conditions: the lengths; what the variables that are read hold (Fx).
-/
import Derived.Test.YtpphkkelikdhkaaDoorOChanged
namespace Go.Proofs.YtpphkkelikdhkaaDoor
open Go.RowKit Go.Maps

/-- Why a document may not be changed, or 0; the documents behind. -/
def changeE (l : List Dc) (u : ByteArray) (v : Int) (L : List Chg) : Int :=
  if hasD l u.data.toList = false then 5 else if v ≤ (docOr l u.data.toList).v then 18 else (chgs (docOr l u.data.toList).t L).2
def changeL (l : List Dc) (u : ByteArray) (v : Int) (L : List Chg) : List Dc :=
  if changeE l u v L = 0 then putD l ⟨(docOr l u.data.toList).u, (chgs (docOr l u.data.toList).t L).1, v⟩ else l
theorem changeL_bad {l : List Dc} {u : ByteArray} {v : Int} {L : List Chg} {e : Int} (h : changeE l u v L = e) (he : e ≠ 0) : changeL l u v L = l := by
  unfold changeL
  rw [h, if_neg he]
theorem chgs_size : ∀ (L : List Chg) (t : ByteArray), t.size ≤ 65536 → (chgs t L).1.size ≤ 65536
  | [], t, h => h
  | c :: r, t, h => by
    rw [chgs]
    split
    · rename_i he
      exact chgs_size r _ (ofT_size he)
    · exact Nat.zero_le _
set_option maxRecDepth 100000 in
set_option maxHeartbeats 2000000 in
theorem change_any (b mb : Nat) (l : List Dc) (u : ByteArray) (v : Int) (A : Option Addr) (L : List Chg) (cp : Nat) (hu : u.size ≤ 1000000) (hL : L.length ≤ 1000000) (hs : ∀ x ∈ L, x.s.size ≤ 1000000) (w : World) (h : DocsAt w b mb l) (hF : Fx w) (hC : CR w A L) :
    Calls Tryd.prog 15 #[.pointer (some ⟨b, 0, none⟩), .string u, .int .i64 v, .slice A L.length cp] w (OpenEnd b mb (changeL l u v L) (changeE l u v L) w) := by
  have HM := Lib.hid (fun w h => isMade_any b mb l w h)
  have H := Lib.hid h
  have HF := Lib.hid hF
  have c1 := cell_at (i := 1) h.own
  obtain ⟨n, ho⟩ := h.map
  have hk := doc_look ho u hu
  cases b1 : hasD l u.data.toList with
  | false =>
    have e : changeE l u v L = 5 := by unfold changeE; rw [if_pos b1]
    rw [changeL_bad e (by decide), e]
    rw [b1] at hk
    unfold docV at hk
    unfold OpenEnd
    clear h hF hC ho hs e b1
    generalize docOr l u.data.toList = d at *
    go_enter Tryd.func15, Tryd.ntmps15
    go_wp2_with fail
    refine (HM.out _ H.out).mono ?_
    rintro e w1 ⟨rfl, rfl⟩
    go_wp2_with fail
    go_ret
    have HB := alloc_below w (.cells #[.string d.u, .string d.t, .int .i64 d.v] 38)
    exact ⟨rfl, H.out.below HB, Fr.of_below HB, HF.out.keep HB⟩
  | true =>
    obtain ⟨g1, g2, g3, g4⟩ := docOr_good h.good b1
    have hb1 : ¬ (hasD l u.data.toList = false) := by rw [b1]; decide
    rw [b1] at hk
    unfold docV at hk
    by_cases b2 : v ≤ (docOr l u.data.toList).v
    · have e : changeE l u v L = 18 := by unfold changeE; rw [if_neg hb1, if_pos b2]
      rw [changeL_bad e (by decide), e]
      unfold OpenEnd
      clear h hF hC ho hs e b1 hb1 g1 g2 g3 g4
      generalize docOr l u.data.toList = d at *
      go_enter Tryd.func15, Tryd.ntmps15
      go_wp2_with fail
      refine (HM.out _ H.out).mono ?_
      rintro e w1 ⟨rfl, rfl⟩
      go_wp2_with fail
      go_ret
      have HB := alloc_below w (.cells #[.string d.u, .string d.t, .int .i64 d.v] 38)
      exact ⟨rfl, H.out.below HB, Fr.of_below HB, HF.out.keep HB⟩
    · have HCH := Lib.hid (fun w h1 h2 => changed_any (docOr l u.data.toList).t g2 A L cp hL hs w h1 h2)
      have HC := Lib.hid hC
      have hz := chgs_size L _ g2
      by_cases b3 : (chgs (docOr l u.data.toList).t L).2 = 0
      · have e : changeE l u v L = 0 := by unfold changeE; rw [if_neg hb1, if_neg b2, b3]
        have e2 : changeL l u v L = putD l ⟨(docOr l u.data.toList).u, (chgs (docOr l u.data.toList).t L).1, v⟩ := by unfold changeL; rw [e, if_pos rfl]
        have hgd : Good (putD l ⟨(docOr l u.data.toList).u, (chgs (docOr l u.data.toList).t L).1, v⟩) := good_put h.good (Nat.le_trans (putD_length_old (by
          show hasD l (docOr l u.data.toList).k = true
          rw [g4, b1])) h.good.len) g1 hz g3
        have HK := Lib.hid (fun w h => keep_any b mb l ⟨(docOr l u.data.toList).u, (chgs (docOr l u.data.toList).t L).1, v⟩ g1 (by simp only; omega) hgd w h)
        rw [e2, e]
        rw [b3] at HCH
        unfold docV at HK
        unfold OpenEnd
        clear h hF hC ho hs e e2 b1 b3 hb1 g1 g2 g3 g4 hz hgd
        generalize (chgs (docOr l u.data.toList).t L).1 = x at *
        generalize docOr l u.data.toList = d at *
        go_enter Tryd.func15, Tryd.ntmps15
        go_wp2_with fail
        refine (HM.out _ H.out).mono ?_
        rintro e w1 ⟨rfl, rfl⟩
        go_wp2_with fail
        refine (HCH.out _ (HF.out.keep (alloc_below w _)) (HC.out.keep (alloc_below w _))).mono ?_
        rintro e w2 ⟨rfl, hb⟩
        have k := heap_keep hb (alloc_top w #[.string d.u, .string d.t, .int .i64 d.v] 38)
        have HB := Lib.hid ((alloc_below w (.cells #[.string d.u, .string d.t, .int .i64 d.v] 38)).trans (hb.mono (by simp)))
        have t0 := cell_at (i := 0) k
        clear hb k c1 hk
        go_wp2_with fail
        refine (HK.out _ (H.out.below HB.out)).mono ?_
        rintro e w3 ⟨rfl, hd, hf⟩
        have HD := Lib.hid hd
        have HFr := Lib.hid hf
        clear hd hf t0
        go_wp2_with fail
        go_ret
        exact ⟨rfl, HD.out, (Fr.of_below HB.out).trans HFr.out, (HF.out.keep HB.out).fr (H.out.below HB.out) HFr.out⟩
      · have e : changeE l u v L = (chgs (docOr l u.data.toList).t L).2 := by unfold changeE; rw [if_neg hb1, if_neg b2]
        rw [changeL_bad e b3, e]
        have b4 : ((chgs (docOr l u.data.toList).t L).2 == 0) = false := by simpa using b3
        unfold OpenEnd
        clear h hF hC ho hs e b1 hb1 g1 g2 g3 g4 hz
        generalize (chgs (docOr l u.data.toList).t L).1 = x at *
        generalize (chgs (docOr l u.data.toList).t L).2 = y at *
        generalize docOr l u.data.toList = d at *
        go_enter Tryd.func15, Tryd.ntmps15
        go_wp2_with fail
        refine (HM.out _ H.out).mono ?_
        rintro e w1 ⟨rfl, rfl⟩
        go_wp2_with fail
        refine (HCH.out _ (HF.out.keep (alloc_below w _)) (HC.out.keep (alloc_below w _))).mono ?_
        rintro e w2 ⟨rfl, hb⟩
        have HB := Lib.hid ((alloc_below w (.cells #[.string d.u, .string d.t, .int .i64 d.v] 38)).trans (hb.mono (by simp)))
        clear hb c1 hk
        go_wp2_with fail
        go_ret
        exact ⟨rfl, H.out.below HB.out, Fr.of_below HB.out, HF.out.keep HB.out⟩
end Go.Proofs.YtpphkkelikdhkaaDoor
