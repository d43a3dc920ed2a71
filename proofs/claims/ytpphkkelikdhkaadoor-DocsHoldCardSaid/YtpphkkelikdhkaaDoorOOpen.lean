/-
  docs' Open, Get, Close AT EVERY URI, text, version: what they return, which documents there are then; nothing that was there turns but the documents' map. Conditions: the lengths; what the variables that are read hold (Fx).
-/
import Derived.Test.YtpphkkelikdhkaaDoorODocs
namespace Go.Proofs.YtpphkkelikdhkaaDoor
open Go.RowKit Go.Maps

/-- Why a document may not be opened, or 0. -/
def openE (l : List Dc) (u t : ByteArray) : Int :=
  if dirB u.data.toList = false then 9 else if hasD l u.data.toList = true then 6 else if 32 ≤ l.length then 7 else if valid t.data.toList = false then 8 else if 65536 < t.size then 3 else 0
/-- The documents behind Open. -/
def openL (l : List Dc) (u t : ByteArray) (v : Int) : List Dc := if openE l u t = 0 then putD l ⟨u, t, v⟩ else l
theorem openL_bad {l : List Dc} {u t : ByteArray} {v e : Int} (h : openE l u t = e) (he : e ≠ 0) : openL l u t v = l := by
  unfold openL
  rw [h, if_neg he]
theorem good_put {l : List Dc} {d : Dc} (h : Good l) (hn : (putD l d).length ≤ 32) (h1 : d.u.size ≤ 1000000) (h2 : d.t.size ≤ 65536) (h3 : dirB d.k = true) : Good (putD l d) :=
  ⟨hn, fun e he => by
    rcases putD_mem he with rfl | he
    · exact ⟨h1, h2, h3⟩
    · exact h.each e he⟩
theorem good_del {l : List Dc} (h : Good l) (x : List UInt8) : Good (delD l x) :=
  ⟨Nat.le_trans (delD_length l x) h.len, fun e he => h.each e (List.mem_filter.1 he).1⟩
def OpenEnd (b mb : Nat) (l : List Dc) (n : Int) (w : World) (e : Ending) (w' : World) : Prop := e = .returned (.int .i64 n) ∧ DocsAt w' b mb l ∧ Fr (· = mb) w w' ∧ Fx w'
theorem cell_fr {W W' : World} {a : Addr} {v : Value} {mb : Nat} {es : Array MapEntry} {c : Nat} (h : W.cell? a = some v) (hf : Fr (· = mb) W W') (hm : W.heap[mb]? = some (.map es c)) : W'.cell? a = some v := by
  have hne : ¬ a.block = mb := by
    intro e
    unfold World.cell? at h
    rw [e, hm] at h
    simp at h
  unfold World.cell? at h ⊢
  rw [hf.block a.block (by
    rcases Nat.lt_or_ge a.block W.heap.size with h' | h'
    · exact h'
    · simp [Array.getElem?_eq_none h'] at h) hne]
  exact h
theorem Fx.fr {W W' : World} {b mb : Nat} {l : List Dc} (h : Fx W) (hd : DocsAt W b mb l) (hf : Fr (· = mb) W W') : Fx W' := by
  obtain ⟨n, es, c, hm, _⟩ := hd.map
  obtain ⟨⟨h1, h2⟩, m, h3⟩ := h
  exact ⟨⟨fun c hc => cell_fr (h1 c hc) hf hm, fun i hi => ⟨cell_fr (h2 i hi).1 hf hm, cell_fr (h2 i hi).2 hf hm⟩⟩, m, cell_fr h3 hf hm⟩
theorem set3_heap {W : World} {R : Nat} {a b c x y z : Value} {t : TypeId} (h : W.heap[R]? = some (.cells #[a, b, c] t (0, 0))) : (((W.setCell ⟨R, 0, none⟩ x).setCell ⟨R, 1, none⟩ y).setCell ⟨R, 2, none⟩ z).heap[R]? = some (.cells #[x, y, z] t (0, 0)) :=
  heap_setCell_same _ R 2 _ _ z (heap_setCell_same _ R 1 _ _ y (heap_setCell_same W R 0 _ _ x h))
theorem ret_doc {fn : Func} {p u : Tmp} {ty : TypeId} (hr : fn.results = #[.cell p ty, .tmp u]) {N : Nat} {wq : World} {Q : Ending → World → Prop} (tmps : Array Value) (hp : tmps.getD p undef = .pointer (some ⟨N, 0, none⟩)) (v : Value)
    (hl : (loadVar ty ⟨N, 0, none⟩).run Tryd.prog wq = .ok v wq) (hq : Q (.returned (.tuple #[v, tmps.getD u undef])) wq) : bodyPost Tryd.prog fn Q Exit.ret ⟨tmps, []⟩ wq := by
  refine bodyPost_ret (v := .tuple #[v, tmps.getD u undef]) ?_ rfl hq
  rw [results_cell_tmp hr, hp]
  simp [asAddr, Result.andThen, hl]
theorem docOr_none {l : List Dc} {x : List UInt8} (h : hasD l x = false) : docOr l x = zeroDc := by
  unfold docOr
  rw [hasD_getD?] at h
  cases hg : getD? l x with
  | none => rfl
  | some d => rw [hg] at h; cases h
theorem docOr_good {l : List Dc} {x : List UInt8} (hg : Good l) (h : hasD l x = true) : (docOr l x).u.size ≤ 1000000 ∧ (docOr l x).t.size ≤ 65536 ∧ dirB (docOr l x).k = true ∧ (docOr l x).k = x := by
  rw [hasD_getD?] at h
  cases hq : getD? l x with
  | none => rw [hq] at h; cases h
  | some d =>
    have e : docOr l x = d := by unfold docOr; rw [hq]; rfl
    rw [e]
    obtain ⟨h1, h2⟩ := getD?_some hq
    obtain ⟨a, b, c⟩ := hg.each d h1
    exact ⟨a, b, c, h2⟩
set_option maxRecDepth 100000 in
set_option maxHeartbeats 1000000 in
theorem get_any (b mb : Nat) (l : List Dc) (u : ByteArray) (hu : u.size ≤ 1000000) (w : World) (h : DocsAt w b mb l) : Calls Tryd.prog 16 #[.pointer (some ⟨b, 0, none⟩), .string u] w fun e w' => e = .returned (.tuple #[docV (docOr l u.data.toList), .bool (hasD l u.data.toList)]) ∧ Below w.heap.size w w' := by
  have HM := Lib.hid (fun w h => isMade_any b mb l w h)
  have HI := Lib.hid (fun w h => isOpen_any b mb l u hu w h)
  cases ho : hasD l u.data.toList with
  | false =>
    rw [docOr_none ho]
    rw [ho] at HI
    have H := Lib.hid h
    clear h ho
    go_enter Tryd.func16, Tryd.ntmps16
    go_wp2_with fail
    refine (HM.out _ (H.out.below (alloc_below w _))).mono ?_
    rintro e w1 ⟨rfl, rfl⟩
    go_wp2_with fail
    refine (HI.out _ (H.out.below (alloc_below w _))).mono ?_
    rintro e w1 ⟨rfl, hb⟩
    have k := heap_keep hb (alloc_top w #[.string ⟨#[]⟩, .string ⟨#[]⟩, .int .i64 0] 38)
    have q0 := cell_at (i := 0) k
    have q1 := cell_at (i := 1) k
    have q2 := cell_at (i := 2) k
    have z0 := frozen_of_row w1 w.heap.size 0 _ _ k
    have z1 := frozen_of_row w1 w.heap.size 1 _ _ k
    have z2 := frozen_of_row w1 w.heap.size 2 _ _ k
    have HB := Lib.hid ((alloc_below w (.cells #[.string ⟨#[]⟩, .string ⟨#[]⟩, .int .i64 0] 38)).trans (hb.mono (by simp)))
    have HK := Lib.hid k
    clear hb k
    go_wp2_with fail
    have hz := set3_heap (x := .string ⟨#[]⟩) (y := .string ⟨#[]⟩) (z := .int .i64 0) HK.out
    refine ret_doc Tryd.results16 _ rfl (docV zeroDc) (load_doc hz) ⟨rfl, ?_⟩
    exact ((HB.out.setCell (p := ⟨w.heap.size, 0, none⟩) (Nat.le_refl _) _).setCell (p := ⟨w.heap.size, 1, none⟩) (Nat.le_refl _) _).setCell (p := ⟨w.heap.size, 2, none⟩) (Nat.le_refl _) _
  | true =>
    obtain ⟨g1, g2, _, _⟩ := docOr_good h.good ho
    have HC := Lib.hid (copyOf_any (docOr l u.data.toList) g1 (by omega))
    have HL := Lib.hid (fun w (h : DocsAt w b mb l) => (Exists.elim h.map fun n ho => doc_look1 ho u hu : (Instr.lookup 57 (.map (some mb)) (.string u) false).run Tryd.prog w = .ok (docV (docOr l u.data.toList)) w))
    rw [ho] at HI
    generalize docOr l u.data.toList = d at *
    unfold docV at HC HL ⊢
    have H := Lib.hid h
    clear h ho
    go_enter Tryd.func16, Tryd.ntmps16
    go_wp2_with fail
    refine (HM.out _ (H.out.below (alloc_below w _))).mono ?_
    rintro e w1 ⟨rfl, rfl⟩
    go_wp2_with fail
    refine (HI.out _ (H.out.below (alloc_below w _))).mono ?_
    rintro e w1 ⟨rfl, hb⟩
    have k := heap_keep hb (alloc_top w #[.string ⟨#[]⟩, .string ⟨#[]⟩, .int .i64 0] 38)
    have h1 := (H.out.below (alloc_below w (.cells #[.string ⟨#[]⟩, .string ⟨#[]⟩, .int .i64 0] 38))).below hb
    have c1 := cell_at (i := 1) h1.own
    have hl := HL.out _ h1
    have HB := Lib.hid ((alloc_below w (.cells #[.string ⟨#[]⟩, .string ⟨#[]⟩, .int .i64 0] 38)).trans (hb.mono (by simp)))
    have HK := Lib.hid k
    clear hb k h1
    go_wp2_with fail
    refine (HC.out _).mono ?_
    rintro e w2 ⟨rfl, hb⟩
    have k2 := heap_keep hb HK.out
    have HB2 := Lib.hid (HB.out.trans (hb.mono HB.out.size))
    have HK2 := Lib.hid k2
    have q0 := cell_at (i := 0) k2
    have q1 := cell_at (i := 1) k2
    have q2 := cell_at (i := 2) k2
    have z0 := frozen_of_row w2 w.heap.size 0 _ _ k2
    have z1 := frozen_of_row w2 w.heap.size 1 _ _ k2
    have z2 := frozen_of_row w2 w.heap.size 2 _ _ k2
    clear hb k2 hl c1 HK HB
    go_wp2_with fail
    have hz := set3_heap (x := .string d.u) (y := .string d.t) (z := .int .i64 d.v) HK2.out
    refine ret_doc Tryd.results16 _ rfl (.agg #[.string d.u, .string d.t, .int .i64 d.v]) (load_doc hz) ⟨rfl, ?_⟩
    exact ((HB2.out.setCell (p := ⟨w.heap.size, 0, none⟩) (Nat.le_refl _) _).setCell (p := ⟨w.heap.size, 1, none⟩) (Nat.le_refl _) _).setCell (p := ⟨w.heap.size, 2, none⟩) (Nat.le_refl _) _
set_option maxRecDepth 100000 in
set_option maxHeartbeats 1000000 in
theorem open_any (b mb : Nat) (l : List Dc) (u t : ByteArray) (v : Int) (hu : u.size ≤ 1000000) (ht : t.size ≤ 1000000) (w : World) (h : DocsAt w b mb l) (hF : Fx w) : Calls Tryd.prog 13 #[.pointer (some ⟨b, 0, none⟩), .string u, .string t, .int .i64 v] w (OpenEnd b mb (openL l u t v) (openE l u t) w) := by
  have HM := Lib.hid (fun w h => isMade_any b mb l w h)
  have HI := Lib.hid (fun w h => isOpen_any b mb l u hu w h)
  have HU := Lib.hid (fun w h => uri_any u hu w h)
  have HV := Lib.hid (fun w (h : Fx w) => valid_any t w h.1)
  have H := Lib.hid h
  have HF := Lib.hid hF
  cases b1 : dirB u.data.toList with
  | false =>
    have e : openE l u t = 9 := by unfold openE; rw [if_pos b1]
    rw [openL_bad e (by decide), e]
    rw [b1] at HU
    unfold OpenEnd
    clear h hF e b1
    go_enter Tryd.func13, Tryd.ntmps13
    go_wp2_with fail
    refine (HM.out _ H.out).mono ?_
    rintro e w1 ⟨rfl, rfl⟩
    go_wp2_with fail
    refine (HU.out _ HF.out).mono ?_
    rintro e w1 ⟨rfl, hb⟩
    have HB := Lib.hid hb
    clear hb
    go_wp2_with fail
    go_ret
    exact ⟨rfl, H.out.below HB.out, Fr.of_below HB.out, HF.out.keep HB.out⟩
  | true =>
    cases b2 : hasD l u.data.toList with
    | true =>
      have e : openE l u t = 6 := by unfold openE; rw [if_neg (by rw [b1]; decide), if_pos b2]
      rw [openL_bad e (by decide), e]
      rw [b1] at HU
      rw [b2] at HI
      unfold OpenEnd
      clear h hF e b1 b2
      go_enter Tryd.func13, Tryd.ntmps13
      go_wp2_with fail
      refine (HM.out _ H.out).mono ?_
      rintro e w1 ⟨rfl, rfl⟩
      go_wp2_with fail
      refine (HU.out _ HF.out).mono ?_
      rintro e w1 ⟨rfl, hb⟩
      have HB := Lib.hid hb
      have H1 := Lib.hid (H.out.below hb)
      clear hb
      go_wp2_with fail
      refine (HI.out _ H1.out).mono ?_
      rintro e w2 ⟨rfl, hb⟩
      have HB2 := Lib.hid (HB.out.trans (hb.mono HB.out.size))
      clear hb
      go_wp2_with fail
      go_ret
      exact ⟨rfl, H.out.below HB2.out, Fr.of_below HB2.out, HF.out.keep HB2.out⟩
    | false =>
      rw [b1] at HU
      rw [b2] at HI
      by_cases b3 : 32 ≤ l.length
      · have e : openE l u t = 7 := by unfold openE; rw [if_neg (by rw [b1]; decide), if_neg (by rw [b2]; decide), if_pos b3]
        rw [openL_bad e (by decide), e]
        unfold OpenEnd
        have q3 : ¬ (l.length : Int) < 32 := by omega
        have q4 : (32 : Int) ≤ (l.length : Int) := by omega
        clear h hF e b1 b2
        go_enter Tryd.func13, Tryd.ntmps13
        go_wp2_with fail
        refine (HM.out _ H.out).mono ?_
        rintro e w1 ⟨rfl, rfl⟩
        go_wp2_with fail
        refine (HU.out _ HF.out).mono ?_
        rintro e w1 ⟨rfl, hb⟩
        have HB := Lib.hid hb
        have H1 := Lib.hid (H.out.below hb)
        clear hb
        go_wp2_with fail
        refine (HI.out _ H1.out).mono ?_
        rintro e w2 ⟨rfl, hb⟩
        have HB2 := Lib.hid (HB.out.trans (hb.mono HB.out.size))
        have h2 := H1.out.below hb
        have c1 := cell_at (i := 1) h2.own
        obtain ⟨n, ho⟩ := h2.map
        have hlen := fun ty => doc_len ho ty
        clear hb ho h2
        go_wp2_with fail
        go_ret
        exact ⟨rfl, H.out.below HB2.out, Fr.of_below HB2.out, HF.out.keep HB2.out⟩
      · have q3 : (l.length : Int) < 32 := by omega
        have q4 : ¬ (32 : Int) ≤ (l.length : Int) := by omega
        cases b4 : valid t.data.toList with
        | false =>
          have e : openE l u t = 8 := by unfold openE; rw [if_neg (by rw [b1]; decide), if_neg (by rw [b2]; decide), if_neg b3, if_pos b4]
          rw [openL_bad e (by decide), e]
          rw [b4] at HV
          unfold OpenEnd
          clear h hF e b1 b2 b4
          go_enter Tryd.func13, Tryd.ntmps13
          go_wp2_with fail
          refine (HM.out _ H.out).mono ?_
          rintro e w1 ⟨rfl, rfl⟩
          go_wp2_with fail
          refine (HU.out _ HF.out).mono ?_
          rintro e w1 ⟨rfl, hb⟩
          have HB := Lib.hid hb
          have H1 := Lib.hid (H.out.below hb)
          clear hb
          go_wp2_with fail
          refine (HI.out _ H1.out).mono ?_
          rintro e w2 ⟨rfl, hb⟩
          have HB2 := Lib.hid (HB.out.trans (hb.mono HB.out.size))
          have h2 := H1.out.below hb
          have c1 := cell_at (i := 1) h2.own
          obtain ⟨n, ho⟩ := h2.map
          have hlen := fun ty => doc_len ho ty
          clear hb ho h2
          go_wp2_with fail
          refine (HV.out _ (HF.out.keep HB2.out)).mono ?_
          rintro e w3 ⟨rfl, hb⟩
          have HB3 := Lib.hid (HB2.out.trans (hb.mono HB2.out.size))
          clear hb c1 hlen
          go_wp2_with fail
          go_ret
          exact ⟨rfl, H.out.below HB3.out, Fr.of_below HB3.out, HF.out.keep HB3.out⟩
        | true =>
          rw [b4] at HV
          by_cases b5 : 65536 < t.size
          · have e : openE l u t = 3 := by unfold openE; rw [if_neg (by rw [b1]; decide), if_neg (by rw [b2]; decide), if_neg b3, if_neg (by rw [b4]; decide), if_pos b5]
            rw [openL_bad e (by decide), e]
            have q5 : (65536 : Int) < (t.size : Int) := by omega
            have q6 : ¬ (t.size : Int) ≤ 65536 := by omega
            unfold OpenEnd
            clear h hF e b1 b2 b4
            go_enter Tryd.func13, Tryd.ntmps13
            go_wp2_with fail
            refine (HM.out _ H.out).mono ?_
            rintro e w1 ⟨rfl, rfl⟩
            go_wp2_with fail
            refine (HU.out _ HF.out).mono ?_
            rintro e w1 ⟨rfl, hb⟩
            have HB := Lib.hid hb
            have H1 := Lib.hid (H.out.below hb)
            clear hb
            go_wp2_with fail
            refine (HI.out _ H1.out).mono ?_
            rintro e w2 ⟨rfl, hb⟩
            have HB2 := Lib.hid (HB.out.trans (hb.mono HB.out.size))
            have h2 := H1.out.below hb
            have c1 := cell_at (i := 1) h2.own
            obtain ⟨n, ho⟩ := h2.map
            have hlen := fun ty => doc_len ho ty
            clear hb ho h2
            go_wp2_with fail
            refine (HV.out _ (HF.out.keep HB2.out)).mono ?_
            rintro e w3 ⟨rfl, hb⟩
            have HB3 := Lib.hid (HB2.out.trans (hb.mono HB2.out.size))
            clear hb c1 hlen
            go_wp2_with fail
            go_ret
            exact ⟨rfl, H.out.below HB3.out, Fr.of_below HB3.out, HF.out.keep HB3.out⟩
          · have e : openE l u t = 0 := by unfold openE; rw [if_neg (by rw [b1]; decide), if_neg (by rw [b2]; decide), if_neg b3, if_neg (by rw [b4]; decide), if_neg b5]
            have e2 : openL l u t v = putD l ⟨u, t, v⟩ := by unfold openL; rw [e, if_pos rfl]
            rw [e2, e]
            have q5 : ¬ (65536 : Int) < (t.size : Int) := by omega
            have q6 : (t.size : Int) ≤ 65536 := by omega
            have hgd : Good (putD l ⟨u, t, v⟩) := good_put h.good (by rw [putD_length_new b2]; omega) hu (by simp only; omega) b1
            have HK := Lib.hid (fun w h => keep_any b mb l ⟨u, t, v⟩ hu ht hgd w h)
            unfold docV at HK
            unfold OpenEnd
            clear h hF e e2 b1 b2 b4 hgd
            go_enter Tryd.func13, Tryd.ntmps13
            go_wp2_with fail
            refine (HM.out _ H.out).mono ?_
            rintro e w1 ⟨rfl, rfl⟩
            go_wp2_with fail
            refine (HU.out _ HF.out).mono ?_
            rintro e w1 ⟨rfl, hb⟩
            have HB := Lib.hid hb
            have H1 := Lib.hid (H.out.below hb)
            clear hb
            go_wp2_with fail
            refine (HI.out _ H1.out).mono ?_
            rintro e w2 ⟨rfl, hb⟩
            have HB2 := Lib.hid (HB.out.trans (hb.mono HB.out.size))
            have h2 := H1.out.below hb
            have c1 := cell_at (i := 1) h2.own
            obtain ⟨n, ho⟩ := h2.map
            have hlen := fun ty => doc_len ho ty
            clear hb ho h2
            go_wp2_with fail
            refine (HV.out _ (HF.out.keep HB2.out)).mono ?_
            rintro e w3 ⟨rfl, hb⟩
            have HB3 := Lib.hid (HB2.out.trans (hb.mono HB2.out.size))
            clear hb c1 hlen
            go_wp2_with fail
            refine (HK.out _ (H.out.below HB3.out)).mono ?_
            rintro e w4 ⟨rfl, hd, hf⟩
            have HD := Lib.hid hd
            have HFr := Lib.hid hf
            clear hd hf
            go_wp2_with fail
            go_ret
            exact ⟨rfl, HD.out, (Fr.of_below HB3.out).trans HFr.out, (HF.out.keep HB3.out).fr (H.out.below HB3.out) HFr.out⟩
/-- Why a document may not be closed, or 0. -/
def closeE (l : List Dc) (u : ByteArray) : Int := if hasD l u.data.toList = true then 0 else 5
set_option maxRecDepth 100000 in
set_option maxHeartbeats 1000000 in
theorem close_any (b mb : Nat) (l : List Dc) (u : ByteArray) (hu : u.size ≤ 1000000) (w : World) (h : DocsAt w b mb l) (hF : Fx w) : Calls Tryd.prog 19 #[.pointer (some ⟨b, 0, none⟩), .string u] w (OpenEnd b mb (delD l u.data.toList) (closeE l u) w) := by
  have HM := Lib.hid (fun w h => isMade_any b mb l w h)
  have HI := Lib.hid (fun w h => isOpen_any b mb l u hu w h)
  have H := Lib.hid h
  have HF := Lib.hid hF
  cases b2 : hasD l u.data.toList with
  | false =>
    have e : closeE l u = 5 := by unfold closeE; rw [if_neg (by rw [b2]; decide)]
    rw [e, delD_none b2]
    rw [b2] at HI
    unfold OpenEnd
    clear h hF e b2
    go_enter Tryd.func19, Tryd.ntmps19
    go_wp2_with fail
    refine (HM.out _ H.out).mono ?_
    rintro e w1 ⟨rfl, rfl⟩
    go_wp2_with fail
    refine (HI.out _ H.out).mono ?_
    rintro e w1 ⟨rfl, hb⟩
    have HB := Lib.hid hb
    clear hb
    go_wp2_with fail
    go_ret
    exact ⟨rfl, H.out.below HB.out, Fr.of_below HB.out, HF.out.keep HB.out⟩
  | true =>
    have e : closeE l u = 0 := by unfold closeE; rw [if_pos b2]
    rw [e]
    rw [b2] at HI
    unfold OpenEnd
    clear h hF e b2
    go_enter Tryd.func19, Tryd.ntmps19
    go_wp2_with fail
    refine (HM.out _ H.out).mono ?_
    rintro e w1 ⟨rfl, rfl⟩
    go_wp2_with fail
    refine (HI.out _ H.out).mono ?_
    rintro e w1 ⟨rfl, hb⟩
    have h1 := H.out.below hb
    have c1 := cell_at (i := 1) h1.own
    obtain ⟨n, ho⟩ := h1.map
    obtain ⟨w2, hdr, ⟨n2, ho2⟩, hf⟩ := doc_drop ho u hu 0
    have HD : Hid (DocsAt w2 b mb (delD l u.data.toList)) := Lib.hid ⟨hf.heap h1.ne h1.own, ⟨n2, ho2⟩, good_del h1.good _⟩
    have HFr : Hid (Fr (· = mb) w w2) := Lib.hid ((Fr.of_below hb).trans hf)
    have HX : Hid (Fx w2) := Lib.hid ((HF.out.keep hb).fr h1 hf)
    clear hb ho h1 ho2 hf
    go_wp2_with fail
    go_ret
    exact ⟨rfl, HD.out, HFr.out, HX.out⟩
end Go.Proofs.YtpphkkelikdhkaaDoor
