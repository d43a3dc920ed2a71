/-
  docs' All: the documents in the order of their URIs, in new memory; nothing that was there turns. Condition: the documents may be (DocsAt).
-/
import Derived.Test.YtpphkkelikdhkaaDoorOApp2
import Derived.Test.YtpphkkelikdhkaaDoorOSorted
import Derived.Test.YtpphkkelikdhkaaDoorIter
import Derived.OwnWalk
namespace Go.Proofs.YtpphkkelikdhkaaDoor
open Go.RowKit Go.Maps

theorem own_form {w : World} {base : Nat} {e : TypeId} {size : Nat} {v : Value} {n : Nat} {xs : List Value} (h : w.ownsRow base e size v n xs) : ∃ A c, v = .slice A n c := by
  rcases h.2 with ⟨rfl, h0⟩ | ⟨g, cap, cur, rfl, _⟩
  · subst h0; exact ⟨_, _, rfl⟩
  · exact ⟨_, _, rfl⟩
theorem new_cell (w : World) (l : List Value) (t : TypeId) : ∀ j v, l[j]? = some v → (w.alloc (.cells l.toArray t)).cell? ((⟨w.heap.size, 0, none⟩ : Addr).add j) = some v := by
  intro j v hv
  rw [Addr.add_lit, Nat.zero_add, cell_at (alloc_top w _ _)]
  simpa using hv
def docc (d : Dc) : List Value := [.string d.u, .string d.t, .int .i64 d.v]
def dcs (l : List Dc) : List Value := l.flatMap docc
theorem dcs_snoc (l : List Dc) (d : Dc) : dcs (l ++ [d]) = dcs l ++ docc d := by simp [dcs]
theorem dcs_len (l : List Dc) : (dcs l).length = l.length * 3 := by
  induction l with
  | nil => rfl
  | cons x l ih => rw [show dcs (x :: l) = docc x ++ dcs l from rfl, List.length_append, ih, List.length_cons]; simp [docc]; omega
theorem dcs_at : ∀ (ps : List Dc) (i : Nat) (p : Dc) (f : Nat), ps[i]? = some p → f < 3 → (dcs ps)[i * 3 + f]? = (docc p)[f]?
  | [], i, p, f, h, _ => by simp at h
  | q :: ps, 0, p, f, h, hf => by
    obtain rfl : q = p := by simpa using h
    show (docc q ++ dcs ps)[0 * 3 + f]? = _
    rw [Nat.zero_mul, Nat.zero_add, List.getElem?_append_left (by simpa [docc] using hf)]
  | q :: ps, i + 1, p, f, h, hf => by
    have := dcs_at ps i p f (by simpa using h) hf
    show (docc q ++ dcs ps)[(i + 1) * 3 + f]? = _
    rw [List.getElem?_append_right (by simp [docc]; omega), show (i + 1) * 3 + f - (docc q).length = i * 3 + f by simp [docc]; omega, this]
/-- Documents in a row of a call's own. -/
def DOwn (W : World) (B : Nat) (v : Value) (l : List Dc) : Prop := W.ownsRow B 38 3 v l.length (dcs l)
theorem owns_row_keep {W W' : World} {B : Nat} {e : TypeId} {size n : Nat} {v : Value} {xs : List Value} (h : W.ownsRow B e size v n xs) (hk : ∀ k, v.ownBlock = some k → W'.heap[k]? = W.heap[k]?) : W'.ownsRow B e size v n xs := by
  refine ⟨h.1, ?_⟩
  rcases h.2 with h0 | ⟨g, cap, cur, rfl, hB, hg, r⟩
  · exact .inl h0
  · exact .inr ⟨g, cap, cur, rfl, hB, (hk g rfl).trans hg, r⟩
theorem DOwn.keep {W W' : World} {B : Nat} {v : Value} {l : List Dc} (h : DOwn W B v l) (hk : ∀ k, v.ownBlock = some k → W'.heap[k]? = W.heap[k]?) : DOwn W' B v l := by
  refine ⟨h.1, ?_⟩
  rcases h.2 with h0 | ⟨g, cap, cur, rfl, hB, hg, r⟩
  · exact .inl h0
  · exact .inr ⟨g, cap, cur, rfl, hB, (hk g rfl).trans hg, r⟩
/-- A slice that reads as documents. -/
def DR (W : World) (A : Option Addr) (l : List Dc) : Prop :=
  0 < l.length → ∃ b o, A = some ⟨b, o, none⟩ ∧ ∀ j x, l[j]? = some x → W.cell? ⟨b, o + j * 3, none⟩ = some (.string x.u) ∧ W.cell? ⟨b, o + j * 3 + 1, none⟩ = some (.string x.t) ∧ W.cell? ⟨b, o + j * 3 + 2, none⟩ = some (.int .i64 x.v)
theorem DR.keep {W W' : World} {A : Option Addr} {L : List Dc} (h : DR W A L) (hb : Below W.heap.size W W') : DR W' A L := fun h0 => by
  obtain ⟨b, o, e, hc⟩ := h h0
  exact ⟨b, o, e, fun j x hx => ⟨cell_keep hb (hc j x hx).1, cell_keep hb (hc j x hx).2.1, cell_keep hb (hc j x hx).2.2⟩⟩
theorem DR.at {W : World} {A : Option Addr} {L : List Dc} (h : DR W A L) {i : Nat} {x : Dc} (hx : L[i]? = some x) : ∃ b o, A = some ⟨b, o, none⟩ ∧ W.cell? ⟨b, o + i * 3, none⟩ = some (.string x.u) ∧ W.cell? ⟨b, o + i * 3 + 1, none⟩ = some (.string x.t) ∧ W.cell? ⟨b, o + i * 3 + 2, none⟩ = some (.int .i64 x.v) := by
  obtain ⟨b, o, e, hc⟩ := h (by have := (List.getElem?_eq_some_iff.1 hx).1; omega)
  exact ⟨b, o, e, hc i x hx⟩
theorem DOwn.reads {W : World} {B : Nat} {v : Value} {L : List Dc} (h : DOwn W B v L) : ∃ A cap, v = .slice A L.length cap ∧ DR W A L := by
  rcases h.2 with ⟨rfl, h0⟩ | ⟨g, cap, cur, rfl, _, hg, _, _, _, ht⟩
  · exact ⟨none, 0, by rw [h0], fun hp => by omega⟩
  · refine ⟨_, cap, rfl, fun _ => ⟨g, 0, rfl, fun i p hp => ?_⟩⟩
    have hi : i < L.length := (List.getElem?_eq_some_iff.1 hp).1
    have key : ∀ f x, f < 3 → (docc p)[f]? = some x → W.cell? ⟨g, 0 + i * 3 + f, none⟩ = some x := by
      intro f x hf hx
      rw [cell_at hg, ← Array.getElem?_toList, Nat.zero_add]
      have h1 := dcs_at L i p f hp hf
      rw [hx, ← ht, List.getElem?_take, if_pos (by omega)] at h1
      exact h1
    exact ⟨key 0 _ (by omega) rfl, key 1 _ (by omega) rfl, key 2 _ (by omega) rfl⟩
/-- Texts in a row of a call's own: a cell. -/
theorem strs_at {W : World} {B : Nat} {v : Value} {ss : List (List UInt8)} (h : W.ownsRow B 9 1 v ss.length (ss.map encStr)) : ∃ A cap, v = .slice A ss.length cap ∧ (0 < ss.length → ∃ g, A = some ⟨g, 0, none⟩ ∧ B ≤ g ∧ ∀ i x, ss[i]? = some x → W.cell? ⟨g, i, none⟩ = some (encStr x)) := by
  rcases h.2 with ⟨rfl, h0⟩ | ⟨g, cap, cur, rfl, hB, hg, _, _, _, ht⟩
  · exact ⟨none, 0, by rw [h0], fun hp => by omega⟩
  · refine ⟨_, cap, rfl, fun _ => ⟨g, rfl, hB, fun i x hx => ?_⟩⟩
    have hi : i < ss.length := (List.getElem?_eq_some_iff.1 hx).1
    rw [cell_at hg, ← Array.getElem?_toList]
    have h1 : (ss.map encStr)[i]? = some (encStr x) := by rw [List.getElem?_map, hx]; rfl
    rw [← ht, List.getElem?_take, if_pos (by omega)] at h1
    exact h1
theorem docInfo : (Tryd.prog.info? 38).map (fun i => (i.zero, i.size, i.bytes)) = some (some (.agg #[.string ⟨#[]⟩, .string ⟨#[]⟩, .int .i64 0]), 3, 40) := by kernel_rfl
def zeroDs (n : Nat) : Array Value := madeCells (Value.agg #[.string ⟨#[]⟩, .string ⟨#[]⟩, .int .i64 0]).cells (n * 3)
theorem zeroDs_size (n : Nat) : (zeroDs n).size = n * 3 := size_madeCells _ _
def AllEnd (w : World) (l : List Dc) (e : Ending) (w' : World) : Prop := ∃ v, e = .returned v ∧ DOwn w' w.heap.size v l ∧ Below w.heap.size w w'
set_option maxRecDepth 100000 in
set_option maxHeartbeats 4000000 in
theorem all_any (b mb : Nat) (l : List Dc) (w : World) (h : DocsAt w b mb l) : Calls Tryd.prog 20 #[.pointer (some ⟨b, 0, none⟩)] w (AllEnd w l) := by
  have HM := Lib.hid (fun w h => isMade_any b mb l w h)
  have H := Lib.hid h
  have hlen := h.good.len
  have c1 := cell_at (i := 1) h.own
  obtain ⟨n, ho⟩ := h.map
  have hl := fun ty => doc_len ho ty
  obtain ⟨i0, hi0, hz0, hz1, hz2⟩ := info_parts docInfo
  have hmk : ∀ W, (Instr.makeSlice 45 (.int .i64 0) (.int .i64 (l.length : Int))).run Tryd.prog W = .ok (.slice (some ⟨W.heap.size, 0, none⟩) 0 l.length) (W.alloc (.cells (zeroDs l.length) 38)) := fun W => by
    have h := run_make (P := Tryd.prog) W 45 38 i0 _ Tryd.underlying45 hi0 hz0 .i64 .i64 0 (l.length : Int) (by omega) (by omega) (by rw [hz2]; omega) (by omega)
    rw [hz1, Int.toNat_natCast] at h
    exact h
  have hW := h.below (alloc_below w (.cells (zeroDs l.length) 38))
  have k1 := cell_at (i := 1) hW.own
  have hown := World.ownsRow_made (base := w.heap.size) (e := 38) (size := 3) w (zeroDs l.length) l.length (Nat.le_refl _) (by unfold maxLen; omega) (zeroDs_size _)
  have HO0 : Hid (DOwn (w.alloc (.cells (zeroDs l.length) 38)) w.heap.size (.slice (some ⟨w.heap.size, 0, none⟩) 0 l.length) (l.take 0)) := Lib.hid hown
  have HB0 := Lib.hid (alloc_below w (.cells (zeroDs l.length) 38))
  have HW := Lib.hid hW
  have hWs : (w.alloc (.cells (zeroDs l.length) 38)).heap.size = w.heap.size + 1 := World.size_alloc _ _
  have HWs := Lib.hid hWs
  clear hWs
  unfold AllEnd
  clear h ho hW hown
  go_enter Tryd.func20, Tryd.ntmps20
  go_wp2_with fail
  refine (HM.out _ H.out).mono ?_
  rintro e w1 ⟨rfl, rfl⟩
  go_wp2_with fail
  obtain ⟨nn, ho⟩ := HW.out.map
  have HRI := Lib.hid (owns_rise ho)
  have HK := Lib.hid (callsIn_wide.1 (Tryd.maps_Keys_43 (some mb) (w.alloc (.cells (zeroDs l.length) 38))))
  have HS := Lib.hid (callsIn_wide.1 (Tryd.slices_Sorted_keys_42_43 mb nn (Dm l) docR (w.alloc (.cells (zeroDs l.length) 38)) ho (by rw [size_Dm]; unfold maxLen; omega) (by rw [size_Dm]; omega)))
  clear ho hmk hl k1
  generalize w.alloc (.cells (zeroDs l.length) 38) = W0 at *
  refine HK.out.mono ?_
  rintro e w2 ⟨rfl, rfl⟩
  go_wp2_with fail
  refine HS.out.mono ?_
  rintro e w3 ⟨v, ss, rfl, hp, hrow, hnil, hb⟩
  have hks := sorted_keys HRI.out hp
  rw [hks] at hrow
  have hsl : ss.length = l.length := by have := hp.length_eq; rw [keys_of, List.length_map] at this; exact this
  rw [hsl] at hrow
  have hrow2 : w3.ownsRow (W0.alloc (.cells #[.map (some mb)] 57)).heap.size 9 1 v (l.map Dc.k).length ((l.map Dc.k).map encStr) := by rw [List.length_map]; exact hrow
  obtain ⟨A, cap, rfl, hA⟩ := strs_at hrow2
  rw [List.length_map] at hA
  have hz0 := HWs.out
  have HB3 : Hid (Below w.heap.size w w3) := Lib.hid ((HB0.out.alloc HB0.out.size _).trans (hb.mono (by rw [World.size_alloc]; omega)))
  have HO3 : Hid (DOwn w3 w.heap.size (.slice (some ⟨w.heap.size, 0, none⟩) 0 l.length) (l.take 0)) := Lib.hid (HO0.out.keep (fun k hk => by
    simp only [Value.ownBlock, Option.some.injEq] at hk
    subst hk
    exact (hb.block w.heap.size (by rw [World.size_alloc]; omega)).trans (Below.heap_alloc W0 _ w.heap.size (by omega))))
  have HA : Hid (0 < l.length → ∃ g, A = some ⟨g, 0, none⟩ ∧ w.heap.size < g ∧ ∀ (i : Nat) (d : Dc), l[i]? = some d → w3.cell? ⟨g, i, none⟩ = some (.string d.u)) := Lib.hid (fun h0 => by
    obtain ⟨g, e, hg, hc⟩ := hA h0
    refine ⟨g, e, by rw [World.size_alloc] at hg; omega, fun i d hd => ?_⟩
    have := hc i d.k (by rw [List.getElem?_map, hd]; rfl)
    rw [this]
    unfold encStr Dc.k
    simp)
  rw [List.length_map]
  clear hz0 hb hrow hrow2 hA hks hsl hnil hp HK HS HW HO0 HB0 HWs HM c1
  go_wp2_with fail
  go_loopw [3, 22] (fun av k wr => ∃ (i : Nat) (v0 : Value), v0 = av ∧ k = .int .i64 (i : Int) ∧ i ≤ l.length ∧ Hid (wr.ownsRow w.heap.size 38 3 v0 i (dcs (l.take i))) ∧ Hid (Below w.heap.size w wr) ∧
    Hid (∀ g, A = some ⟨g, 0, none⟩ → w.heap.size < g → (∀ (i : Nat) (d : Dc), l[i]? = some d → w3.cell? ⟨g, i, none⟩ = some (.string d.u)) → (v0.ownBlock ≠ some g ∧ wr.heap[g]? = w3.heap[g]?))) (fun _ k _ => l.length - (intOf k).toNat)
  case atStart => exact ⟨0, _, rfl, rfl, Nat.zero_le _, HO3, HB3, Lib.hid (fun g _ hg _ => ⟨by simp [Value.ownBlock]; omega, rfl⟩)⟩
  case round =>
    obtain ⟨i, v0, rfl, rfl, hi, hown, hb, hg⟩ := hrel
    have hd := Lib.hid (H.out.below hb.out)
    obtain ⟨p0, cap0, hv0⟩ := own_form hown.out
    subst hv0
    by_cases hlt : i < l.length
    · obtain ⟨x, hx⟩ : ∃ x, l[i]? = some x := ⟨_, List.getElem?_eq_getElem hlt⟩
      obtain ⟨g, rfl, hwg, hc⟩ := HA.out (by omega)
      obtain ⟨g1, g2⟩ := hg.out g rfl hwg hc
      have cu : wr.cell? ⟨g, i, none⟩ = some (.string x.u) := by
        have := hc i x hx
        unfold World.cell? at this ⊢
        simp only at this ⊢
        rw [g2]
        exact this
      obtain ⟨nn2, ho2⟩ := hd.out.map
      have hxg := hd.out.good.each x (List.mem_of_getElem? hx)
      have hl1 := doc_look1 ho2 x.u hxg.1
      have hdo : docOr l x.u.data.toList = x := by
        have := getD?_at HRI.out hx
        unfold docOr
        rw [show x.u.data.toList = x.k from rfl, this]
        rfl
      rw [hdo] at hl1
      unfold docV at hl1
      have c1 := cell_at (i := 1) hd.out.own
      have HC := Lib.hid (copyOf_any x hxg.1 (by omega))
      unfold docV at HC
      have HX := Lib.hid hx
      have q1 : (i : Int) < (l.length : Int) := by omega
      have q2 : decide ((i : Int) < (l.length : Int)) = true := by simpa using hlt
      clear ho2 hdo hx hc
      go_wp2_with fail
      refine (HC.out _).mono ?_
      rintro e w5 ⟨rfl, hb5⟩
      have hgl : g < wr.heap.size := cell_lt cu
      have HSZ := Lib.hid hb5.size
      have HB5 := Lib.hid (hb.out.trans (hb5.mono hb.out.size))
      have HD5 := Lib.hid (hd.out.below hb5)
      have hbk : ∀ k, (Value.slice p0 i cap0).ownBlock = some k → k < wr.heap.size := fun k hk => (World.ownsRow.lt hown.out k hk).2
      have HO5 : Hid (w5.ownsRow w.heap.size 38 3 (.slice p0 i cap0) i (dcs (l.take i))) := Lib.hid (owns_row_keep hown.out (fun k hk => hb5.block k (hbk k hk)))
      have HG5 : Hid (w5.heap[g]? = w3.heap[g]?) := Lib.hid ((hb5.block g hgl).trans g2)
      have HSL : Hid (dcs (l.take (i + 1)) = dcs (l.take i) ++ docc x) := Lib.hid (by
        obtain ⟨hi', e⟩ := List.getElem?_eq_some_iff.1 HX.out
        rw [List.take_succ_eq_append_getElem hi', dcs_snoc, e])
      have HBK := Lib.hid hbk
      clear hb5 hl1 cu c1 hown hbk g2
      have hW5 : w.heap.size ≤ (w5.alloc (.cells #[.string x.u, .string x.t, .int .i64 x.v] 38)).heap.size := by rw [World.size_alloc]; have := HB5.out.size; omega
      go_wp2_with (at_builtin; refine wpList_append_own2 _ rfl _ _ 45 rfl w.heap.size 38 i0 (.agg #[.string ⟨#[]⟩, .string ⟨#[]⟩, .int .i64 0]) 3 40 Tryd.underlying45 hi0 hz0 hz1 hz2 rfl (by decide) _ _ _ rfl (World.ownsRow.alloc HO5.out _) ⟨w5.heap.size, 0, none⟩ 1 1 [.string x.u, .string x.t, .int .i64 x.v] rfl rfl (new_cell _ _ _) ?c2 ?c3 ?c4 ?c5 ?_)
      case c2 => simp [Value.oneCell']
      case c3 => unfold maxLen; omega
      case c4 => omega
      case c5 => exact hW5
      intro v2 w6 hown2 hgr2 hne2
      have HO6 : Hid (w6.ownsRow w.heap.size 38 3 v2 (i + 1) (dcs (l.take (i + 1)))) := Lib.hid (by
        rw [HSL.out]
        exact hown2)
      have HB6 := Lib.hid ((HB5.out.alloc HB5.out.size (.cells #[.string x.u, .string x.t, .int .i64 x.v] 38)).grown hgr2 hW5 (fun j ej => (World.ownsRow.lt HO5.out j ej).1))
      have HG6 : Hid (∀ g', (some ⟨g, 0, none⟩ : Option Addr) = some ⟨g', 0, none⟩ → w.heap.size < g' → (∀ (i : Nat) (d : Dc), l[i]? = some d → w3.cell? ⟨g', i, none⟩ = some (.string d.u)) → (v2.ownBlock ≠ some g' ∧ w6.heap[g']? = w3.heap[g']?)) := Lib.hid (fun g' e _ _ => by
        injection e with e
        injection e with e
        subst e
        have h5 := HSZ.out
        refine ⟨fun hk => ?_, ?_⟩
        · rcases hne2 g hk with h | h
          · exact g1 h
          · omega
        · exact ((hgr2.block g (by rw [World.size_alloc]; omega) (fun e => g1 e.symm)).trans (Below.heap_alloc w5 _ g (by omega))).trans HG5.out)
      clear hown2 hgr2 hne2 hW5 g1 hi0 hz0 hz1 hz2
      go_wp2_with fail
      go_roundw
      case rel => exact ⟨i + 1, v2, rfl, by go_num, by omega, HO6, HB6, HG6⟩
      case measure => simp [intOf]; omega
    · have HO6 : Hid (DOwn wr w.heap.size (.slice p0 i cap0) l) := Lib.hid (by
        have := hown.out
        rw [List.take_of_length_le (show l.length ≤ i by omega)] at this
        unfold DOwn
        rw [show l.length = i by omega]
        exact this)
      have q1 : ¬ (i : Int) < (l.length : Int) := by omega
      have q2 : decide ((i : Int) < (l.length : Int)) = false := by simp; omega
      clear hown
      go_wp2_with fail
      go_ret
      exact ⟨_, rfl, HO6.out, hb.out⟩
end Go.Proofs.YtpphkkelikdhkaaDoor
