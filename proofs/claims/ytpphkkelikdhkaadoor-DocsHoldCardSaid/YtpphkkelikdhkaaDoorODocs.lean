/-
  docs' documents in memory (DocsAt): New, holding, isMade, isOpen, copyOf, keep, Get: what they return, which documents there are then; nothing that was there turns but the documents' map. Conditions: the documents may be (Good).
-/
import Derived.Test.YtpphkkelikdhkaaDoorODir
import Derived.Test.YtpphkkelikdhkaaDoorOPlain
import Derived.Maps.OwnSet
import Derived.StringKeys
import Derived.LaidEqlPtr
import Derived.StillTailTactics
namespace Go.Proofs.YtpphkkelikdhkaaDoor
open Go.RowKit Go.Maps

/-- Nothing that was there has turned but blocks of a kind. -/
structure Fr (X : Nat → Prop) (w w' : World) : Prop where
  os : w'.os = w.os
  tape : w'.tape = w.tape
  output : w'.output = w.output
  size : w.heap.size ≤ w'.heap.size
  block : ∀ k, k < w.heap.size → ¬ X k → w'.heap[k]? = w.heap[k]?
theorem Fr.refl (X : Nat → Prop) (w : World) : Fr X w w := ⟨rfl, rfl, rfl, Nat.le_refl _, fun _ _ _ => rfl⟩
theorem Fr.trans {X : Nat → Prop} {a b c : World} (h : Fr X a b) (k : Fr X b c) : Fr X a c :=
  ⟨k.os.trans h.os, k.tape.trans h.tape, k.output.trans h.output, Nat.le_trans h.size k.size, fun i hi hx => (k.block i (Nat.lt_of_lt_of_le hi h.size) hx).trans (h.block i hi hx)⟩
theorem Fr.mono {X Y : Nat → Prop} {a b : World} (h : Fr X a b) (hxy : ∀ k, k < a.heap.size → X k → Y k) : Fr Y a b :=
  ⟨h.os, h.tape, h.output, h.size, fun k hk hy => h.block k hk (fun hx => hy (hxy k hk hx))⟩
theorem Fr.of_below {X : Nat → Prop} {a b : World} (h : Below a.heap.size a b) : Fr X a b := ⟨h.os, h.tape, h.output, h.size, fun k hk _ => h.block k hk⟩
theorem Fr.to_below {X : Nat → Prop} {B : Nat} {a b : World} (h : Fr X a b) (hB : B ≤ a.heap.size) (hx : ∀ k, X k → B ≤ k) : Below B a b :=
  ⟨h.os, h.tape, h.output, h.size, fun k hk => h.block k (Nat.lt_of_lt_of_le hk hB) (fun hc => by have := hx k hc; omega)⟩
theorem Fr.of_grown {w w' : World} {b : Nat} (h : w.grownBy w' (some b)) : Fr (· = b) w w' :=
  ⟨h.os, h.tape, h.output, h.size, fun k hk hx => h.block k hk (fun e => hx (Option.some.inj e))⟩
theorem Fr.heap {X : Nat → Prop} {w w' : World} {k : Nat} {o : Obj} (h : Fr X w w') (hx : ¬ X k) (hk : w.heap[k]? = some o) : w'.heap[k]? = some o := by
  rw [h.block k (heap_lt hk) hx]
  exact hk
theorem lawS : Keyed Tryd.prog 9 := string_keyed Tryd.underlying9
theorem zeroD (w : World) : (zeroValue 38).run Tryd.prog w = .ok (docV zeroDc) w := by kernel_rfl
abbrev OwnsD (w : World) (b n : Nat) (l : List Dc) : Prop := w.ownsMap Tryd.prog 9 docR b n (Dm l)
/-- Documents that may be. -/
structure Good (l : List Dc) : Prop where
  len : l.length ≤ 32
  each : ∀ d ∈ l, d.u.size ≤ 1000000 ∧ d.t.size ≤ 65536 ∧ dirB d.k = true
/-- Documents in memory: their own block, their map's, which they are. -/
structure DocsAt (W : World) (b mb : Nat) (l : List Dc) : Prop where
  own : W.heap[b]? = some (.cells #[.pointer (some ⟨b, 0, none⟩), .map (some mb)] 59 (0, 0))
  map : ∃ n, OwnsD W mb n l
  good : Good l
theorem DocsAt.ne {W : World} {b mb : Nat} {l : List Dc} (h : DocsAt W b mb l) : b ≠ mb := by
  rintro rfl
  obtain ⟨n, es, clock, hb, _⟩ := h.map
  rw [h.own] at hb
  cases hb
theorem owns_keep {W W' : World} {b n : Nat} {l : List Dc} (h : OwnsD W b n l) (hs : W'.heap[b]? = W.heap[b]?) : OwnsD W' b n l := by
  obtain ⟨es, clock, h1, F, hs2, hD⟩ := h
  exact ⟨es, clock, hs.trans h1, F, hs2, hD⟩
theorem DocsAt.keep {X : Nat → Prop} {W W' : World} {b mb : Nat} {l : List Dc} (h : DocsAt W b mb l) (hf : Fr X W W') (h1 : ¬ X b) (h2 : ¬ X mb) : DocsAt W' b mb l := by
  obtain ⟨n, ho⟩ := h.map
  exact ⟨hf.heap h1 h.own, ⟨n, owns_keep ho (hf.block mb ho.lt h2)⟩, h.good⟩
theorem DocsAt.below {W W' : World} {b mb : Nat} {l : List Dc} (h : DocsAt W b mb l) (hb : Below W.heap.size W W') : DocsAt W' b mb l :=
  h.keep (X := fun _ => False) (Fr.of_below hb) (fun h => h) (fun h => h)
theorem owns_tight {W : World} {b n : Nat} {l : List Dc} (h : OwnsD W b n l) : OwnsD W b l.length l := by
  obtain ⟨es, clock, h1, F, hs2, hD⟩ := h
  refine ⟨es, clock, h1, F, ?_, hD⟩
  have := congrArg Maps.size hD
  rw [size_Dm] at this
  rw [this]
  simp [Maps.size, length_sorted]
theorem owns_rise {W : World} {b n : Nat} {l : List Dc} (h : OwnsD W b n l) : Rise l := by
  obtain ⟨es, he, hp, _⟩ := World.ownsMap.canon h lawS
  unfold Dm at he
  injection he with he
  rw [← he, List.pairwise_map] at hp
  exact hp
theorem key_mk (u : ByteArray) (hu : u.size ≤ 1000000) : keyOf Tryd.prog 9 (.string u) = some (.string u.data.toList) :=
  Go.WideMaps.keyOf_string_mk Tryd.underlying9 (by unfold maxLen; omega)
/-- The document of a URI, or none. -/
def docOr (l : List Dc) (x : List UInt8) : Dc := (getD? l x).getD zeroDc
theorem doc_look {w : World} {b n : Nat} {l : List Dc} (h : OwnsD w b n l) (u : ByteArray) (hu : u.size ≤ 1000000) :
    (Instr.lookup 57 (.map (some b)) (.string u) true).run Tryd.prog w = .ok (.tuple #[docV (docOr l u.data.toList), .bool (hasD l u.data.toList)]) w := by
  obtain ⟨v, ps, h1, h2⟩ := World.ownsMap.look_ok h lawS Tryd.underlying57 (zeroD w) (docR_mk zeroDc) (key_mk u hu)
  rw [at_Dm] at h2
  obtain ⟨rfl, _⟩ := docR_inv h2
  rw [has_Dm] at h1
  exact h1
theorem doc_look1 {w : World} {b n : Nat} {l : List Dc} (h : OwnsD w b n l) (u : ByteArray) (hu : u.size ≤ 1000000) :
    (Instr.lookup 57 (.map (some b)) (.string u) false).run Tryd.prog w = .ok (docV (docOr l u.data.toList)) w := by
  obtain ⟨v, ps, h1, h2⟩ := World.ownsMap.lookup h lawS Tryd.underlying57 (zeroD w) (docR_mk zeroDc) (key_mk u hu)
  rw [at_Dm] at h2
  obtain ⟨rfl, _⟩ := docR_inv h2
  exact h1
theorem doc_store {w : World} {b n : Nat} {l : List Dc} (h : OwnsD w b n l) (hl : l.length ≤ 1000) (d : Dc) (hu : d.u.size ≤ 1000000) :
    ∃ w', (Instr.mapUpdate 57 (.map (some b)) (.string d.u) (docV d)).run Tryd.prog w = .ok () w' ∧ (∃ n, OwnsD w' b n (putD l d)) ∧ Fr (· = b) w w' := by
  obtain ⟨w', h1, h2, h3⟩ := World.ownsMap.update (owns_tight h) lawS Tryd.underlying57 (by unfold maxLen; omega) (key_mk d.u hu) (docR_mk d)
  have := put_Dm l d
  unfold Dc.k at this
  rw [this] at h2
  exact ⟨w', h1, ⟨_, h2⟩, Fr.of_grown h3⟩
theorem doc_len {w : World} {b n : Nat} {l : List Dc} (h : OwnsD w b n l) (ty : TypeId) : (Builtin.len_ #[57] ty #[.map (some b)]).run Tryd.prog w = .ok (.int .i64 l.length) w := by
  have := World.ownsMap.len h Tryd.underlying57 ty
  rw [size_Dm] at this
  exact this
theorem doc_drop {w : World} {b n : Nat} {l : List Dc} (h : OwnsD w b n l) (u : ByteArray) (hu : u.size ≤ 1000000) (ty : TypeId) :
    ∃ w', (Builtin.delete_ #[57, 9] ty #[.map (some b), .string u]).run Tryd.prog w = .ok (.tuple #[]) w' ∧ (∃ n, OwnsD w' b n (delD l u.data.toList)) ∧ Fr (· = b) w w' := by
  obtain ⟨w', h1, h2, h3⟩ := World.ownsMap.drop h lawS Tryd.underlying57 (key_mk u hu) ty
  rw [del_Dm] at h2
  exact ⟨w', h1, ⟨_, h2⟩, Fr.of_grown h3.grown⟩
set_option maxRecDepth 100000 in
theorem holding_any (mb : Nat) (w : World) : Calls Tryd.prog 35 #[.map (some mb)] w fun e w' => e = .returned (.pointer (some ⟨w.heap.size, 0, none⟩)) ∧ w' = w.alloc (.cells #[.pointer (some ⟨w.heap.size, 0, none⟩), .map (some mb)] 59) := by
  go_enter Tryd.func35, Tryd.ntmps35
  go_wp2_with fail
  go_ret
  exact ⟨rfl, rfl⟩
theorem new_any (w : World) : Calls Tryd.prog 12 #[] w fun e w' => e = .returned (.pointer (some ⟨w.heap.size + 1, 0, none⟩)) ∧ DocsAt w' (w.heap.size + 1) w.heap.size [] ∧ Below w.heap.size w w' := by
  have hmm := @run_makeMap Tryd.prog
  go_enter Tryd.func12, Tryd.ntmps12
  go_wp2_with fail
  refine (holding_any w.heap.size _).mono ?_
  rintro e w1 ⟨rfl, rfl⟩
  go_wp2_with fail
  go_ret
  refine ⟨rfl, ⟨?_, ⟨0, ?_⟩, ⟨Nat.zero_le _, fun d hd => by simp at hd⟩⟩, (alloc_below w _).trans ((alloc_below _ _).mono (by rw [World.size_alloc]; omega))⟩
  · have := alloc_top (w.alloc (.map #[] 0)) #[.pointer (some ⟨w.heap.size + 1, 0, none⟩), .map (some w.heap.size)] 59
    rw [World.size_alloc] at this
    exact this
  · exact (World.ownsMap_made (H := Unit) w Tryd.prog 9 docR).alloc _
theorem docsInfo : ∃ j, Tryd.prog.info? 59 = some j := Option.isSome_iff_exists.1 (by kernel_rfl)
set_option maxRecDepth 100000 in
theorem isMade_any (b mb : Nat) (l : List Dc) (w : World) (h : DocsAt w b mb l) : Calls Tryd.prog 36 #[.pointer (some ⟨b, 0, none⟩)] w fun e w' => e = .returned (.bool true) ∧ w = w' := by
  have c0 := cell_at (i := 0) h.own
  clear h
  obtain ⟨j, hj⟩ := docsInfo
  have he := fun w => run_eql_ptr_same (P := Tryd.prog) (w := w) (tp := 31) (⟨b, 0, none⟩ : Addr) Tryd.underlying31 hj
  go_enter Tryd.func36, Tryd.ntmps36
  go_wp2_with fail
  go_ret
  exact ⟨rfl, rfl⟩
set_option maxRecDepth 100000 in
theorem isOpen_any (b mb : Nat) (l : List Dc) (u : ByteArray) (hu : u.size ≤ 1000000) (w : World) (h : DocsAt w b mb l) : Calls Tryd.prog 38 #[.pointer (some ⟨b, 0, none⟩), .string u] w fun e w' => e = .returned (.bool (hasD l u.data.toList)) ∧ Below w.heap.size w w' := by
  have c1 := cell_at (i := 1) h.own
  obtain ⟨n, ho⟩ := h.map
  have hk := doc_look ho u hu
  unfold docV at hk
  clear h ho
  generalize docOr l u.data.toList = d at *
  generalize hasD l u.data.toList = x at *
  go_enter Tryd.func38, Tryd.ntmps38
  go_wp2_with fail
  go_ret
  exact ⟨rfl, alloc_below _ _⟩
/-- What a struct in memory is, loaded. -/
theorem load_doc {N : Nat} {a b c : Value} {wq : World} {T : TypeId} (hg : wq.heap[N]? = some (.cells #[a, b, c] T (0, 0))) : (loadVar 38 ⟨N, 0, none⟩).run Tryd.prog wq = .ok (.agg #[a, b, c]) wq :=
  run_loadVar_row (P := Tryd.prog) wq N T 38 #[a, b, c] (0, 0) _ hg Tryd.underlying38 rfl (by kernel_rfl)
set_option maxRecDepth 100000 in
set_option maxHeartbeats 1000000 in
theorem copyOf_any (d : Dc) (hu : d.u.size ≤ 1000000) (ht : d.t.size ≤ 1000000) (w : World) : Calls Tryd.prog 41 #[docV d] w fun e w' => e = .returned (docV d) ∧ Below w.heap.size w w' := by
  obtain ⟨u, t, v⟩ := d
  unfold docV
  simp only at hu ht ⊢
  go_enter Tryd.func41, Tryd.ntmps41
  go_wp2_with fail
  refine (clone_any u hu _).mono ?_
  rintro e w1 ⟨rfl, hb⟩
  have h0 : ((w.alloc (.cells #[.string u, .string t, .int .i64 v] 38)).alloc (.cells #[.string ⟨#[]⟩, .string ⟨#[]⟩, .int .i64 0] 38)).heap[w.heap.size]? = some (.cells #[.string u, .string t, .int .i64 v] 38 (0, 0)) := heap_keep (alloc_below _ _) (alloc_top w _ _)
  have hr : ((w.alloc (.cells #[.string u, .string t, .int .i64 v] 38)).alloc (.cells #[.string ⟨#[]⟩, .string ⟨#[]⟩, .int .i64 0] 38)).heap[w.heap.size + 1]? = some (.cells #[.string ⟨#[]⟩, .string ⟨#[]⟩, .int .i64 0] 38 (0, 0)) := by
    have := alloc_top (w.alloc (.cells #[.string u, .string t, .int .i64 v] 38)) #[.string ⟨#[]⟩, .string ⟨#[]⟩, .int .i64 0] 38
    rw [World.size_alloc] at this
    exact this
  have h1 := heap_keep hb h0
  have h2 := heap_keep hb hr
  have HB : Hid (Below w.heap.size w w1) := Lib.hid (((alloc_below w _).trans ((alloc_below _ _).mono (by simp))).trans (hb.mono (by simp; omega)))
  have c0 := cell_at (i := 0) h1
  have c1 := cell_at (i := 1) h1
  have c2 := cell_at (i := 2) h1
  have z0 := frozen_of_row w1 w.heap.size 0 _ _ h1
  have z1 := frozen_of_row w1 w.heap.size 1 _ _ h1
  have z2 := frozen_of_row w1 w.heap.size 2 _ _ h1
  have H1 := Lib.hid h1
  have H2 := Lib.hid h2
  clear hb h0 hr h1 h2
  go_wp2_with fail
  refine (clone_any t ht _).mono ?_
  rintro e w2 ⟨rfl, hb⟩
  have k1 := heap_keep hb (heap_setCell_same w1 w.heap.size 0 _ _ (.string u) H1.out)
  have k2 := heap_keep hb ((Below.heap_setCell w1 ⟨w.heap.size, 0, none⟩ (.string u) (w.heap.size + 1) (by simp)).trans H2.out)
  have HB2 : Hid (Below w.heap.size w w2) := Lib.hid ((HB.out.setCell (p := ⟨w.heap.size, 0, none⟩) (Nat.le_refl _) (.string u)).trans (hb.mono (by have := HB.out.size; simpa [World.setCell] using this)))
  clear c0 c1 c2 z0 z1 z2 H1 H2 HB hb
  have c0 := cell_at (i := 0) k1
  have c1 := cell_at (i := 1) k1
  have c2 := cell_at (i := 2) k1
  have z0 := frozen_of_row w2 w.heap.size 0 _ _ k1
  have z1 := frozen_of_row w2 w.heap.size 1 _ _ k1
  have z2 := frozen_of_row w2 w.heap.size 2 _ _ k1
  have r0 := frozen_of_row w2 (w.heap.size + 1) 0 _ _ k2
  have r1 := frozen_of_row w2 (w.heap.size + 1) 1 _ _ k2
  have r2 := frozen_of_row w2 (w.heap.size + 1) 2 _ _ k2
  have q0 := cell_at (i := 0) k2
  have q1 := cell_at (i := 1) k2
  have q2 := cell_at (i := 2) k2
  have K1 := Lib.hid k1
  have K2 := Lib.hid k2
  clear k1 k2
  go_wp2_with fail
  have hz := heap_setCell_same _ (w.heap.size + 1) 2 _ _ (.int .i64 v) (heap_setCell_same _ (w.heap.size + 1) 1 _ _ (.string t) (heap_setCell_same _ (w.heap.size + 1) 0 _ _ (.string u) ((Below.heap_setCell w2 ⟨w.heap.size, 1, none⟩ (.string t) (w.heap.size + 1) (by simp)).trans K2.out)))
  have g0 := cell_at (i := 0) hz
  have g1 := cell_at (i := 1) hz
  have g2 := cell_at (i := 2) hz
  have HB3 := (((HB2.out.setCell (p := ⟨w.heap.size, 1, none⟩) (Nat.le_refl _) (.string t)).setCell (p := ⟨w.heap.size + 1, 0, none⟩) (Nat.le_succ _) (.string u)).setCell (p := ⟨w.heap.size + 1, 1, none⟩) (Nat.le_succ _) (.string t)).setCell (p := ⟨w.heap.size + 1, 2, none⟩) (Nat.le_succ _) (.int .i64 v)
  refine bodyPost_ret (v := .agg #[.string u, .string t, .int .i64 v]) ?_ rfl ⟨rfl, HB3⟩
  simp [results, Tryd.f41, go_sem, g0, g1, g2]
set_option maxRecDepth 100000 in
set_option maxHeartbeats 1000000 in
theorem keep_any (b mb : Nat) (l : List Dc) (d : Dc) (hu : d.u.size ≤ 1000000) (ht : d.t.size ≤ 1000000) (hg : Good (putD l d)) (w : World) (h : DocsAt w b mb l) : Calls Tryd.prog 39 #[.pointer (some ⟨b, 0, none⟩), docV d] w fun e w' => e = .returned (.tuple #[]) ∧ DocsAt w' b mb (putD l d) ∧ Fr (· = mb) w w' := by
  have HC := Lib.hid (copyOf_any d hu ht)
  have H := Lib.hid h
  have hlen := h.good.len
  have HG := Lib.hid hg
  clear h hg
  unfold docV at HC ⊢
  go_enter Tryd.func39, Tryd.ntmps39
  go_wp2_with fail
  refine (HC.out _).mono ?_
  rintro e w1 ⟨rfl, hb⟩
  have hb0 : Below w.heap.size w w1 := (alloc_below w _).trans (hb.mono (by simp))
  have h1 := (H.out.below hb0).below (alloc_below w1 (.cells #[.string d.u, .string d.t, .int .i64 d.v] 38))
  have c1 := cell_at (i := 1) h1.own
  have HT := Lib.hid (alloc_top w1 #[.string d.u, .string d.t, .int .i64 d.v] 38)
  have HB : Hid (Fr (· = mb) w (w1.alloc (.cells #[.string d.u, .string d.t, .int .i64 d.v] 38))) := Lib.hid (Fr.of_below (hb0.alloc hb0.size _))
  have H1 := Lib.hid h1
  clear H HC hb h1 hb0
  go_wp2_with fail
  have t0 := cell_at (i := 0) HT.out
  have t1 := cell_at (i := 1) HT.out
  have t2 := cell_at (i := 2) HT.out
  generalize w1.alloc (.cells #[.string d.u, .string d.t, .int .i64 d.v] 38) = W at *
  go_still_tail 7, (by kernel_rfl)
  change wpList _ _ _ _ _ W.drew
  obtain ⟨n, ho⟩ := H1.out.map
  obtain ⟨w2, hst, ⟨n2, ho2⟩, hf⟩ := doc_store (w := W.drew) ho (by omega) d hu
  unfold docV at hst
  have HF : Hid (Fr (· = mb) w w2) := Lib.hid (HB.out.trans ((Fr.of_below (X := (· = mb)) (a := W) (b := W.drew) ⟨rfl, rfl, rfl, Nat.le_refl _, fun _ _ => rfl⟩).trans hf))
  have HO : Hid (DocsAt w2 b mb (putD l d)) := Lib.hid ⟨hf.heap H1.out.ne H1.out.own, ⟨n2, ho2⟩, HG.out⟩
  clear ho ho2 hf
  go_wp2_with fail
  go_end0
  exact ⟨rfl, HO.out, HF.out⟩
end Go.Proofs.YtpphkkelikdhkaaDoor
