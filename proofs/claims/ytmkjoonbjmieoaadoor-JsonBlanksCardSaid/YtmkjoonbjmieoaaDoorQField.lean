/-
  json's Field AT EVERY VALUE in memory of at most 1000000 (szJ) and any key: the Item of the key, in new memory, or none; nothing that was there turns. Condition: the value's size.
-/
import Derived.Test.YtmkjoonbjmieoaaDoorQCopyOf
namespace Go.Proofs.YtmkjoonbjmieoaaDoor
open Go.RowKit

/-- The Item of an object's key, if there is one. -/
def fieldJ : J → ByteArray → Option J
  | .mk k _ ks l, key => if k = 6 ∧ 0 ≤ Lib.idxOfS (ks.map txt) key then l[(Lib.idxOfS (ks.map txt) key).toNat]? else none
def FieldEnd (o : Option J) (w : World) (e : Ending) (w' : World) : Prop := match o with
  | none => e = .returned (.tuple #[.agg #[.int .i64 0, .string ⟨#[]⟩, .slice none 0 0, .slice none 0 0], .bool false]) ∧ Below w.heap.size w w'
  | some t => ∃ v, e = .returned (.tuple #[v, .bool true]) ∧ JIn w' (fun k => w.heap.size ≤ k) t v ∧ Below w.heap.size w w'
theorem fend_none {o : Option J} (h : o = none) {w w' : World} (hb : Below w.heap.size w w') : FieldEnd o w (.returned (.tuple #[.agg #[.int .i64 0, .string ⟨#[]⟩, .slice none 0 0, .slice none 0 0], .bool false])) w' := by subst h; exact ⟨rfl, hb⟩
theorem fend_some {o : Option J} {t : J} (h : o = some t) {w w' : World} {v : Value} (hj : JIn w' (fun k => w.heap.size ≤ k) t v) (hb : Below w.heap.size w w') : FieldEnd o w (.returned (.tuple #[v, .bool true])) w' := by subst h; exact ⟨v, rfl, hj, hb⟩
theorem index_any (P : Nat → Prop) (ks : List (List UInt8)) (A : Option Addr) (c : Nat) (key : ByteArray) (hn : ks.length ≤ 1000000) (w : World) (h : KIn w P A ks) :
    Calls Tryd.prog 21 #[.slice A ks.length c, .string key] w fun e w' => e = .returned (.int .i64 (Lib.idxOfS (ks.map txt) key)) ∧ w' = w := by
  rcases Nat.eq_zero_or_pos ks.length with h0 | h0
  · obtain rfl := List.eq_nil_of_length_eq_zero h0
    exact Tryd.slices_Index_string_empty A c key w
  · obtain ⟨b, o, rfl, h2⟩ := kin_at h h0
    have := Tryd.slices_Index_string b o ks.length c (ks.map txt) key w (by simp) (by omega) (fun j hj => by
      rw [List.length_map] at hj
      rw [h2 j ks[j] (List.getElem?_eq_getElem hj)]
      simp [List.getD_eq_getElem?_getD, List.getElem?_map, List.getElem?_eq_getElem hj])
    rwa [List.take_of_length_le (by simp)] at this
theorem idxFrom_lt (x : ByteArray) : ∀ (l : List ByteArray) (i : Nat), Lib.idxFromS l x i = -1 ∨ ((i : Int) ≤ Lib.idxFromS l x i ∧ Lib.idxFromS l x i < (i + l.length : Nat))
  | [], i => .inl (by rw [Lib.idxFromS])
  | z :: l, i => by
    rw [Lib.idxFromS]
    split
    · exact .inr ⟨Int.le_refl _, by rw [List.length_cons]; omega⟩
    · rcases idxFrom_lt x l (i + 1) with h | h
      · exact .inl h
      · refine .inr ⟨by omega, by rw [List.length_cons]; omega⟩
theorem idx_lt (l : List ByteArray) (x : ByteArray) : Lib.idxOfS l x = -1 ∨ ∃ n : Nat, Lib.idxOfS l x = n ∧ n < l.length := by
  rcases idxFrom_lt x l 0 with h | h
  · exact .inl h
  · refine .inr ⟨(Lib.idxOfS l x).toNat, ?_, ?_⟩
    · have := h.1; show Lib.idxOfS l x = _; unfold Lib.idxOfS at *; omega
    · have h1 := h.1; have h2 := h.2; unfold Lib.idxOfS; omega
set_option maxRecDepth 100000 in
set_option maxHeartbeats 2000000 in
theorem field_any (P : Nat → Prop) (j : J) (v : Value) (key : ByteArray) (w : World) (hsz : szJ j ≤ 1000000) (hj : JIn w P j v) : Calls Tryd.prog 12 #[v, .string key] w (FieldEnd (fieldJ j key) w) := by
  obtain ⟨RES, hRES⟩ : ∃ r, r = fieldJ j key := ⟨_, rfl⟩
  rw [← hRES]
  obtain ⟨k, s, ks, l⟩ := j
  obtain ⟨ka, kc, ia, ic, rfl, hk, hl⟩ := hj.open
  rw [szJ_eq] at hsz
  have hkl := szK_len ks
  have hll := szL_len l
  have HC := Lib.hid (CS.new w #[.int .i64 k, .string (txt s), .slice ka ks.length kc, .slice ia l.length ic])
  obtain ⟨x0, x1, x2, x3⟩ := tok_cells HC.out.cell
  obtain ⟨z0, z1, z2, z3⟩ := tok_cells HC.out.res
  have f0 := HC.out.rfrozen 0
  have f1 := HC.out.rfrozen 1
  have f2 := HC.out.rfrozen 2
  have f3 := HC.out.rfrozen 3
  have hz1 : ((w.alloc (.cells #[.int .i64 k, .string (txt s), .slice ka ks.length kc, .slice ia l.length ic] 26))).heap.size = w.heap.size + 1 := World.size_alloc ..
  have HN : Hid (w.heap.size ≤ w.heap.size + 1) := Lib.hid (Nat.le_succ _)
  rw [fieldJ] at hRES
  by_cases h6 : k = 6
  · subst h6
    have hnb : ks.length ≤ 1000000 := by omega
    have HI := Lib.hid (fun (W : World) (hb : Below w.heap.size w W) => index_any P ks ka kc key hnb W (hk.below hb))
    have HL := Lib.hid hl
    have HS : Hid (∀ t ∈ l, szJ t ≤ 1000000) := Lib.hid (fun t ht => by have := szL_mem ht; omega)
    have hlb : l.length ≤ 1000000 := by omega
    rcases idx_lt (ks.map txt) key with hi | ⟨n, hi, hn⟩
    · have HR : Hid (RES = none) := Lib.hid (by rw [hRES, hi, if_neg (by omega)])
      rw [hi] at HI
      generalize hkn : ks.length = kn at *
      generalize hln : l.length = ln at *
      clear hj hk hl hsz hkl hll hRES hi hkn hln
      go_enter Tryd.func12, Tryd.ntmps12
      go_wp2_with fail
      refine (HI.out _ HC.out.below).mono ?_
      rintro e w1 ⟨rfl, rfl⟩
      go_wp2_with fail
      exact ret_cell2 (p := 4) (u := 5) rfl _ rfl _ (load_jv (T := 26) HC.out.res) (fend_none HR.out HC.out.below)
    · rw [List.length_map] at hn
      rw [hi] at HI
      have hn0' : ¬ ((n : Nat) : Int) < 0 := by omega
      by_cases hnl : n < l.length
      · obtain ⟨t, ht⟩ : ∃ t, l[n]? = some t := ⟨_, List.getElem?_eq_getElem hnl⟩
        have HR : Hid (RES = some t) := Lib.hid (by rw [hRES, hi, if_pos ⟨rfl, by omega⟩]; simpa using ht)
        obtain ⟨ib, io, rfl, -, hrow⟩ := (hl.below HC.out.below) (by omega)
        obtain ⟨v0, v1, v2, v3, d0, d1, d2, d3, hjt⟩ := hrow.at ht
        have HO := Lib.hid (copyOf_any 1000000 t (HS.out t (List.mem_of_getElem? ht)) (Nat.le_refl _) P _ _ hjt)
        have hge : ¬ (l.length : Int) ≤ (n : Int) := by omega
        generalize hkn : ks.length = kn at *
        generalize hln : l.length = ln at *
        have hlt : (n : Int) < (ln : Int) := by omega
        clear hj hk hl hsz hkl hll hRES hi hkn hln ht hrow hjt hnb hlb hn hnl
        go_enter Tryd.func12, Tryd.ntmps12
        go_wp2_with fail
        refine (HI.out _ HC.out.below).mono ?_
        rintro e w1 ⟨rfl, rfl⟩
        go_wp2_with fail
        refine HO.out.mono ?_
        rintro e w2 ⟨v', rfl, hjv, hb⟩
        obtain ⟨k2, s2, A4, n2, c4, B2, m2, g2, rfl⟩ := jin_form hjv
        have HC2 := Lib.hid (HC.out.step hb)
        have HJ2 := Lib.hid hjv
        clear hb hjv z0 z1 z2 z3 f0 f1 f2 f3 x0 x1 x2 x3 d0 d1 d2 d3
        obtain ⟨z0, z1, z2, z3⟩ := tok_cells HC2.out.res
        have f0 := HC2.out.rfrozen 0
        have f1 := HC2.out.rfrozen 1
        have f2 := HC2.out.rfrozen 2
        have f3 := HC2.out.rfrozen 3
        go_wp2_with fail
        refine ret_cell2 (p := 4) (u := 5) rfl _ rfl _ (load_jv (T := 26) (set4J_heap (o := 0) HC2.out.res _ _ _ _)) (fend_some HR.out (JIn.keep (W := w2) (P := fun b => w.heap.size + 2 ≤ b) (fun b hb _ => set4J_other (by omega) _ _ _ _) (fun b hb _ => by omega) _ _ (jin_more HJ2.out (fun b hb => ?_))) ?_)
        · have hz : ((w.alloc (.cells #[.int .i64 6, .string (txt s), .slice ka kn kc, .slice (some ⟨ib, io, none⟩) ln ic] 26)).alloc (.cells #[.int .i64 0, .string ⟨#[]⟩, .slice none 0 0, .slice none 0 0] 26)).heap.size = w.heap.size + 2 := by
            rw [World.size_alloc, World.size_alloc]
          rw [hz] at hb; exact hb
        · exact (((HC2.out.below.setCell (p := ⟨w.heap.size + 1, 0, none⟩) HN.out _).setCell (p := ⟨w.heap.size + 1, 1, none⟩) HN.out _).setCell (p := ⟨w.heap.size + 1, 2, none⟩) HN.out _).setCell (p := ⟨w.heap.size + 1, 3, none⟩) HN.out _
      · have HR : Hid (RES = none) := Lib.hid (by rw [hRES, hi, if_pos ⟨rfl, by omega⟩]; simp; omega)
        have hge : (l.length : Int) ≤ (n : Int) := by omega
        generalize hkn : ks.length = kn at *
        generalize hln : l.length = ln at *
        clear hj hk hl hsz hkl hll hRES hi hkn hln hnl
        go_enter Tryd.func12, Tryd.ntmps12
        go_wp2_with fail
        refine (HI.out _ HC.out.below).mono ?_
        rintro e w1 ⟨rfl, rfl⟩
        go_wp2_with fail
        exact ret_cell2 (p := 4) (u := 5) rfl _ rfl _ (load_jv (T := 26) HC.out.res) (fend_none HR.out HC.out.below)
  · have HR : Hid (RES = none) := Lib.hid (by rw [hRES, if_neg (fun h => h6 h.1)])
    have g6 : (k != 6) = true := by simpa using h6
    generalize ks.length = kn at *
    generalize l.length = ln at *
    clear hj hk hl hsz hkl hll hRES h6
    go_enter Tryd.func12, Tryd.ntmps12
    go_wp2_with fail
    exact ret_cell2 (p := 4) (u := 5) rfl _ rfl _ (load_jv (T := 26) HC.out.res) (fend_none HR.out HC.out.below)
end Go.Proofs.YtmkjoonbjmieoaaDoor
