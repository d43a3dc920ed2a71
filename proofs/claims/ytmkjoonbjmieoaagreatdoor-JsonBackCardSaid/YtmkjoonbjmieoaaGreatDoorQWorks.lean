/-
  json's Field AT EVERY VALUE in memory of at most 1000000 (szJ) and any key: the Item of the key, in new memory, or none; nothing that was there turns. Condition: the value's size.
  emendlaw04.works is true. Condition: the variables that are read hold what their text lays (Facts).
-/
import Derived.Test.YtmkjoonbjmieoaaGreatDoorQCopyOf
namespace Go.Proofs.YtmkjoonbjmieoaaGreatDoor
open Go.RowKit

/-- The Item of an object's key, if there is one. -/
def fieldJ : J → ByteArray → Option J
  | .mk k _ ks l, key => if k = 6 ∧ 0 ≤ Lib.idxOfS (ks.map txt) key then l[(Lib.idxOfS (ks.map txt) key).toNat]? else none
def FieldEnd (o : Option J) (w : World) (e : Ending) (w' : World) : Prop := match o with
  | none => e = .returned (.tuple #[.agg #[.int .i64 0, .string ⟨#[]⟩, .slice none 0 0, .slice none 0 0], .bool false]) ∧ Below w.heap.size w w'
  | some t => ∃ v, e = .returned (.tuple #[v, .bool true]) ∧ JIn w' (fun k => w.heap.size ≤ k) t v ∧ Below w.heap.size w w'
theorem fend_none {o : Option J} (h : o = none) {w w' : World} (hb : Below w.heap.size w w') : FieldEnd o w (.returned (.tuple #[.agg #[.int .i64 0, .string ⟨#[]⟩, .slice none 0 0, .slice none 0 0], .bool false])) w' := by subst h; exact ⟨rfl, hb⟩
theorem fend_some {o : Option J} {t : J} (h : o = some t) {w w' : World} {v : Value} (hj : JIn w' (fun k => w.heap.size ≤ k) t v) (hb : Below w.heap.size w w') : FieldEnd o w (.returned (.tuple #[v, .bool true])) w' := by subst h; exact ⟨v, rfl, hj, hb⟩
theorem index_any (P : Nat → Prop) (ks : List (List UInt8)) (A : Option Addr) (c : Nat) (key : ByteArray) (hn : ks.length ≤ 1000000) (w : World) (h : KIn w P A ks) :
    Calls Tryz.prog 46 #[.slice A ks.length c, .string key] w fun e w' => e = .returned (.int .i64 (Lib.idxOfS (ks.map txt) key)) ∧ w' = w := by
  rcases Nat.eq_zero_or_pos ks.length with h0 | h0
  · obtain rfl := List.eq_nil_of_length_eq_zero h0
    exact Tryz.slices_Index_string_empty A c key w
  · obtain ⟨b, o, rfl, h2⟩ := kin_at h h0
    have := Tryz.slices_Index_string b o ks.length c (ks.map txt) key w (by simp) (by omega) (fun j hj => by
      rw [List.length_map] at hj
      rw [h2 j ks[j] (List.getElem?_eq_getElem hj)]
      simp [List.getD_eq_getElem?_getD, List.getElem?_map, List.getElem?_eq_getElem hj])
    rwa [List.take_of_length_le (by simp)] at this
theorem idxFrom_lt (x : ByteArray) : ∀ (l : List ByteArray) (i : Nat), Lib.idxFromS l x i = -1 ∨ ((i : Int) ≤ Lib.idxFromS l x i ∧ Lib.idxFromS l x i < (i + l.length : Nat))
  | [], i => .inl (by rw [Lib.idxFromS])
  | z :: l, i => by
    rw [Lib.idxFromS]
    split
    · exact .inr ⟨Int.le_refl _, by rw [List.length_cons]; omega⟩
    · rcases idxFrom_lt x l (i + 1) with h | h
      · exact .inl h
      · refine .inr ⟨by omega, by rw [List.length_cons]; omega⟩
theorem idx_lt (l : List ByteArray) (x : ByteArray) : Lib.idxOfS l x = -1 ∨ ∃ n : Nat, Lib.idxOfS l x = n ∧ n < l.length := by
  rcases idxFrom_lt x l 0 with h | h
  · exact .inl h
  · refine .inr ⟨(Lib.idxOfS l x).toNat, ?_, ?_⟩
    · have := h.1; show Lib.idxOfS l x = _; unfold Lib.idxOfS at *; omega
    · have h1 := h.1; have h2 := h.2; unfold Lib.idxOfS; omega
set_option maxRecDepth 100000 in
set_option maxHeartbeats 2000000 in
theorem field_any (P : Nat → Prop) (j : J) (v : Value) (key : ByteArray) (w : World) (hsz : szJ j ≤ 1000000) (hj : JIn w P j v) : Calls Tryz.prog 20 #[v, .string key] w (FieldEnd (fieldJ j key) w) := by
  obtain ⟨RES, hRES⟩ : ∃ r, r = fieldJ j key := ⟨_, rfl⟩
  rw [← hRES]
  obtain ⟨k, s, ks, l⟩ := j
  obtain ⟨ka, kc, ia, ic, rfl, hk, hl⟩ := hj.open
  rw [szJ_eq] at hsz
  have hkl := szK_len ks
  have hll := szL_len l
  have HC := Lib.hid (CS.new w #[.int .i64 k, .string (txt s), .slice ka ks.length kc, .slice ia l.length ic])
  obtain ⟨x0, x1, x2, x3⟩ := tok_cells HC.out.cell
  obtain ⟨z0, z1, z2, z3⟩ := tok_cells HC.out.res
  have f0 := HC.out.rfrozen 0
  have f1 := HC.out.rfrozen 1
  have f2 := HC.out.rfrozen 2
  have f3 := HC.out.rfrozen 3
  have hz1 : ((w.alloc (.cells #[.int .i64 k, .string (txt s), .slice ka ks.length kc, .slice ia l.length ic] 25))).heap.size = w.heap.size + 1 := World.size_alloc ..
  have HN : Hid (w.heap.size ≤ w.heap.size + 1) := Lib.hid (Nat.le_succ _)
  rw [fieldJ] at hRES
  by_cases h6 : k = 6
  · subst h6
    have hnb : ks.length ≤ 1000000 := by omega
    have HI := Lib.hid (fun (W : World) (hb : Below w.heap.size w W) => index_any P ks ka kc key hnb W (hk.below hb))
    have HL := Lib.hid hl
    have HS : Hid (∀ t ∈ l, szJ t ≤ 1000000) := Lib.hid (fun t ht => by have := szL_mem ht; omega)
    have hlb : l.length ≤ 1000000 := by omega
    rcases idx_lt (ks.map txt) key with hi | ⟨n, hi, hn⟩
    · have HR : Hid (RES = none) := Lib.hid (by rw [hRES, hi, if_neg (by omega)])
      rw [hi] at HI
      generalize hkn : ks.length = kn at *
      generalize hln : l.length = ln at *
      clear hj hk hl hsz hkl hll hRES hi hkn hln
      go_enter Tryz.func20, Tryz.ntmps20
      go_wp2_with fail
      refine (HI.out _ HC.out.below).mono ?_
      rintro e w1 ⟨rfl, rfl⟩
      go_wp2_with fail
      exact ret_cell2 (p := 4) (u := 5) rfl _ rfl _ (load_jv (T := 25) HC.out.res) (fend_none HR.out HC.out.below)
    · rw [List.length_map] at hn
      rw [hi] at HI
      have hn0' : ¬ ((n : Nat) : Int) < 0 := by omega
      by_cases hnl : n < l.length
      · obtain ⟨t, ht⟩ : ∃ t, l[n]? = some t := ⟨_, List.getElem?_eq_getElem hnl⟩
        have HR : Hid (RES = some t) := Lib.hid (by rw [hRES, hi, if_pos ⟨rfl, by omega⟩]; simpa using ht)
        obtain ⟨ib, io, rfl, -, hrow⟩ := (hl.below HC.out.below) (by omega)
        obtain ⟨v0, v1, v2, v3, d0, d1, d2, d3, hjt⟩ := hrow.at ht
        have HO := Lib.hid (copyOf_any 1000000 t (HS.out t (List.mem_of_getElem? ht)) (Nat.le_refl _) P _ _ hjt)
        have hge : ¬ (l.length : Int) ≤ (n : Int) := by omega
        generalize hkn : ks.length = kn at *
        generalize hln : l.length = ln at *
        have hlt : (n : Int) < (ln : Int) := by omega
        clear hj hk hl hsz hkl hll hRES hi hkn hln ht hrow hjt hnb hlb hn hnl
        go_enter Tryz.func20, Tryz.ntmps20
        go_wp2_with fail
        refine (HI.out _ HC.out.below).mono ?_
        rintro e w1 ⟨rfl, rfl⟩
        go_wp2_with fail
        refine HO.out.mono ?_
        rintro e w2 ⟨v', rfl, hjv, hb⟩
        obtain ⟨k2, s2, A4, n2, c4, B2, m2, g2, rfl⟩ := jin_form hjv
        have HC2 := Lib.hid (HC.out.step hb)
        have HJ2 := Lib.hid hjv
        clear hb hjv z0 z1 z2 z3 f0 f1 f2 f3 x0 x1 x2 x3 d0 d1 d2 d3
        obtain ⟨z0, z1, z2, z3⟩ := tok_cells HC2.out.res
        have f0 := HC2.out.rfrozen 0
        have f1 := HC2.out.rfrozen 1
        have f2 := HC2.out.rfrozen 2
        have f3 := HC2.out.rfrozen 3
        go_wp2_with fail
        refine ret_cell2 (p := 4) (u := 5) rfl _ rfl _ (load_jv (T := 25) (set4J_heap (o := 0) HC2.out.res _ _ _ _)) (fend_some HR.out (JIn.keep (W := w2) (P := fun b => w.heap.size + 2 ≤ b) (fun b hb _ => set4J_other (by omega) _ _ _ _) (fun b hb _ => by omega) _ _ (jin_more HJ2.out (fun b hb => ?_))) ?_)
        · have hz : ((w.alloc (.cells #[.int .i64 6, .string (txt s), .slice ka kn kc, .slice (some ⟨ib, io, none⟩) ln ic] 25)).alloc (.cells #[.int .i64 0, .string ⟨#[]⟩, .slice none 0 0, .slice none 0 0] 25)).heap.size = w.heap.size + 2 := by
            rw [World.size_alloc, World.size_alloc]
          rw [hz] at hb; exact hb
        · exact (((HC2.out.below.setCell (p := ⟨w.heap.size + 1, 0, none⟩) HN.out _).setCell (p := ⟨w.heap.size + 1, 1, none⟩) HN.out _).setCell (p := ⟨w.heap.size + 1, 2, none⟩) HN.out _).setCell (p := ⟨w.heap.size + 1, 3, none⟩) HN.out _
      · have HR : Hid (RES = none) := Lib.hid (by rw [hRES, hi, if_pos ⟨rfl, by omega⟩]; simp; omega)
        have hge : (l.length : Int) ≤ (n : Int) := by omega
        generalize hkn : ks.length = kn at *
        generalize hln : l.length = ln at *
        clear hj hk hl hsz hkl hll hRES hi hkn hln hnl
        go_enter Tryz.func20, Tryz.ntmps20
        go_wp2_with fail
        refine (HI.out _ HC.out.below).mono ?_
        rintro e w1 ⟨rfl, rfl⟩
        go_wp2_with fail
        exact ret_cell2 (p := 4) (u := 5) rfl _ rfl _ (load_jv (T := 25) HC.out.res) (fend_none HR.out HC.out.below)
  · have HR : Hid (RES = none) := Lib.hid (by rw [hRES, if_neg (fun h => h6 h.1)])
    have g6 : (k != 6) = true := by simpa using h6
    generalize ks.length = kn at *
    generalize l.length = ln at *
    clear hj hk hl hsz hkl hll hRES h6
    go_enter Tryz.func20, Tryz.ntmps20
    go_wp2_with fail
    exact ret_cell2 (p := 4) (u := 5) rfl _ rfl _ (load_jv (T := 25) HC.out.res) (fend_none HR.out HC.out.below)
end Go.Proofs.YtmkjoonbjmieoaaGreatDoor
namespace Go.Proofs.YtmkjoonbjmieoaaGreatDoor
open Go.RowKit

/-- The chapter's first text. -/
def firstL : List UInt8 := [123, 34, 98, 34, 58, 91, 49, 44, 116, 114, 117, 101, 93, 44, 34, 97, 34, 58, 110, 117, 108, 108, 125]
def firstJ : J := .mk 6 [] [[98], [97]] [.mk 5 [] [] [.mk 3 [49] [] [], .mk 2 [] [] []], .mk 0 [] [] []]
set_option maxRecDepth 100000 in
theorem first_parse : parseR firstL = .ok firstJ := by kernel_rfl
set_option maxRecDepth 100000 in
theorem first_text : textJ firstJ = firstL := by rfl
theorem first_put : putJ firstJ = (firstL, 0) := by
  unfold putJ
  rw [parse_may first_parse, if_pos rfl, first_text]
set_option maxRecDepth 100000 in
theorem first_field : fieldJ firstJ ⟨#[98]⟩ = some (.mk 5 [] [] [.mk 3 [49] [] [], .mk 2 [] [] []]) := by rfl
theorem jparse_yes (s : ByteArray) (hs : s.size ≤ 1000000) {j : J} (h : parseR s.data.toList = .ok j) (w : World) (hF : Facts w) : Calls Tryz.prog 17 #[.string s] w fun e w' => ∃ v, e = .returned (.tuple #[v, .int .i64 0]) ∧ JIn w' (fun k => w.heap.size ≤ k) j v ∧ Below w.heap.size w w' := by
  refine (parse_any s hs w hF).mono ?_
  intro e w' he
  unfold ParseEnd at he
  rw [h] at he
  exact he
theorem jparse_not (s : ByteArray) (hs : s.size ≤ 1000000) {k : Nat} (h : parseR s.data.toList = .error k) (w : World) (hF : Facts w) : Calls Tryz.prog 17 #[.string s] w fun e w' => e = .returned (.tuple #[zeroJ, .int .i64 (k : Int)]) ∧ Below w.heap.size w w' := by
  refine (parse_any s hs w hF).mono ?_
  intro e w' he
  unfold ParseEnd at he
  rw [h] at he
  exact he
theorem putJ_ok {j : J} (h : checkJ j = 0) : putJ j = (textJ j, 0) := by unfold putJ; rw [if_pos h]
set_option maxRecDepth 100000 in
theorem first_any (w : World) : Calls Tryz.prog 31 #[] w fun e w' => e = .returned (.string (txt firstL)) ∧ w = w' := by
  go_enter Tryz.func31, Tryz.ntmps31
  go_wp2_with fail
  go_ret
  exact ⟨rfl, rfl⟩
set_option maxRecDepth 100000 in
set_option maxHeartbeats 4000000 in
theorem works_any (w : World) (hF : Facts w) : Calls Tryz.prog 10 #[] w fun e w' => e = .returned (.bool true) ∧ Below w.heap.size w w' := by
  have HF := Lib.hid hF
  have HFI := Lib.hid (fun (W : World) => first_any W)
  have HP := Lib.hid (jparse_yes (txt firstL) (by rw [txt_size]; decide) (by rw [txt_data]; exact first_parse) w hF)
  have HFL := Lib.hid (show (txt firstL).toList = firstL from txt_list _)
  have HPT := Lib.hid (fun (W : World) (hW : Facts W) (v : Value) (P : Nat → Prop) (hj : JIn W P firstJ v) => put_any P firstJ v W (by decide) hj hW)
  rw [first_put] at HPT
  have HFD := Lib.hid (fun (W : World) (v : Value) (P : Nat → Prop) (hj : JIn W P firstJ v) => field_any P firstJ v ⟨#[98]⟩ W (by decide) hj)
  rw [first_field] at HFD
  generalize txt firstL = T at *
  clear hF
  go_enter Tryz.func10, Tryz.ntmps10
  go_wp2_with fail
  refine (HFI.out _).mono ?_
  rintro e w1 ⟨rfl, rfl⟩
  go_wp2_with fail
  refine HP.out.mono ?_
  rintro e w2 ⟨v, rfl, hj, hb⟩
  obtain ⟨k1, s1, A1, n1, c1, B1, m1, e1, rfl⟩ := jin_form hj
  have hb2 := alloc_below w2 (.cells #[.int .i64 k1, .string s1, .slice A1 n1 c1, .slice B1 m1 e1] 25)
  have HB2 := Lib.hid (hb.trans (hb2.mono hb.size))
  have HT2 := Lib.hid (alloc_top w2 #[.int .i64 k1, .string s1, .slice A1 n1 c1, .slice B1 m1 e1] 25)
  have HJ2 := Lib.hid (hj.below hb2)
  obtain ⟨x0, x1, x2, x3⟩ := tok_cells HT2.out
  clear hj hb hb2
  go_wp2_with fail
  refine (HPT.out _ (HF.out.below HB2.out) _ _ HJ2.out).mono ?_
  rintro e w3 ⟨rfl, hb⟩
  have HB3 := Lib.hid (HB2.out.trans (hb.mono HB2.out.size))
  have HT3 := Lib.hid (heap_keep hb HT2.out)
  have HJ3 := Lib.hid (HJ2.out.below hb)
  clear hb x0 x1 x2 x3
  obtain ⟨x0, x1, x2, x3⟩ := tok_cells HT3.out
  go_wp2_with fail
  refine (HFD.out _ _ _ HJ3.out).mono ?_
  rintro e w4 ⟨v, rfl, hj, hb⟩
  obtain ⟨ka, kc, ia, ic, rfl, -, hl⟩ := hj.open
  obtain ⟨ib, io, rfl, -, hrow⟩ := hl (by decide)
  have hb5 := alloc_below w4 (.cells #[.int .i64 5, .string (txt []), .slice ka 0 kc, .slice (some ⟨ib, io, none⟩) 2 ic] 25)
  obtain ⟨v0, v1, v2, v3, d0, d1, d2, d3, hj1⟩ := hrow.at (i := 0) rfl
  obtain ⟨_, _, _, _, he, _⟩ := hj1.open
  simp only [Value.agg.injEq, Array.mk.injEq, List.cons.injEq, and_true] at he
  obtain ⟨rfl, rfl, _, _⟩ := he
  have D1 := Lib.hid (cell_keep2 hb5 d1)
  have HB5 := Lib.hid (HB3.out.trans ((hb.trans (hb5.mono hb.size)).mono HB3.out.size))
  have HT5 := Lib.hid (alloc_top w4 #[.int .i64 5, .string (txt []), .slice ka 0 kc, .slice (some ⟨ib, io, none⟩) 2 ic] 25)
  clear hj hl hrow hb hb5 hj1 d0 d1 d2 d3 x0 x1 x2 x3
  obtain ⟨y0, y1, y2, y3⟩ := tok_cells HT5.out
  have d1 := D1.out
  go_wp2_with fail
  refine (HFI.out _).mono ?_
  rintro e w5 ⟨rfl, rfl⟩
  have h49 : (txt [49]).toList = [49] := txt_list _
  go_wp2_with fail
  go_ret
  exact ⟨rfl, HB5.out⟩
end Go.Proofs.YtmkjoonbjmieoaaGreatDoor
