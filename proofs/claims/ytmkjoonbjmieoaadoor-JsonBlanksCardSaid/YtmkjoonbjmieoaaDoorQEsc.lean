/-
  jtext's shortEscapeAt AT EVERY TEXT of at most 1000000 bytes, from every place of it: what it returns; no memory that was there turns. Conditions: the text's length; unicode/utf8's two tables are as their text lays them (Facts).
-/
import Derived.Test.YtmkjoonbjmieoaaDoorQUnitAt
import Derived.Lib.IndexBytes
import Derived.Maps.OwnSet
namespace Go.Proofs.YtmkjoonbjmieoaaDoor
open Go.RowKit Go.Maps

theorem law21 : Keyed Tryd.prog 21 := int_keyed Tryd.underlying21
theorem zero21 (w : World) : (zeroValue 21).run Tryd.prog w = .ok (.int .i32 0) w := by kernel_rfl
/-- A map of numbers of 32 bits that a call has made, as it reads. -/
abbrev MD := DataW Unit
def mput (D : MD) (k d : Int) : MD := D.put (.int .i32 k) (.lit (.int .i32 d))
def mapOf (D : MD) (l : List (Int × Int)) : MD := l.foldl (fun D e => mput D e.1 e.2) D
/-- What a list of keys, each once, has at a key. -/
def lookD : List (Int × Int) → Int → Option Int
  | [], _ => none
  | e :: l, x => if x = e.1 then some e.2 else lookD l x
abbrev Owns32 (w : World) (b n : Nat) (D : MD) : Prop := w.ownsMap Tryd.prog 21 (plainElem Tryd.prog 21) b n D
theorem own_step {w : World} {b n : Nat} {D : MD} (h : Owns32 w b n D) (k d : Int) (hn : n < 100) (hk : (Lit.int .i32 k).wf = true) (hd : (Lit.int .i32 d).wf = true) :
    ∃ w', (Instr.mapUpdate 110 (.map (some b)) (.int .i32 k) (.int .i32 d)).run Tryd.prog w = .ok () w' ∧ Owns32 w' b (n + 1) (mput D k d) ∧ w.grownBy w' (some b) :=
  World.ownsMap.update h law21 Tryd.underlying110 (by unfold maxLen; omega) (keyOf_int_mk Tryd.underlying21 hk) (plainElem_int Tryd.underlying21 hd)
theorem own_look {w : World} {b n : Nat} {D : MD} (h : Owns32 w b n D) (k : Int) (hk : (Lit.int .i32 k).wf = true) :
    ∃ c, (Instr.lookup 110 (.map (some b)) (.int .i32 k) true).run Tryd.prog w = .ok (.tuple #[.int .i32 c, .bool (Maps.has D (.int .i32 k))]) w ∧ D.atKey (.int .i32 k) (.lit (.int .i32 0)) = .lit (.int .i32 c) := by
  obtain ⟨v, ps, h1, h2⟩ := World.ownsMap.look_ok h law21 Tryd.underlying110 (zero21 w) (plainElem_int Tryd.underlying21 (by decide)) (keyOf_int_mk Tryd.underlying21 hk)
  obtain ⟨c, rfl, hc, _⟩ := plainElem_int_inv Tryd.underlying21 h2
  exact ⟨c, h1, congrArg Prod.fst hc⟩
theorem own_below {w w' : World} {b n : Nat} {D : MD} (h : Owns32 w b n D) (hb : Below w.heap.size w w') : Owns32 w' b n D := by
  have hlt := World.ownsMap.lt h
  obtain ⟨es, clock, h1, F, hs, hD⟩ := h
  exact ⟨es, clock, (hb.block b hlt).trans h1, F, hs, hD⟩
theorem is_key (k : Int) : WideAt.IsKeyLit (.int .i32 k) := trivial
theorem mapOf_miss : ∀ (l : List (Int × Int)) (D : MD) (x : Int), (∀ e ∈ l, x ≠ e.1) → Maps.has (mapOf D l) (.int .i32 x) = Maps.has D (.int .i32 x) ∧ ∀ z, (mapOf D l).atKey (.int .i32 x) z = D.atKey (.int .i32 x) z
  | [], _, _, _ => ⟨rfl, fun _ => rfl⟩
  | e :: l, D, x, h => by
    have h1 := mapOf_miss l (mput D e.1 e.2) x (fun d hd => h d (List.mem_cons_of_mem _ hd))
    have hne : (Lit.int .i32 x) ≠ (.int .i32 e.1) := by
      intro hx; injection hx with _ hx; exact h e List.mem_cons_self hx
    exact ⟨h1.1.trans (has_put_other hne _), fun z => (h1.2 z).trans (atKey_put_other hne _ _)⟩
theorem mapOf_look : ∀ (l : List (Int × Int)) (D : MD) (x : Int), IsMap D → (l.map Prod.fst).Nodup →
    (∀ v, lookD l x = some v → Maps.has (mapOf D l) (.int .i32 x) = true ∧ ∀ z, (mapOf D l).atKey (.int .i32 x) z = .lit (.int .i32 v)) ∧
    (lookD l x = none → Maps.has (mapOf D l) (.int .i32 x) = Maps.has D (.int .i32 x) ∧ ∀ z, (mapOf D l).atKey (.int .i32 x) z = D.atKey (.int .i32 x) z)
  | [], _, _, _, _ => ⟨fun v h => (by cases h), fun _ => ⟨rfl, fun _ => rfl⟩⟩
  | e :: l, D, x, hD, hn => by
    rw [List.map_cons, List.nodup_cons] at hn
    have ih := mapOf_look l (mput D e.1 e.2) x (IsMap.put hD _ _) hn.2
    by_cases hx : x = e.1
    · have hm := mapOf_miss l (mput D e.1 e.2) x (fun d hd he => hn.1 (by rw [← hx, he]; exact List.mem_map_of_mem hd))
      refine ⟨fun v hv => ?_, fun hv => ?_⟩
      · rw [lookD, if_pos hx] at hv
        obtain rfl := Option.some.inj hv
        subst hx
        exact ⟨hm.1.trans (has_put_same hD (is_key _) _), fun z => (hm.2 z).trans (atKey_put_same hD (is_key _) _ _)⟩
      · rw [lookD, if_pos hx] at hv; cases hv
    · have hne : (Lit.int .i32 x) ≠ (.int .i32 e.1) := by intro h; injection h with _ h; exact hx h
      refine ⟨fun v hv => ?_, fun hv => ?_⟩
      · rw [lookD, if_neg hx] at hv
        exact ih.1 v hv
      · rw [lookD, if_neg hx] at hv
        exact ⟨(ih.2 hv).1.trans (has_put_other hne _), fun z => ((ih.2 hv).2 z).trans (atKey_put_other hne _ _)⟩
/-- What a look-up in such a map hands back. -/
def lookV (o : Option Int) : Value := .tuple #[.int .i32 (o.getD 0), .bool o.isSome]
theorem look_eq {a c : Int} {x y : Bool} {w : World} (h : (DataW.lit (.int .i32 a) : MD) = .lit (.int .i32 c)) (h2 : x = y) : Result.ok (Value.tuple #[.int .i32 c, .bool x]) w = Result.ok (Value.tuple #[.int .i32 a, .bool y]) w := by
  injection h with h; injection h with _ h
  rw [h, h2]
theorem look_list {w : World} {b n : Nat} (l : List (Int × Int)) (hn : (l.map Prod.fst).Nodup) (h : Owns32 w b n (mapOf (.map []) l)) (x : Int) (hx : (Lit.int .i32 x).wf = true) :
    (Instr.lookup 110 (.map (some b)) (.int .i32 x) true).run Tryd.prog w = .ok (lookV (lookD l x)) w := by
  obtain ⟨c, h1, h2⟩ := own_look h x hx
  have hl := mapOf_look l (.map []) x isMap_empty hn
  refine h1.trans ?_
  cases hv : lookD l x with
  | none =>
    have h3 := hl.2 hv
    rw [h3.2] at h2
    have h4 : (DataW.map [] : MD).atKey (.int .i32 x) (.lit (.int .i32 0)) = .lit (.int .i32 0) := rfl
    rw [h4] at h2
    exact look_eq h2 h3.1
  | some v =>
    have h3 := hl.1 v hv
    rw [h3.2] at h2
    exact look_eq h2 h3.1
def shortM : List (Int × Int) := [(34, 34), (92, 92), (47, 47), (98, 8), (102, 12), (110, 10), (114, 13), (116, 9)]
theorem ret_ri {a b c d : Int} (h : a = c) (k : b = d) : Ending.returned (.tuple #[.int .i32 a, .int .i64 b]) = .returned (.tuple #[.int .i32 c, .int .i64 d]) := by rw [h, k]
set_option maxRecDepth 100000 in
set_option maxHeartbeats 4000000 in
theorem short_no (s : ByteArray) (k : Nat) (hk : k + 1 ≤ s.size) (hs : s.size ≤ 1000000) (l : Int) (hl0 : 0 ≤ l) (hl1 : l ≤ 1114111) (m : Nat) (hv : lookD shortM l = none) (w : World) (HD : Hid (∀ w, Lib.Utf8Tabs 0 1 w → Calls Tryd.prog 43 #[.string (s.extract (k + 1) s.size)] w fun e w' => e = .returned (.tuple #[.int .i32 l, .int .i64 m]) ∧ Below w.heap.size w w')) (hT : Lib.Utf8Tabs 0 1 w) :
    Calls Tryd.prog 73 #[.string s, .int .i64 k] w fun e w' => e = .returned (.tuple #[.int .i32 0, .int .i64 k]) ∧ Below w.heap.size w w' := by
  have hmm := @run_makeMap Tryd.prog
  have ho0 : Owns32 (w.alloc (.map #[] 0)) w.heap.size 0 (.map []) := World.ownsMap_made (H := Unit) w Tryd.prog 21 (plainElem Tryd.prog 21)
  have B0 : Below w.heap.size w (w.alloc (.map #[] 0)) := (Below.refl _ _).alloc (Nat.le_refl _) _
  obtain ⟨m1, hr1, ho1, hg1⟩ := own_step ho0 34 34 (by omega) (by decide) (by decide)
  have B1 := B0.grown hg1 B0.size (fun j hj => by cases hj; exact Nat.le_refl _)
  obtain ⟨m2, hr2, ho2, hg2⟩ := own_step ho1 92 92 (by omega) (by decide) (by decide)
  have B2 := B1.grown hg2 B1.size (fun j hj => by cases hj; exact Nat.le_refl _)
  obtain ⟨m3, hr3, ho3, hg3⟩ := own_step ho2 47 47 (by omega) (by decide) (by decide)
  have B3 := B2.grown hg3 B2.size (fun j hj => by cases hj; exact Nat.le_refl _)
  obtain ⟨m4, hr4, ho4, hg4⟩ := own_step ho3 98 8 (by omega) (by decide) (by decide)
  have B4 := B3.grown hg4 B3.size (fun j hj => by cases hj; exact Nat.le_refl _)
  obtain ⟨m5, hr5, ho5, hg5⟩ := own_step ho4 102 12 (by omega) (by decide) (by decide)
  have B5 := B4.grown hg5 B4.size (fun j hj => by cases hj; exact Nat.le_refl _)
  obtain ⟨m6, hr6, ho6, hg6⟩ := own_step ho5 110 10 (by omega) (by decide) (by decide)
  have B6 := B5.grown hg6 B5.size (fun j hj => by cases hj; exact Nat.le_refl _)
  obtain ⟨m7, hr7, ho7, hg7⟩ := own_step ho6 114 13 (by omega) (by decide) (by decide)
  have B7 := B6.grown hg7 B6.size (fun j hj => by cases hj; exact Nat.le_refl _)
  obtain ⟨m8, hr8, ho8, hg8⟩ := own_step ho7 116 9 (by omega) (by decide) (by decide)
  have B8 := B7.grown hg8 B7.size (fun j hj => by cases hj; exact Nat.le_refl _)
  have HO := Lib.hid ho8
  have HB := Lib.hid B8
  have HT := Lib.hid (Go.Proofs.Utf8Tabs_below hT B8)
  clear hT ho0 B0 ho1 B1 ho2 B2 ho3 B3 ho4 B4 ho5 B5 ho6 B6 ho7 B7 ho8 B8 hg1 hg2 hg3 hg4 hg5 hg6 hg7 hg8
  have HL := Lib.hid (fun (W : World) (h : Owns32 W w.heap.size 8 (mapOf (.map []) shortM)) => look_list shortM (by decide) h l (WalkArith.wf_i32 (by omega)))
  rw [hv] at HL
  clear hv
  go_enter Tryd.func73, Tryd.ntmps73
  go_wp2_with fail
  refine (HD.out _ HT.out).mono ?_
  rintro e w9 ⟨rfl, hb⟩
  have HB9 := Lib.hid (HB.out.trans (hb.mono HB.out.size))
  have hlk := HL.out w9 (own_below HO.out hb)
  clear hb HL
  unfold lookV at hlk
  go_wp2_with fail
  go_ret2
  exact ⟨rfl, HB9.out⟩
set_option maxRecDepth 100000 in
set_option maxHeartbeats 4000000 in
theorem short_yes (s : ByteArray) (k : Nat) (hk : k + 1 ≤ s.size) (hs : s.size ≤ 1000000) (l : Int) (hl0 : 0 ≤ l) (hl1 : l ≤ 1114111) (m : Nat) (hm : m ≤ 4) (p : Int) (hv : lookD shortM l = some p) (w : World) (HD : Hid (∀ w, Lib.Utf8Tabs 0 1 w → Calls Tryd.prog 43 #[.string (s.extract (k + 1) s.size)] w fun e w' => e = .returned (.tuple #[.int .i32 l, .int .i64 m]) ∧ Below w.heap.size w w')) (hT : Lib.Utf8Tabs 0 1 w) :
    Calls Tryd.prog 73 #[.string s, .int .i64 k] w fun e w' => e = .returned (.tuple #[.int .i32 p, .int .i64 ((k + 1 + m : Nat) : Int)]) ∧ Below w.heap.size w w' := by
  have hmm := @run_makeMap Tryd.prog
  have ho0 : Owns32 (w.alloc (.map #[] 0)) w.heap.size 0 (.map []) := World.ownsMap_made (H := Unit) w Tryd.prog 21 (plainElem Tryd.prog 21)
  have B0 : Below w.heap.size w (w.alloc (.map #[] 0)) := (Below.refl _ _).alloc (Nat.le_refl _) _
  obtain ⟨m1, hr1, ho1, hg1⟩ := own_step ho0 34 34 (by omega) (by decide) (by decide)
  have B1 := B0.grown hg1 B0.size (fun j hj => by cases hj; exact Nat.le_refl _)
  obtain ⟨m2, hr2, ho2, hg2⟩ := own_step ho1 92 92 (by omega) (by decide) (by decide)
  have B2 := B1.grown hg2 B1.size (fun j hj => by cases hj; exact Nat.le_refl _)
  obtain ⟨m3, hr3, ho3, hg3⟩ := own_step ho2 47 47 (by omega) (by decide) (by decide)
  have B3 := B2.grown hg3 B2.size (fun j hj => by cases hj; exact Nat.le_refl _)
  obtain ⟨m4, hr4, ho4, hg4⟩ := own_step ho3 98 8 (by omega) (by decide) (by decide)
  have B4 := B3.grown hg4 B3.size (fun j hj => by cases hj; exact Nat.le_refl _)
  obtain ⟨m5, hr5, ho5, hg5⟩ := own_step ho4 102 12 (by omega) (by decide) (by decide)
  have B5 := B4.grown hg5 B4.size (fun j hj => by cases hj; exact Nat.le_refl _)
  obtain ⟨m6, hr6, ho6, hg6⟩ := own_step ho5 110 10 (by omega) (by decide) (by decide)
  have B6 := B5.grown hg6 B5.size (fun j hj => by cases hj; exact Nat.le_refl _)
  obtain ⟨m7, hr7, ho7, hg7⟩ := own_step ho6 114 13 (by omega) (by decide) (by decide)
  have B7 := B6.grown hg7 B6.size (fun j hj => by cases hj; exact Nat.le_refl _)
  obtain ⟨m8, hr8, ho8, hg8⟩ := own_step ho7 116 9 (by omega) (by decide) (by decide)
  have B8 := B7.grown hg8 B7.size (fun j hj => by cases hj; exact Nat.le_refl _)
  have HO := Lib.hid ho8
  have HB := Lib.hid B8
  have HT := Lib.hid (Go.Proofs.Utf8Tabs_below hT B8)
  clear hT ho0 B0 ho1 B1 ho2 B2 ho3 B3 ho4 B4 ho5 B5 ho6 B6 ho7 B7 ho8 B8 hg1 hg2 hg3 hg4 hg5 hg6 hg7 hg8
  have HL := Lib.hid (fun (W : World) (h : Owns32 W w.heap.size 8 (mapOf (.map []) shortM)) => look_list shortM (by decide) h l (WalkArith.wf_i32 (by omega)))
  rw [hv] at HL
  clear hv
  go_enter Tryd.func73, Tryd.ntmps73
  go_wp2_with fail
  refine (HD.out _ HT.out).mono ?_
  rintro e w9 ⟨rfl, hb⟩
  have HB9 := Lib.hid (HB.out.trans (hb.mono HB.out.size))
  have hlk := HL.out w9 (own_below HO.out hb)
  clear hb HL
  unfold lookV at hlk
  go_wp2_with fail
  go_ret2
  exact ⟨ret_ri rfl (by omega), HB9.out⟩
theorem decodeGo_rest (s : ByteArray) (k : Nat) (h : k < s.size) : Lib.decodeGo (s.extract k s.size) = if pt (rest s k) < 0 then (65533, 1) else ((pt (rest s k)).toNat, wd (rest s k)) := by
  have e : (s.extract k s.size).data.toList = s.data.toList.drop k := Lib.extract_to_end s k
  have hz : (s.extract k s.size).size = s.size - k := by
    show (s.extract k s.size).data.size = _
    rw [← Array.length_toList, e, List.length_drop]
    rfl
  unfold Lib.decodeGo
  rw [if_neg (by omega), decode_pt, List.drop_zero, e]
  rfl
theorem decodeGo_end (s : ByteArray) : Lib.decodeGo (s.extract s.size s.size) = (65533, 0) := by
  have hz : (s.extract s.size s.size).size = 0 := by simp
  unfold Lib.decodeGo
  rw [if_pos hz]
theorem dec_at (s : ByteArray) (k : Nat) (h : k < s.size) (w : World) (hT : Lib.Utf8Tabs 0 1 w) :
    Calls Tryd.prog 43 #[.string (s.extract k s.size)] w fun e w' => e = .returned (.tuple #[.int .i32 (ptR (rest s k)), .int .i64 (wd (rest s k) : Nat)]) ∧ Below w.heap.size w w' := by
  have hc := Tryd.utf8_DecodeRuneInString (s.extract k s.size) w hT
  rw [decodeGo_rest s k h] at hc
  unfold ptR
  by_cases hp : pt (rest s k) < 0
  · rw [if_pos hp] at hc ⊢
    rw [(pt_neg _ hp).2]
    exact hc
  · rw [if_neg hp] at hc ⊢
    have e : (((pt (rest s k)).toNat : Nat) : Int) = pt (rest s k) := by omega
    have hc2 := hc
    simp only [e] at hc2
    exact hc2
theorem ptR_bounds (l : List UInt8) : 0 ≤ ptR l ∧ ptR l ≤ 1114111 := by
  unfold ptR
  have := pt_le l
  split <;> omega
/-- A letter behind a backslash: what it stands for, and its bytes. -/
def shortP (l : List UInt8) : Option (Nat × Nat) := if l = [] then none else (short (nth l 0)).map (fun p => (p, 1))
/-- What a finder of points hands back: the point and where it ends. -/
def winV (k : Nat) : Option (Nat × Nat) → Value
  | some (p, n) => .tuple #[.int .i32 (p : Int), .int .i64 ((k + n : Nat) : Int)]
  | none => .tuple #[.int .i32 0, .int .i64 (k : Int)]
theorem lookD_short (c : Nat) : lookD shortM (c : Int) = (short c).map (fun p => (p : Int)) := by
  unfold shortM short
  simp only [lookD]
  by_cases h1 : c = 34
  · subst h1; rfl
  · by_cases h2 : c = 92
    · subst h2; rfl
    · by_cases h3 : c = 47
      · subst h3; rfl
      · by_cases h4 : c = 98
        · subst h4; rfl
        · by_cases h5 : c = 102
          · subst h5; rfl
          · by_cases h6 : c = 110
            · subst h6; rfl
            · by_cases h7 : c = 114
              · subst h7; rfl
              · by_cases h8 : c = 116
                · subst h8; rfl
                · simp only [h1, h2, h3, h4, h5, h6, h7, h8, if_false]
                  repeat' split
                  all_goals first | omega | rfl
theorem lookD_far (x : Int) (h : 128 ≤ x) : lookD shortM x = none := by
  unfold shortM
  simp only [lookD]
  repeat' split
  all_goals first | omega | rfl
theorem ptR_far (l : List UInt8) (h : 128 ≤ nth l 0) : 128 ≤ ptR l := by
  have hd : ∀ a b c d : Nat, 128 ≤ a → 0 ≤ (decN a b c d).1 → 128 ≤ (decN a b c d).1 := by
    intro a b c d
    unfold decN
    repeat' split
    all_goals (simp only; omega)
  unfold ptR
  split
  · omega
  · exact hd _ _ _ _ h (show 0 ≤ pt l by omega)
theorem ptR_near (l : List UInt8) (h : nth l 0 < 128) : ptR l = (nth l 0 : Nat) ∧ wd l = 1 := by
  have hd : dec l = ((nth l 0 : Int), 1) := decN_ascii _ _ _ _ h
  unfold ptR pt wd
  rw [hd]
  exact ⟨by simp only; rw [if_neg (by omega)], rfl⟩
theorem short_far (c : Nat) (h : 128 ≤ c) : short c = none := by
  cases hs : short c with
  | none => rfl
  | some p => have := short_lt hs; omega
theorem shortEscapeAt_any (s : ByteArray) (k : Nat) (hk : k < s.size) (hs : s.size ≤ 1000000) (w : World) (hT : Lib.Utf8Tabs 0 1 w) :
    Calls Tryd.prog 73 #[.string s, .int .i64 k] w fun e w' => e = .returned (winV k ((shortP (rest s (k + 1))).map (fun x => (x.1, x.2 + 1)))) ∧ Below w.heap.size w w' := by
  by_cases h1 : k + 1 < s.size
  · have hne := rest_ne s (k + 1) h1
    unfold shortP
    rw [if_neg hne]
    have hb := ptR_bounds (rest s (k + 1))
    have hw4 := wd_le4 (rest s (k + 1))
    by_cases h128 : nth (rest s (k + 1)) 0 < 128
    · obtain ⟨e1, e2⟩ := ptR_near _ h128
      have HD := Lib.hid (fun w hT => dec_at s (k + 1) h1 w hT)
      rw [e1, e2] at HD
      rw [e1] at hb
      have hl := lookD_short (nth (rest s (k + 1)) 0)
      cases hsh : short (nth (rest s (k + 1)) 0) with
      | none =>
        rw [hsh] at hl
        exact short_no s k (by omega) hs _ hb.1 hb.2 1 hl w HD hT
      | some p =>
        rw [hsh] at hl
        exact short_yes s k (by omega) hs _ hb.1 hb.2 1 (by omega) p hl w HD hT
    · rw [short_far _ (by omega)]
      exact short_no s k (by omega) hs _ hb.1 hb.2 _ (lookD_far _ (ptR_far _ (by omega))) w (Lib.hid (fun w hT => dec_at s (k + 1) h1 w hT)) hT
  · have he : k + 1 = s.size := by omega
    unfold shortP
    rw [if_pos (rest_end s (k + 1) h1)]
    have HD : Hid (∀ w, Lib.Utf8Tabs 0 1 w → Calls Tryd.prog 43 #[.string (s.extract (k + 1) s.size)] w fun e w' => e = .returned (.tuple #[.int .i32 65533, .int .i64 ((0 : Nat) : Int)]) ∧ Below w.heap.size w w') := Lib.hid (fun w hT => by
      have hc := Tryd.utf8_DecodeRuneInString (s.extract (k + 1) s.size) w hT
      rw [he, decodeGo_end] at hc
      rw [he]
      exact hc)
    exact short_no s k (by omega) hs 65533 (by omega) (by omega) 0 (lookD_far _ (by omega)) w HD hT
end Go.Proofs.YtmkjoonbjmieoaaDoor
