/-
  jtext's appendQuoted AT EVERY POINT, onto a row of bytes of the caller's: what is put behind; of what was there the row alone turns. Condition: the row has at most 100000000 bytes.
-/
import Derived.Test.YtmkjoonbjmieoaaDoorQStr
import Derived.Lib.AppendStr
import Derived.Laws.NewBlocks
import Derived.Deep.QuietTactic
import Derived.BigQuiet
import Derived.Deep.RegionWith
import Derived.Deep.DeepCutAuto
import Derived.IntWalk
import Derived.Deep.RegionLaw
import Derived.Deep.RegionHeld3
namespace Go.Proofs.YtmkjoonbjmieoaaDoor
open Go.RowKit Go.Maps

/-- Of what was there nothing has turned but cells from a block on. -/
structure Kp (B : Nat) (w w' : World) : Prop where
  os : w'.os = w.os
  tape : w'.tape = w.tape
  output : w'.output = w.output
  size : w.heap.size ≤ w'.heap.size
  block : ∀ (k : Nat), k < B → w'.heap[k]? = w.heap[k]?
  other : ∀ (k : Nat) (o : Obj), w.heap[k]? = some o → (∀ c t f, o ≠ Obj.cells c t f) → w'.heap[k]? = some o
theorem Kp.below {B : Nat} {w w' : World} (h : Kp B w w') : Below B w w' := ⟨h.os, h.tape, h.output, h.size, h.block⟩
theorem kp_below {B : Nat} {w w' : World} (h : Below w.heap.size w w') (hB : B ≤ w.heap.size) : Kp B w w' :=
  ⟨h.os, h.tape, h.output, h.size, fun k hk => h.block k (by omega), fun k o ho _ => (h.block k (Array.getElem?_eq_some_iff.1 ho).1).trans ho⟩
theorem Kp.trans {B : Nat} {a b c : World} (h : Kp B a b) (k : Kp B b c) : Kp B a c :=
  ⟨k.os.trans h.os, k.tape.trans h.tape, k.output.trans h.output, Nat.le_trans h.size k.size, fun i hi => (k.block i hi).trans (h.block i hi), fun i o ho hn => k.other i o (h.other i o ho hn) hn⟩
theorem kp_grown {B n sz : Nat} {e : TypeId} {w w' : World} {v : Value} {xs : List Value} (ho : w.ownsRow B e sz v n xs) (h : w.grownBy w' v.ownBlock) (hB : B ≤ w.heap.size) : Kp B w w' := by
  refine ⟨h.os, h.tape, h.output, h.size, fun k hk => h.block k (by omega) (fun ej => ?_), fun k o hk hn => (h.block k (Array.getElem?_eq_some_iff.1 hk).1 (fun ej => ?_)).trans hk⟩
  · have := (World.ownsRow.lt ho k ej.symm).1; omega
  · rcases ho.2 with ⟨rfl, _⟩ | ⟨g, cap, cur, rfl, _, hg, _⟩
    · cases ej
    · cases ej
      rw [hg] at hk
      exact hn _ _ _ (Option.some.inj hk).symm
theorem Tryd.info5 : (Tryd.prog.info? 5).map (fun i => (i.zero, i.size, i.bytes)) = some (some (.int .u8 0), 1, 1) := by kernel_rfl
/-- A hex digit's byte. -/
def dg (n : Nat) : UInt8 := UInt8.ofNat (if n < 10 then 48 + n else 87 + n)
/-- A point as it stands in a string of JSON. -/
def qP (p : Nat) : List UInt8 :=
  if p = 34 then [92, 34] else if p = 92 then [92, 92] else if p = 8 then [92, 98] else if p = 9 then [92, 116] else if p = 10 then [92, 110] else if p = 12 then [92, 102] else if p = 13 then [92, 114]
  else if p < 32 then [92, 117, 48, 48, dg (p / 16), dg (p % 16)] else encL p
/-- What a call hands back that puts bytes behind a row. -/
def AppEnd (B : Nat) (l news : List UInt8) (w : World) (e : Ending) (w' : World) : Prop := ∃ v', e = .returned v' ∧ w'.ownsRow B 5 1 v' (l ++ news).length (bcells (l ++ news)) ∧ Kp B w w'
theorem new_add (w : World) (v : Value) (t : TypeId) : ∀ j u, [v][j]? = some u → (w.alloc (.cells #[v] t)).cell? ((⟨w.heap.size, 0, none⟩ : Addr).add j) = some u := by
  intro j u h
  rw [Addr.add_lit, Nat.zero_add, World.cell?_alloc_at _ _ _ _ rfl]
  simpa using h
theorem new_adds (w : World) (c : List Value) (t : TypeId) : ∀ j u, c[j]? = some u → (w.alloc (.cells c.toArray t)).cell? ((⟨w.heap.size, 0, none⟩ : Addr).add j) = some u := by
  intro j u h
  rw [Addr.add_lit, Nat.zero_add, World.cell?_alloc_at _ _ _ _ rfl]
  simpa using h
theorem kp_drew (B : Nat) (w : World) : Kp B w w.drew := ⟨rfl, rfl, rfl, Nat.le_refl _, fun _ _ => rfl, fun _ _ h _ => h⟩
theorem hex_row {W : World} {B : Nat} {v : Value} (l : List UInt8) (a b : UInt8) (h : W.ownsRow B 5 1 v (l.length + (⟨#[92, 117, 48, 48]⟩ : ByteArray).size + 2) (bcells l ++ Lib.strCells ⟨#[92, 117, 48, 48]⟩ ++ [.int .u8 (a.toNat : Int), .int .u8 (b.toNat : Int)])) :
    W.ownsRow B 5 1 v (l ++ ([92, 117, 48, 48] ++ [a, b])).length (bcells (l ++ ([92, 117, 48, 48] ++ [a, b]))) := by
  have e1 : (l ++ ([92, 117, 48, 48] ++ [a, b])).length = l.length + (⟨#[92, 117, 48, 48]⟩ : ByteArray).size + 2 := by
    rw [List.length_append]; rfl
  have e2 : bcells (l ++ ([92, 117, 48, 48] ++ [a, b])) = bcells l ++ Lib.strCells ⟨#[92, 117, 48, 48]⟩ ++ [.int .u8 (a.toNat : Int), .int .u8 (b.toNat : Int)] := by
    rw [bcells_append, List.append_assoc]; rfl
  rw [e1, e2]; exact h
theorem cell_blockQ {w w' : World} {a : Nat} (h : w'.heap[a]? = w.heap[a]?) (i : Nat) : w'.cell? ⟨a, i, none⟩ = w.cell? ⟨a, i, none⟩ := by
  simp only [World.cell?, h]
theorem own_farQ {W : World} {B e n sz : Nat} {v : Value} {xs : List Value} (h : W.ownsRow B e sz v n xs) (a : Nat) (ha : a < B ∨ W.heap.size ≤ a) : some a ≠ v.ownBlock := by
  intro ej
  have := World.ownsRow.lt h a ej.symm
  omega
theorem append_rune (B : Nat) (v : Value) (l : List UInt8) (p : Nat) (hp : isPt (p : Int) = true) (w : World) (hown : w.ownsRow B 5 1 v l.length (bcells l)) (hlen : l.length ≤ 100000000) (hB : B ≤ w.heap.size) : Calls Tryd.prog 63 #[v, .int .i32 (p : Int)] w (AppEnd B l (encL p) w) := by
  have hpb : (p : Int) ≤ 1114111 := by unfold isPt at hp; rw [decide_eq_true_eq] at hp; omega
  refine (Tryd.utf8_AppendRune_plain B v l.length (bcells l) (p : Int) (by omega) (by omega) w hown (by omega) hB).mono ?_
  rintro e w' ⟨v', rfl, h1, o, h2⟩
  rw [runeCells_enc p hp, bcells_len, ← bcells_append, ← List.length_append] at h1
  refine ⟨v', rfl, h1, ?_⟩
  exact (kp_below ((Below.refl _ _).alloc (Nat.le_refl _) o) hB).trans (kp_grown (hown.alloc o) h2 (by rw [World.size_alloc]; omega))
set_option maxRecDepth 100000 in
set_option maxHeartbeats 1000000 in
theorem quoted_plain (B : Nat) (v : Value) (l : List UInt8) (p : Nat) (hp : isPt (p : Int) = true) (h1 : 32 ≤ p) (h2 : p ≠ 34) (h3 : p ≠ 92) (w : World) (hown : w.ownsRow B 5 1 v l.length (bcells l)) (hlen : l.length ≤ 100000000) (hB : B ≤ w.heap.size) : Calls Tryd.prog 67 #[v, .int .i32 (p : Int)] w (AppEnd B l (encL p) w) := by
  have HA := Lib.hid (append_rune B v l p hp w hown hlen hB)
  have d1 : decide (32 ≤ (p : Int)) = true := by simp; omega
  have d2 : ((p : Int) != 34) = true := by simp; omega
  have d3 : ((p : Int) != 92) = true := by simp; omega
  clear hp h2 h3 hown hB hlen
  go_enter Tryd.func67, Tryd.ntmps67
  go_wp2_with fail
  refine HA.out.mono ?_
  rintro e w1 ⟨v', rfl, h⟩
  have HB := Lib.hid h
  clear h
  go_wp2_with fail
  go_ret
  exact ⟨_, rfl, HB.out⟩
def lettersM : List (Int × Int) := [(34, 34), (92, 92), (8, 98), (9, 116), (10, 110), (12, 102), (13, 114)]
set_option maxRecDepth 100000 in
set_option maxHeartbeats 4000000 in
theorem quoted_34 (B : Nat) (v : Value) (l : List UInt8) (w : World) (hown : w.ownsRow B 5 1 v l.length (bcells l)) (hlen : l.length ≤ 90000000) (hB : B ≤ w.heap.size) : Calls Tryd.prog 67 #[v, .int .i32 34] w (AppEnd B l ([92] ++ encL 34) w) := by
  obtain ⟨i0, hi, hz0, hz1, hz2⟩ := info_parts Tryd.info5
  have hmm := @run_makeMap Tryd.prog
  have ho0 : Owns32 (w.alloc (.map #[] 0)) w.heap.size 0 (.map []) := World.ownsMap_made (H := Unit) w Tryd.prog 21 (plainElem Tryd.prog 21)
  have B0 : Below w.heap.size w (w.alloc (.map #[] 0)) := (Below.refl _ _).alloc (Nat.le_refl _) _
  obtain ⟨m1, hr1, ho1, hg1⟩ := own_step ho0 34 34 (by omega) (by decide) (by decide)
  have B1 := B0.grown hg1 B0.size (fun j hj => by cases hj; exact Nat.le_refl _)
  obtain ⟨m2, hr2, ho2, hg2⟩ := own_step ho1 92 92 (by omega) (by decide) (by decide)
  have B2 := B1.grown hg2 B1.size (fun j hj => by cases hj; exact Nat.le_refl _)
  obtain ⟨m3, hr3, ho3, hg3⟩ := own_step ho2 8 98 (by omega) (by decide) (by decide)
  have B3 := B2.grown hg3 B2.size (fun j hj => by cases hj; exact Nat.le_refl _)
  obtain ⟨m4, hr4, ho4, hg4⟩ := own_step ho3 9 116 (by omega) (by decide) (by decide)
  have B4 := B3.grown hg4 B3.size (fun j hj => by cases hj; exact Nat.le_refl _)
  obtain ⟨m5, hr5, ho5, hg5⟩ := own_step ho4 10 110 (by omega) (by decide) (by decide)
  have B5 := B4.grown hg5 B4.size (fun j hj => by cases hj; exact Nat.le_refl _)
  obtain ⟨m6, hr6, ho6, hg6⟩ := own_step ho5 12 102 (by omega) (by decide) (by decide)
  have B6 := B5.grown hg6 B5.size (fun j hj => by cases hj; exact Nat.le_refl _)
  obtain ⟨m7, hr7, ho7, hg7⟩ := own_step ho6 13 114 (by omega) (by decide) (by decide)
  have B7 := B6.grown hg7 B6.size (fun j hj => by cases hj; exact Nat.le_refl _)
  have HL := Lib.hid (look_list lettersM (by decide) ho7 34 (by decide))
  rw [show lookD lettersM 34 = some 34 by decide] at HL
  have hown7 := ownsRow_below hown B7
  have HB := Lib.hid B7
  have HS := Lib.hid (Nat.le_trans hB B7.size)
  have HBW := Lib.hid hB
  clear hown hB ho0 B0 ho1 B1 ho2 B2 ho3 B3 ho4 B4 ho5 B5 ho6 B6 ho7 B7 hg1 hg2 hg3 hg4 hg5 hg6 hg7
  have hlk := HL.out
  unfold lookV at hlk
  go_enter Tryd.func67, Tryd.ntmps67
  go_wp2_with (at_builtin; refine wpList_append_own _ rfl _ _ 35 rfl B 5 i0 (.int .u8 0) 1 1 Tryd.underlying35 hi hz0 hz1 hz2 rfl (by decide) _ _ _ rfl (hown7.alloc _) ⟨m7.heap.size, 0, none⟩ 1 1 [.int .u8 92] rfl rfl ?c1 ?c2 ?c3 ?c4 ?c5 ?_)
  case c1 => exact new_add _ _ _
  case c2 => simp [Value.oneCell']
  case c3 => unfold maxLen; omega
  case c4 => omega
  case c5 => rw [World.size_alloc]; have := HS.out; omega
  intro v' w1 hown' hgrow hne
  have HK1 : Hid (Kp B w w1) := Lib.hid ((kp_below HB.out HBW.out).trans ((kp_below ((Below.refl _ _).alloc (Nat.le_refl _) _) HS.out).trans (kp_grown (hown7.alloc _) hgrow (by rw [World.size_alloc]; have := HS.out; omega))))
  have HA := Lib.hid (append_rune B v' (l ++ [92]) 34 (by decide) w1 (by rw [List.length_append, bcells_append]; exact hown') (by rw [List.length_append]; simp; omega) (Nat.le_trans HBW.out HK1.out.size))
  clear hown' hgrow hne hown7 hlk
  go_wp2_with fail
  refine HA.out.mono ?_
  rintro e w2 ⟨v2, rfl, h, hk⟩
  have HV := Lib.hid (show w2.ownsRow B 5 1 v2 (l ++ ([92] ++ encL 34)).length (bcells (l ++ ([92] ++ encL 34))) by rw [← List.append_assoc]; exact h)
  have HK2 := Lib.hid (HK1.out.trans hk)
  clear h hk
  go_wp2_with fail
  go_ret
  exact ⟨_, rfl, HV.out, HK2.out⟩
set_option maxRecDepth 100000 in
set_option maxHeartbeats 4000000 in
theorem quoted_92 (B : Nat) (v : Value) (l : List UInt8) (w : World) (hown : w.ownsRow B 5 1 v l.length (bcells l)) (hlen : l.length ≤ 90000000) (hB : B ≤ w.heap.size) : Calls Tryd.prog 67 #[v, .int .i32 92] w (AppEnd B l ([92] ++ encL 92) w) := by
  obtain ⟨i0, hi, hz0, hz1, hz2⟩ := info_parts Tryd.info5
  have hmm := @run_makeMap Tryd.prog
  have ho0 : Owns32 (w.alloc (.map #[] 0)) w.heap.size 0 (.map []) := World.ownsMap_made (H := Unit) w Tryd.prog 21 (plainElem Tryd.prog 21)
  have B0 : Below w.heap.size w (w.alloc (.map #[] 0)) := (Below.refl _ _).alloc (Nat.le_refl _) _
  obtain ⟨m1, hr1, ho1, hg1⟩ := own_step ho0 34 34 (by omega) (by decide) (by decide)
  have B1 := B0.grown hg1 B0.size (fun j hj => by cases hj; exact Nat.le_refl _)
  obtain ⟨m2, hr2, ho2, hg2⟩ := own_step ho1 92 92 (by omega) (by decide) (by decide)
  have B2 := B1.grown hg2 B1.size (fun j hj => by cases hj; exact Nat.le_refl _)
  obtain ⟨m3, hr3, ho3, hg3⟩ := own_step ho2 8 98 (by omega) (by decide) (by decide)
  have B3 := B2.grown hg3 B2.size (fun j hj => by cases hj; exact Nat.le_refl _)
  obtain ⟨m4, hr4, ho4, hg4⟩ := own_step ho3 9 116 (by omega) (by decide) (by decide)
  have B4 := B3.grown hg4 B3.size (fun j hj => by cases hj; exact Nat.le_refl _)
  obtain ⟨m5, hr5, ho5, hg5⟩ := own_step ho4 10 110 (by omega) (by decide) (by decide)
  have B5 := B4.grown hg5 B4.size (fun j hj => by cases hj; exact Nat.le_refl _)
  obtain ⟨m6, hr6, ho6, hg6⟩ := own_step ho5 12 102 (by omega) (by decide) (by decide)
  have B6 := B5.grown hg6 B5.size (fun j hj => by cases hj; exact Nat.le_refl _)
  obtain ⟨m7, hr7, ho7, hg7⟩ := own_step ho6 13 114 (by omega) (by decide) (by decide)
  have B7 := B6.grown hg7 B6.size (fun j hj => by cases hj; exact Nat.le_refl _)
  have HL := Lib.hid (look_list lettersM (by decide) ho7 92 (by decide))
  rw [show lookD lettersM 92 = some 92 by decide] at HL
  have hown7 := ownsRow_below hown B7
  have HB := Lib.hid B7
  have HS := Lib.hid (Nat.le_trans hB B7.size)
  have HBW := Lib.hid hB
  clear hown hB ho0 B0 ho1 B1 ho2 B2 ho3 B3 ho4 B4 ho5 B5 ho6 B6 ho7 B7 hg1 hg2 hg3 hg4 hg5 hg6 hg7
  have hlk := HL.out
  unfold lookV at hlk
  go_enter Tryd.func67, Tryd.ntmps67
  go_wp2_with (at_builtin; refine wpList_append_own _ rfl _ _ 35 rfl B 5 i0 (.int .u8 0) 1 1 Tryd.underlying35 hi hz0 hz1 hz2 rfl (by decide) _ _ _ rfl (hown7.alloc _) ⟨m7.heap.size, 0, none⟩ 1 1 [.int .u8 92] rfl rfl ?c1 ?c2 ?c3 ?c4 ?c5 ?_)
  case c1 => exact new_add _ _ _
  case c2 => simp [Value.oneCell']
  case c3 => unfold maxLen; omega
  case c4 => omega
  case c5 => rw [World.size_alloc]; have := HS.out; omega
  intro v' w1 hown' hgrow hne
  have HK1 : Hid (Kp B w w1) := Lib.hid ((kp_below HB.out HBW.out).trans ((kp_below ((Below.refl _ _).alloc (Nat.le_refl _) _) HS.out).trans (kp_grown (hown7.alloc _) hgrow (by rw [World.size_alloc]; have := HS.out; omega))))
  have HA := Lib.hid (append_rune B v' (l ++ [92]) 92 (by decide) w1 (by rw [List.length_append, bcells_append]; exact hown') (by rw [List.length_append]; simp; omega) (Nat.le_trans HBW.out HK1.out.size))
  clear hown' hgrow hne hown7 hlk
  go_wp2_with fail
  refine HA.out.mono ?_
  rintro e w2 ⟨v2, rfl, h, hk⟩
  have HV := Lib.hid (show w2.ownsRow B 5 1 v2 (l ++ ([92] ++ encL 92)).length (bcells (l ++ ([92] ++ encL 92))) by rw [← List.append_assoc]; exact h)
  have HK2 := Lib.hid (HK1.out.trans hk)
  clear h hk
  go_wp2_with fail
  go_ret
  exact ⟨_, rfl, HV.out, HK2.out⟩
set_option maxRecDepth 100000 in
set_option maxHeartbeats 4000000 in
theorem quoted_8 (B : Nat) (v : Value) (l : List UInt8) (w : World) (hown : w.ownsRow B 5 1 v l.length (bcells l)) (hlen : l.length ≤ 90000000) (hB : B ≤ w.heap.size) : Calls Tryd.prog 67 #[v, .int .i32 8] w (AppEnd B l ([92] ++ encL 98) w) := by
  obtain ⟨i0, hi, hz0, hz1, hz2⟩ := info_parts Tryd.info5
  have hmm := @run_makeMap Tryd.prog
  have ho0 : Owns32 (w.alloc (.map #[] 0)) w.heap.size 0 (.map []) := World.ownsMap_made (H := Unit) w Tryd.prog 21 (plainElem Tryd.prog 21)
  have B0 : Below w.heap.size w (w.alloc (.map #[] 0)) := (Below.refl _ _).alloc (Nat.le_refl _) _
  obtain ⟨m1, hr1, ho1, hg1⟩ := own_step ho0 34 34 (by omega) (by decide) (by decide)
  have B1 := B0.grown hg1 B0.size (fun j hj => by cases hj; exact Nat.le_refl _)
  obtain ⟨m2, hr2, ho2, hg2⟩ := own_step ho1 92 92 (by omega) (by decide) (by decide)
  have B2 := B1.grown hg2 B1.size (fun j hj => by cases hj; exact Nat.le_refl _)
  obtain ⟨m3, hr3, ho3, hg3⟩ := own_step ho2 8 98 (by omega) (by decide) (by decide)
  have B3 := B2.grown hg3 B2.size (fun j hj => by cases hj; exact Nat.le_refl _)
  obtain ⟨m4, hr4, ho4, hg4⟩ := own_step ho3 9 116 (by omega) (by decide) (by decide)
  have B4 := B3.grown hg4 B3.size (fun j hj => by cases hj; exact Nat.le_refl _)
  obtain ⟨m5, hr5, ho5, hg5⟩ := own_step ho4 10 110 (by omega) (by decide) (by decide)
  have B5 := B4.grown hg5 B4.size (fun j hj => by cases hj; exact Nat.le_refl _)
  obtain ⟨m6, hr6, ho6, hg6⟩ := own_step ho5 12 102 (by omega) (by decide) (by decide)
  have B6 := B5.grown hg6 B5.size (fun j hj => by cases hj; exact Nat.le_refl _)
  obtain ⟨m7, hr7, ho7, hg7⟩ := own_step ho6 13 114 (by omega) (by decide) (by decide)
  have B7 := B6.grown hg7 B6.size (fun j hj => by cases hj; exact Nat.le_refl _)
  have HL := Lib.hid (look_list lettersM (by decide) ho7 8 (by decide))
  rw [show lookD lettersM 8 = some 98 by decide] at HL
  have hown7 := ownsRow_below hown B7
  have HB := Lib.hid B7
  have HS := Lib.hid (Nat.le_trans hB B7.size)
  have HBW := Lib.hid hB
  clear hown hB ho0 B0 ho1 B1 ho2 B2 ho3 B3 ho4 B4 ho5 B5 ho6 B6 ho7 B7 hg1 hg2 hg3 hg4 hg5 hg6 hg7
  have hlk := HL.out
  unfold lookV at hlk
  go_enter Tryd.func67, Tryd.ntmps67
  go_wp2_with (at_builtin; refine wpList_append_own _ rfl _ _ 35 rfl B 5 i0 (.int .u8 0) 1 1 Tryd.underlying35 hi hz0 hz1 hz2 rfl (by decide) _ _ _ rfl (hown7.alloc _) ⟨m7.heap.size, 0, none⟩ 1 1 [.int .u8 92] rfl rfl ?c1 ?c2 ?c3 ?c4 ?c5 ?_)
  case c1 => exact new_add _ _ _
  case c2 => simp [Value.oneCell']
  case c3 => unfold maxLen; omega
  case c4 => omega
  case c5 => rw [World.size_alloc]; have := HS.out; omega
  intro v' w1 hown' hgrow hne
  have HK1 : Hid (Kp B w w1) := Lib.hid ((kp_below HB.out HBW.out).trans ((kp_below ((Below.refl _ _).alloc (Nat.le_refl _) _) HS.out).trans (kp_grown (hown7.alloc _) hgrow (by rw [World.size_alloc]; have := HS.out; omega))))
  have HA := Lib.hid (append_rune B v' (l ++ [92]) 98 (by decide) w1 (by rw [List.length_append, bcells_append]; exact hown') (by rw [List.length_append]; simp; omega) (Nat.le_trans HBW.out HK1.out.size))
  clear hown' hgrow hne hown7 hlk
  go_wp2_with fail
  refine HA.out.mono ?_
  rintro e w2 ⟨v2, rfl, h, hk⟩
  have HV := Lib.hid (show w2.ownsRow B 5 1 v2 (l ++ ([92] ++ encL 98)).length (bcells (l ++ ([92] ++ encL 98))) by rw [← List.append_assoc]; exact h)
  have HK2 := Lib.hid (HK1.out.trans hk)
  clear h hk
  go_wp2_with fail
  go_ret
  exact ⟨_, rfl, HV.out, HK2.out⟩
set_option maxRecDepth 100000 in
set_option maxHeartbeats 4000000 in
theorem quoted_9 (B : Nat) (v : Value) (l : List UInt8) (w : World) (hown : w.ownsRow B 5 1 v l.length (bcells l)) (hlen : l.length ≤ 90000000) (hB : B ≤ w.heap.size) : Calls Tryd.prog 67 #[v, .int .i32 9] w (AppEnd B l ([92] ++ encL 116) w) := by
  obtain ⟨i0, hi, hz0, hz1, hz2⟩ := info_parts Tryd.info5
  have hmm := @run_makeMap Tryd.prog
  have ho0 : Owns32 (w.alloc (.map #[] 0)) w.heap.size 0 (.map []) := World.ownsMap_made (H := Unit) w Tryd.prog 21 (plainElem Tryd.prog 21)
  have B0 : Below w.heap.size w (w.alloc (.map #[] 0)) := (Below.refl _ _).alloc (Nat.le_refl _) _
  obtain ⟨m1, hr1, ho1, hg1⟩ := own_step ho0 34 34 (by omega) (by decide) (by decide)
  have B1 := B0.grown hg1 B0.size (fun j hj => by cases hj; exact Nat.le_refl _)
  obtain ⟨m2, hr2, ho2, hg2⟩ := own_step ho1 92 92 (by omega) (by decide) (by decide)
  have B2 := B1.grown hg2 B1.size (fun j hj => by cases hj; exact Nat.le_refl _)
  obtain ⟨m3, hr3, ho3, hg3⟩ := own_step ho2 8 98 (by omega) (by decide) (by decide)
  have B3 := B2.grown hg3 B2.size (fun j hj => by cases hj; exact Nat.le_refl _)
  obtain ⟨m4, hr4, ho4, hg4⟩ := own_step ho3 9 116 (by omega) (by decide) (by decide)
  have B4 := B3.grown hg4 B3.size (fun j hj => by cases hj; exact Nat.le_refl _)
  obtain ⟨m5, hr5, ho5, hg5⟩ := own_step ho4 10 110 (by omega) (by decide) (by decide)
  have B5 := B4.grown hg5 B4.size (fun j hj => by cases hj; exact Nat.le_refl _)
  obtain ⟨m6, hr6, ho6, hg6⟩ := own_step ho5 12 102 (by omega) (by decide) (by decide)
  have B6 := B5.grown hg6 B5.size (fun j hj => by cases hj; exact Nat.le_refl _)
  obtain ⟨m7, hr7, ho7, hg7⟩ := own_step ho6 13 114 (by omega) (by decide) (by decide)
  have B7 := B6.grown hg7 B6.size (fun j hj => by cases hj; exact Nat.le_refl _)
  have HL := Lib.hid (look_list lettersM (by decide) ho7 9 (by decide))
  rw [show lookD lettersM 9 = some 116 by decide] at HL
  have hown7 := ownsRow_below hown B7
  have HB := Lib.hid B7
  have HS := Lib.hid (Nat.le_trans hB B7.size)
  have HBW := Lib.hid hB
  clear hown hB ho0 B0 ho1 B1 ho2 B2 ho3 B3 ho4 B4 ho5 B5 ho6 B6 ho7 B7 hg1 hg2 hg3 hg4 hg5 hg6 hg7
  have hlk := HL.out
  unfold lookV at hlk
  go_enter Tryd.func67, Tryd.ntmps67
  go_wp2_with (at_builtin; refine wpList_append_own _ rfl _ _ 35 rfl B 5 i0 (.int .u8 0) 1 1 Tryd.underlying35 hi hz0 hz1 hz2 rfl (by decide) _ _ _ rfl (hown7.alloc _) ⟨m7.heap.size, 0, none⟩ 1 1 [.int .u8 92] rfl rfl ?c1 ?c2 ?c3 ?c4 ?c5 ?_)
  case c1 => exact new_add _ _ _
  case c2 => simp [Value.oneCell']
  case c3 => unfold maxLen; omega
  case c4 => omega
  case c5 => rw [World.size_alloc]; have := HS.out; omega
  intro v' w1 hown' hgrow hne
  have HK1 : Hid (Kp B w w1) := Lib.hid ((kp_below HB.out HBW.out).trans ((kp_below ((Below.refl _ _).alloc (Nat.le_refl _) _) HS.out).trans (kp_grown (hown7.alloc _) hgrow (by rw [World.size_alloc]; have := HS.out; omega))))
  have HA := Lib.hid (append_rune B v' (l ++ [92]) 116 (by decide) w1 (by rw [List.length_append, bcells_append]; exact hown') (by rw [List.length_append]; simp; omega) (Nat.le_trans HBW.out HK1.out.size))
  clear hown' hgrow hne hown7 hlk
  go_wp2_with fail
  refine HA.out.mono ?_
  rintro e w2 ⟨v2, rfl, h, hk⟩
  have HV := Lib.hid (show w2.ownsRow B 5 1 v2 (l ++ ([92] ++ encL 116)).length (bcells (l ++ ([92] ++ encL 116))) by rw [← List.append_assoc]; exact h)
  have HK2 := Lib.hid (HK1.out.trans hk)
  clear h hk
  go_wp2_with fail
  go_ret
  exact ⟨_, rfl, HV.out, HK2.out⟩
set_option maxRecDepth 100000 in
set_option maxHeartbeats 4000000 in
theorem quoted_10 (B : Nat) (v : Value) (l : List UInt8) (w : World) (hown : w.ownsRow B 5 1 v l.length (bcells l)) (hlen : l.length ≤ 90000000) (hB : B ≤ w.heap.size) : Calls Tryd.prog 67 #[v, .int .i32 10] w (AppEnd B l ([92] ++ encL 110) w) := by
  obtain ⟨i0, hi, hz0, hz1, hz2⟩ := info_parts Tryd.info5
  have hmm := @run_makeMap Tryd.prog
  have ho0 : Owns32 (w.alloc (.map #[] 0)) w.heap.size 0 (.map []) := World.ownsMap_made (H := Unit) w Tryd.prog 21 (plainElem Tryd.prog 21)
  have B0 : Below w.heap.size w (w.alloc (.map #[] 0)) := (Below.refl _ _).alloc (Nat.le_refl _) _
  obtain ⟨m1, hr1, ho1, hg1⟩ := own_step ho0 34 34 (by omega) (by decide) (by decide)
  have B1 := B0.grown hg1 B0.size (fun j hj => by cases hj; exact Nat.le_refl _)
  obtain ⟨m2, hr2, ho2, hg2⟩ := own_step ho1 92 92 (by omega) (by decide) (by decide)
  have B2 := B1.grown hg2 B1.size (fun j hj => by cases hj; exact Nat.le_refl _)
  obtain ⟨m3, hr3, ho3, hg3⟩ := own_step ho2 8 98 (by omega) (by decide) (by decide)
  have B3 := B2.grown hg3 B2.size (fun j hj => by cases hj; exact Nat.le_refl _)
  obtain ⟨m4, hr4, ho4, hg4⟩ := own_step ho3 9 116 (by omega) (by decide) (by decide)
  have B4 := B3.grown hg4 B3.size (fun j hj => by cases hj; exact Nat.le_refl _)
  obtain ⟨m5, hr5, ho5, hg5⟩ := own_step ho4 10 110 (by omega) (by decide) (by decide)
  have B5 := B4.grown hg5 B4.size (fun j hj => by cases hj; exact Nat.le_refl _)
  obtain ⟨m6, hr6, ho6, hg6⟩ := own_step ho5 12 102 (by omega) (by decide) (by decide)
  have B6 := B5.grown hg6 B5.size (fun j hj => by cases hj; exact Nat.le_refl _)
  obtain ⟨m7, hr7, ho7, hg7⟩ := own_step ho6 13 114 (by omega) (by decide) (by decide)
  have B7 := B6.grown hg7 B6.size (fun j hj => by cases hj; exact Nat.le_refl _)
  have HL := Lib.hid (look_list lettersM (by decide) ho7 10 (by decide))
  rw [show lookD lettersM 10 = some 110 by decide] at HL
  have hown7 := ownsRow_below hown B7
  have HB := Lib.hid B7
  have HS := Lib.hid (Nat.le_trans hB B7.size)
  have HBW := Lib.hid hB
  clear hown hB ho0 B0 ho1 B1 ho2 B2 ho3 B3 ho4 B4 ho5 B5 ho6 B6 ho7 B7 hg1 hg2 hg3 hg4 hg5 hg6 hg7
  have hlk := HL.out
  unfold lookV at hlk
  go_enter Tryd.func67, Tryd.ntmps67
  go_wp2_with (at_builtin; refine wpList_append_own _ rfl _ _ 35 rfl B 5 i0 (.int .u8 0) 1 1 Tryd.underlying35 hi hz0 hz1 hz2 rfl (by decide) _ _ _ rfl (hown7.alloc _) ⟨m7.heap.size, 0, none⟩ 1 1 [.int .u8 92] rfl rfl ?c1 ?c2 ?c3 ?c4 ?c5 ?_)
  case c1 => exact new_add _ _ _
  case c2 => simp [Value.oneCell']
  case c3 => unfold maxLen; omega
  case c4 => omega
  case c5 => rw [World.size_alloc]; have := HS.out; omega
  intro v' w1 hown' hgrow hne
  have HK1 : Hid (Kp B w w1) := Lib.hid ((kp_below HB.out HBW.out).trans ((kp_below ((Below.refl _ _).alloc (Nat.le_refl _) _) HS.out).trans (kp_grown (hown7.alloc _) hgrow (by rw [World.size_alloc]; have := HS.out; omega))))
  have HA := Lib.hid (append_rune B v' (l ++ [92]) 110 (by decide) w1 (by rw [List.length_append, bcells_append]; exact hown') (by rw [List.length_append]; simp; omega) (Nat.le_trans HBW.out HK1.out.size))
  clear hown' hgrow hne hown7 hlk
  go_wp2_with fail
  refine HA.out.mono ?_
  rintro e w2 ⟨v2, rfl, h, hk⟩
  have HV := Lib.hid (show w2.ownsRow B 5 1 v2 (l ++ ([92] ++ encL 110)).length (bcells (l ++ ([92] ++ encL 110))) by rw [← List.append_assoc]; exact h)
  have HK2 := Lib.hid (HK1.out.trans hk)
  clear h hk
  go_wp2_with fail
  go_ret
  exact ⟨_, rfl, HV.out, HK2.out⟩
set_option maxRecDepth 100000 in
set_option maxHeartbeats 4000000 in
theorem quoted_12 (B : Nat) (v : Value) (l : List UInt8) (w : World) (hown : w.ownsRow B 5 1 v l.length (bcells l)) (hlen : l.length ≤ 90000000) (hB : B ≤ w.heap.size) : Calls Tryd.prog 67 #[v, .int .i32 12] w (AppEnd B l ([92] ++ encL 102) w) := by
  obtain ⟨i0, hi, hz0, hz1, hz2⟩ := info_parts Tryd.info5
  have hmm := @run_makeMap Tryd.prog
  have ho0 : Owns32 (w.alloc (.map #[] 0)) w.heap.size 0 (.map []) := World.ownsMap_made (H := Unit) w Tryd.prog 21 (plainElem Tryd.prog 21)
  have B0 : Below w.heap.size w (w.alloc (.map #[] 0)) := (Below.refl _ _).alloc (Nat.le_refl _) _
  obtain ⟨m1, hr1, ho1, hg1⟩ := own_step ho0 34 34 (by omega) (by decide) (by decide)
  have B1 := B0.grown hg1 B0.size (fun j hj => by cases hj; exact Nat.le_refl _)
  obtain ⟨m2, hr2, ho2, hg2⟩ := own_step ho1 92 92 (by omega) (by decide) (by decide)
  have B2 := B1.grown hg2 B1.size (fun j hj => by cases hj; exact Nat.le_refl _)
  obtain ⟨m3, hr3, ho3, hg3⟩ := own_step ho2 8 98 (by omega) (by decide) (by decide)
  have B3 := B2.grown hg3 B2.size (fun j hj => by cases hj; exact Nat.le_refl _)
  obtain ⟨m4, hr4, ho4, hg4⟩ := own_step ho3 9 116 (by omega) (by decide) (by decide)
  have B4 := B3.grown hg4 B3.size (fun j hj => by cases hj; exact Nat.le_refl _)
  obtain ⟨m5, hr5, ho5, hg5⟩ := own_step ho4 10 110 (by omega) (by decide) (by decide)
  have B5 := B4.grown hg5 B4.size (fun j hj => by cases hj; exact Nat.le_refl _)
  obtain ⟨m6, hr6, ho6, hg6⟩ := own_step ho5 12 102 (by omega) (by decide) (by decide)
  have B6 := B5.grown hg6 B5.size (fun j hj => by cases hj; exact Nat.le_refl _)
  obtain ⟨m7, hr7, ho7, hg7⟩ := own_step ho6 13 114 (by omega) (by decide) (by decide)
  have B7 := B6.grown hg7 B6.size (fun j hj => by cases hj; exact Nat.le_refl _)
  have HL := Lib.hid (look_list lettersM (by decide) ho7 12 (by decide))
  rw [show lookD lettersM 12 = some 102 by decide] at HL
  have hown7 := ownsRow_below hown B7
  have HB := Lib.hid B7
  have HS := Lib.hid (Nat.le_trans hB B7.size)
  have HBW := Lib.hid hB
  clear hown hB ho0 B0 ho1 B1 ho2 B2 ho3 B3 ho4 B4 ho5 B5 ho6 B6 ho7 B7 hg1 hg2 hg3 hg4 hg5 hg6 hg7
  have hlk := HL.out
  unfold lookV at hlk
  go_enter Tryd.func67, Tryd.ntmps67
  go_wp2_with (at_builtin; refine wpList_append_own _ rfl _ _ 35 rfl B 5 i0 (.int .u8 0) 1 1 Tryd.underlying35 hi hz0 hz1 hz2 rfl (by decide) _ _ _ rfl (hown7.alloc _) ⟨m7.heap.size, 0, none⟩ 1 1 [.int .u8 92] rfl rfl ?c1 ?c2 ?c3 ?c4 ?c5 ?_)
  case c1 => exact new_add _ _ _
  case c2 => simp [Value.oneCell']
  case c3 => unfold maxLen; omega
  case c4 => omega
  case c5 => rw [World.size_alloc]; have := HS.out; omega
  intro v' w1 hown' hgrow hne
  have HK1 : Hid (Kp B w w1) := Lib.hid ((kp_below HB.out HBW.out).trans ((kp_below ((Below.refl _ _).alloc (Nat.le_refl _) _) HS.out).trans (kp_grown (hown7.alloc _) hgrow (by rw [World.size_alloc]; have := HS.out; omega))))
  have HA := Lib.hid (append_rune B v' (l ++ [92]) 102 (by decide) w1 (by rw [List.length_append, bcells_append]; exact hown') (by rw [List.length_append]; simp; omega) (Nat.le_trans HBW.out HK1.out.size))
  clear hown' hgrow hne hown7 hlk
  go_wp2_with fail
  refine HA.out.mono ?_
  rintro e w2 ⟨v2, rfl, h, hk⟩
  have HV := Lib.hid (show w2.ownsRow B 5 1 v2 (l ++ ([92] ++ encL 102)).length (bcells (l ++ ([92] ++ encL 102))) by rw [← List.append_assoc]; exact h)
  have HK2 := Lib.hid (HK1.out.trans hk)
  clear h hk
  go_wp2_with fail
  go_ret
  exact ⟨_, rfl, HV.out, HK2.out⟩
set_option maxRecDepth 100000 in
set_option maxHeartbeats 4000000 in
theorem quoted_13 (B : Nat) (v : Value) (l : List UInt8) (w : World) (hown : w.ownsRow B 5 1 v l.length (bcells l)) (hlen : l.length ≤ 90000000) (hB : B ≤ w.heap.size) : Calls Tryd.prog 67 #[v, .int .i32 13] w (AppEnd B l ([92] ++ encL 114) w) := by
  obtain ⟨i0, hi, hz0, hz1, hz2⟩ := info_parts Tryd.info5
  have hmm := @run_makeMap Tryd.prog
  have ho0 : Owns32 (w.alloc (.map #[] 0)) w.heap.size 0 (.map []) := World.ownsMap_made (H := Unit) w Tryd.prog 21 (plainElem Tryd.prog 21)
  have B0 : Below w.heap.size w (w.alloc (.map #[] 0)) := (Below.refl _ _).alloc (Nat.le_refl _) _
  obtain ⟨m1, hr1, ho1, hg1⟩ := own_step ho0 34 34 (by omega) (by decide) (by decide)
  have B1 := B0.grown hg1 B0.size (fun j hj => by cases hj; exact Nat.le_refl _)
  obtain ⟨m2, hr2, ho2, hg2⟩ := own_step ho1 92 92 (by omega) (by decide) (by decide)
  have B2 := B1.grown hg2 B1.size (fun j hj => by cases hj; exact Nat.le_refl _)
  obtain ⟨m3, hr3, ho3, hg3⟩ := own_step ho2 8 98 (by omega) (by decide) (by decide)
  have B3 := B2.grown hg3 B2.size (fun j hj => by cases hj; exact Nat.le_refl _)
  obtain ⟨m4, hr4, ho4, hg4⟩ := own_step ho3 9 116 (by omega) (by decide) (by decide)
  have B4 := B3.grown hg4 B3.size (fun j hj => by cases hj; exact Nat.le_refl _)
  obtain ⟨m5, hr5, ho5, hg5⟩ := own_step ho4 10 110 (by omega) (by decide) (by decide)
  have B5 := B4.grown hg5 B4.size (fun j hj => by cases hj; exact Nat.le_refl _)
  obtain ⟨m6, hr6, ho6, hg6⟩ := own_step ho5 12 102 (by omega) (by decide) (by decide)
  have B6 := B5.grown hg6 B5.size (fun j hj => by cases hj; exact Nat.le_refl _)
  obtain ⟨m7, hr7, ho7, hg7⟩ := own_step ho6 13 114 (by omega) (by decide) (by decide)
  have B7 := B6.grown hg7 B6.size (fun j hj => by cases hj; exact Nat.le_refl _)
  have HL := Lib.hid (look_list lettersM (by decide) ho7 13 (by decide))
  rw [show lookD lettersM 13 = some 114 by decide] at HL
  have hown7 := ownsRow_below hown B7
  have HB := Lib.hid B7
  have HS := Lib.hid (Nat.le_trans hB B7.size)
  have HBW := Lib.hid hB
  clear hown hB ho0 B0 ho1 B1 ho2 B2 ho3 B3 ho4 B4 ho5 B5 ho6 B6 ho7 B7 hg1 hg2 hg3 hg4 hg5 hg6 hg7
  have hlk := HL.out
  unfold lookV at hlk
  go_enter Tryd.func67, Tryd.ntmps67
  go_wp2_with (at_builtin; refine wpList_append_own _ rfl _ _ 35 rfl B 5 i0 (.int .u8 0) 1 1 Tryd.underlying35 hi hz0 hz1 hz2 rfl (by decide) _ _ _ rfl (hown7.alloc _) ⟨m7.heap.size, 0, none⟩ 1 1 [.int .u8 92] rfl rfl ?c1 ?c2 ?c3 ?c4 ?c5 ?_)
  case c1 => exact new_add _ _ _
  case c2 => simp [Value.oneCell']
  case c3 => unfold maxLen; omega
  case c4 => omega
  case c5 => rw [World.size_alloc]; have := HS.out; omega
  intro v' w1 hown' hgrow hne
  have HK1 : Hid (Kp B w w1) := Lib.hid ((kp_below HB.out HBW.out).trans ((kp_below ((Below.refl _ _).alloc (Nat.le_refl _) _) HS.out).trans (kp_grown (hown7.alloc _) hgrow (by rw [World.size_alloc]; have := HS.out; omega))))
  have HA := Lib.hid (append_rune B v' (l ++ [92]) 114 (by decide) w1 (by rw [List.length_append, bcells_append]; exact hown') (by rw [List.length_append]; simp; omega) (Nat.le_trans HBW.out HK1.out.size))
  clear hown' hgrow hne hown7 hlk
  go_wp2_with fail
  refine HA.out.mono ?_
  rintro e w2 ⟨v2, rfl, h, hk⟩
  have HV := Lib.hid (show w2.ownsRow B 5 1 v2 (l ++ ([92] ++ encL 114)).length (bcells (l ++ ([92] ++ encL 114))) by rw [← List.append_assoc]; exact h)
  have HK2 := Lib.hid (HK1.out.trans hk)
  clear h hk
  go_wp2_with fail
  go_ret
  exact ⟨_, rfl, HV.out, HK2.out⟩
theorem idx_hex (q : Nat) (h : q < 16) (W : World) : (Instr.index 9 (.string ⟨#[48, 49, 50, 51, 52, 53, 54, 55, 56, 57, 97, 98, 99, 100, 101, 102]⟩) (.int .i32 (q : Int))).run Tryd.prog W = .ok (.int .u8 ((dg q).toNat : Int)) W := by
  rcases (show q = 0 ∨ q = 1 ∨ q = 2 ∨ q = 3 ∨ q = 4 ∨ q = 5 ∨ q = 6 ∨ q = 7 ∨ q = 8 ∨ q = 9 ∨ q = 10 ∨ q = 11 ∨ q = 12 ∨ q = 13 ∨ q = 14 ∨ q = 15 by omega) with rfl | rfl | rfl | rfl | rfl | rfl | rfl | rfl | rfl | rfl | rfl | rfl | rfl | rfl | rfl | rfl
  all_goals kernel_rfl
theorem wp_append_str {P : Program} {o : Oper} {a : Act} {w : World} {K : Act → World → Prop} {Q : Exit → Act → World → Prop} (sl x : Operand) (t u : TypeId)
    (ho : o.op = .call { callee := .builtin .append, args := #[sl, x], argTypes := #[t, u] })
    (base : Nat) (e : TypeId) (i : TypeInfo) (ht : P.underlying t = some (.slice e)) (hu : P.underlying u = some .string) (hi : P.info? e = some i) (hz : i.zero = some (.int .u8 0))
    (hsize : i.size = 1) (hby : i.bytes = 1) (v : Value) (n : Nat) (xs : List Value) (hs : a.eval sl = v) (hown : w.ownsRow base e 1 v n xs) (s : ByteArray) (hx : a.eval x = .string s)
    (h63 : n + s.size ≤ maxLen) (hbytes : n + s.size ≤ 140737488355328) (hbase : base ≤ w.heap.size)
    (h : ∀ v' w', w'.ownsRow base e 1 v' (n + s.size) (xs ++ Lib.strCells s) → w.grownBy w' v.ownBlock → K (a.put o.dst v') w') : o.wp P a w K Q := by
  obtain ⟨v', w', hr, h2, h3, _⟩ := Lib.run_append_own_string (P := P) w base t u o.type e i ht hu hi hz hsize hby v n xs hown s h63 hbytes hbase
  unfold Oper.wp execOp
  simp only [ho, resolve, invoke, builtin, Sem.run_bind, Sem.run_pure, Result.andThen_ok, List.map_toArray, List.map_cons, List.map_nil, hs, hx, hr]
  exact h v' w' h2 h3
set_option maxRecDepth 100000 in
set_option maxHeartbeats 4000000 in
theorem quoted_hex (B : Nat) (v : Value) (l : List UInt8) (p : Nat) (hp : p < 32) (hv : lookD lettersM (p : Int) = none) (w : World) (hown : w.ownsRow B 5 1 v l.length (bcells l)) (hlen : l.length ≤ 90000000) (hB : B ≤ w.heap.size) : Calls Tryd.prog 67 #[v, .int .i32 (p : Int)] w (AppEnd B l ([92, 117, 48, 48] ++ [dg (p / 16), dg (p % 16)]) w) := by
  obtain ⟨i0, hi, hz0, hz1, hz2⟩ := info_parts Tryd.info5
  have hmm := @run_makeMap Tryd.prog
  have ho0 : Owns32 (w.alloc (.map #[] 0)) w.heap.size 0 (.map []) := World.ownsMap_made (H := Unit) w Tryd.prog 21 (plainElem Tryd.prog 21)
  have B0 : Below w.heap.size w (w.alloc (.map #[] 0)) := (Below.refl _ _).alloc (Nat.le_refl _) _
  obtain ⟨m1, hr1, ho1, hg1⟩ := own_step ho0 34 34 (by omega) (by decide) (by decide)
  have B1 := B0.grown hg1 B0.size (fun j hj => by cases hj; exact Nat.le_refl _)
  obtain ⟨m2, hr2, ho2, hg2⟩ := own_step ho1 92 92 (by omega) (by decide) (by decide)
  have B2 := B1.grown hg2 B1.size (fun j hj => by cases hj; exact Nat.le_refl _)
  obtain ⟨m3, hr3, ho3, hg3⟩ := own_step ho2 8 98 (by omega) (by decide) (by decide)
  have B3 := B2.grown hg3 B2.size (fun j hj => by cases hj; exact Nat.le_refl _)
  obtain ⟨m4, hr4, ho4, hg4⟩ := own_step ho3 9 116 (by omega) (by decide) (by decide)
  have B4 := B3.grown hg4 B3.size (fun j hj => by cases hj; exact Nat.le_refl _)
  obtain ⟨m5, hr5, ho5, hg5⟩ := own_step ho4 10 110 (by omega) (by decide) (by decide)
  have B5 := B4.grown hg5 B4.size (fun j hj => by cases hj; exact Nat.le_refl _)
  obtain ⟨m6, hr6, ho6, hg6⟩ := own_step ho5 12 102 (by omega) (by decide) (by decide)
  have B6 := B5.grown hg6 B5.size (fun j hj => by cases hj; exact Nat.le_refl _)
  obtain ⟨m7, hr7, ho7, hg7⟩ := own_step ho6 13 114 (by omega) (by decide) (by decide)
  have B7 := B6.grown hg7 B6.size (fun j hj => by cases hj; exact Nat.le_refl _)
  have HL := Lib.hid (look_list lettersM (by decide) ho7 (p : Int) (WalkArith.wf_i32 (by omega)))
  rw [hv] at HL
  have hown7 := ownsRow_below hown B7
  have HB := Lib.hid B7
  have HS := Lib.hid (Nat.le_trans hB B7.size)
  have HBW := Lib.hid hB
  clear hv hown hB ho0 B0 ho1 B1 ho2 B2 ho3 B3 ho4 B4 ho5 B5 ho6 B6 ho7 B7 hg1 hg2 hg3 hg4 hg5 hg6 hg7
  have d1 : decide (32 ≤ (p : Int)) = false := by simp; omega
  have hlk := HL.out
  unfold lookV at hlk
  skip
  go_enter Tryd.func67, Tryd.ntmps67
  go_wp2_with fail
  have hx : ∀ W, (Instr.index 9 (.string ⟨#[48, 49, 50, 51, 52, 53, 54, 55, 56, 57, 97, 98, 99, 100, 101, 102]⟩) (.int .i32 (IntKind.i32.wrap ((p : Int) / 16)))).run Tryd.prog W = .ok (.int .u8 ((dg (p / 16)).toNat : Int)) W := fun W => by
    rw [show IntKind.i32.wrap ((p : Int) / 16) = ((p / 16 : Nat) : Int) by rw [IntWalk.i32_in _ (by omega)]; omega]
    exact idx_hex (p / 16) (by omega) W
  have hy : ∀ W, (Instr.index 9 (.string ⟨#[48, 49, 50, 51, 52, 53, 54, 55, 56, 57, 97, 98, 99, 100, 101, 102]⟩) (.int .i32 ((p : Int).tmod 16))).run Tryd.prog W = .ok (.int .u8 ((dg (p % 16)).toNat : Int)) W := fun W => by
    rw [show ((p : Int).tmod 16) = ((p % 16 : Nat) : Int) by rw [Int.tmod_eq_emod_of_nonneg (by omega)]; omega]
    exact idx_hex (p % 16) (by omega) W
  clear hlk HL hmm hr1 hr2 hr3 hr4 hr5 hr6 hr7
  refine wp_region_noPanic ?_
  refine wp_region_held_drew (S := fun _ => True) (by kernel_rfl) trivial (fun hHeld => ?_)
  clear hHeld
  refine wpAnyH_take (i := 0) (oi := ⟨some 35, _, _, _, _, _⟩) (v := ?_) rfl (by kernel_rfl) (by kernel_rfl) (by kernel_rfl) (fun _ _ _ h => h) (Or.inl ⟨by rfl, ?_⟩) trivial ?_
  rotate_left
  · (intro W hSW; go_simp; first | done | with_reducible rfl)
  simp only [Act.put, List.setIfInBounds_toArray, List.set_cons_zero, List.set_cons_succ]
  refine wpAnyH_take (i := 2) (oi := ⟨some 37, _, _, _, _, _⟩) (v := ?_) rfl (by kernel_rfl) (by kernel_rfl) (by kernel_rfl) (fun _ _ _ h => h) (Or.inl ⟨by rfl, ?_⟩) trivial ?_
  rotate_left
  · (intro W hSW; go_simp; first | done | with_reducible rfl)
  simp only [Act.put, List.setIfInBounds_toArray, List.set_cons_zero, List.set_cons_succ]
  refine wpAnyH_take (i := 3) (oi := ⟨some 38, _, _, _, _, _⟩) (v := ?_) rfl (by kernel_rfl) (by kernel_rfl) (by kernel_rfl) (fun _ _ _ h => h) (Or.inl ⟨by rfl, ?_⟩) trivial ?_
  rotate_left
  · (intro W hSW; go_simp; first | done | with_reducible rfl)
  simp only [Act.put, List.setIfInBounds_toArray, List.set_cons_zero, List.set_cons_succ]
  refine wpAnyH_take (i := 4) (oi := ⟨some 39, _, _, _, _, _⟩) (v := ?_) rfl (by kernel_rfl) (by kernel_rfl) (by kernel_rfl) (fun _ _ _ h => h) (Or.inl ⟨by rfl, ?_⟩) trivial ?_
  rotate_left
  · (intro W hSW; go_simp; first | done | with_reducible rfl)
  simp only [Act.put, List.setIfInBounds_toArray, List.set_cons_zero, List.set_cons_succ]
  refine wpAnyH_take (i := 5) (oi := ⟨some 40, _, _, _, _, _⟩) (v := ?_) rfl (by kernel_rfl) (by kernel_rfl) (by kernel_rfl) (fun _ _ _ h => h) (Or.inl ⟨by rfl, ?_⟩) trivial ?_
  rotate_left
  · (intro W hSW; go_simp; first | done | with_reducible rfl)
  simp only [Act.put, List.setIfInBounds_toArray, List.set_cons_zero, List.set_cons_succ]
  refine wpAnyH_take (i := 6) (oi := ⟨some 41, _, _, _, _, _⟩) (v := ?_) rfl (by kernel_rfl) (by kernel_rfl) (by kernel_rfl) (fun _ _ _ h => h) (Or.inl ⟨by rfl, ?_⟩) trivial ?_
  rotate_left
  · (intro W hSW; go_simp; first | done | with_reducible rfl)
  simp only [Act.put, List.setIfInBounds_toArray, List.set_cons_zero, List.set_cons_succ]
  refine wpAnyH_take (i := 7) (oi := ⟨some 42, _, _, _, _, _⟩) (v := ?_) rfl (by kernel_rfl) (by kernel_rfl) (by kernel_rfl) (fun _ _ _ h => h) (Or.inl ⟨by rfl, ?_⟩) trivial ?_
  rotate_left
  · (intro W hSW; go_simp; first | done | with_reducible rfl)
  simp only [Act.put, List.setIfInBounds_toArray, List.set_cons_zero, List.set_cons_succ]
  clear hx hy
  have h7d : m7.drew.ownsRow B 5 1 v l.length (bcells l) := hown7
  refine wpAnyH_ready (rs := [1, 8]) (by kernel_rfl) (by simp) ?_
  refine AllReadyH.cons (o := ⟨some 36, _, _, _, _, _⟩) rfl (fun K hK => ?_) ?_
  · rw [if_pos (by kernel_rfl)]
    refine wp_append_str (P := Tryd.prog) _ _ 35 9 rfl B 5 i0 Tryd.underlying35 Tryd.underlying9 hi hz0 hz1 hz2 _ _ _ rfl h7d ⟨#[92, 117, 48, 48]⟩ rfl (by show l.length + 4 ≤ maxLen; unfold maxLen; omega) (by show l.length + 4 ≤ _; omega) HS.out (fun v1 w1 ho1 hg1 => ?_)
    refine hK.out _ _ trivial (fun hHeld => ?_)
    clear hK K hHeld
    try simp only [Act.put, List.setIfInBounds_toArray, List.set_cons_zero, List.set_cons_succ]
    have hk1 : Kp B m7 w1 := (kp_drew B m7).trans (kp_grown h7d (show m7.drew.grownBy w1 v.ownBlock from hg1) HS.out)
    clear hg1
    have hs1 : B ≤ w1.heap.size := Nat.le_trans HS.out hk1.size
    refine wpAnyH_ready (rs := [8]) (by kernel_rfl) (by simp) ?_
    refine AllReadyH.cons (o := ⟨some 43, _, _, _, _, _⟩) rfl (fun K hK => ?_) AllReadyH.nil
    go_simp
    refine hK.out _ _ trivial (fun hHeld => ?_)
    clear hK K hHeld
    try simp only [Act.put, List.setIfInBounds_toArray, List.set_cons_zero, List.set_cons_succ]
    refine wpAnyH_ready (rs := [9]) (by kernel_rfl) (by simp) ?_
    refine AllReadyH.cons (o := ⟨some 44, _, _, _, _, _⟩) rfl (fun K hK => ?_) AllReadyH.nil
    rw [if_pos (by kernel_rfl)]
    refine wp_append_own (P := Tryd.prog) _ _ _ 35 rfl B 5 i0 (.int .u8 0) 1 1 Tryd.underlying35 hi hz0 hz1 hz2 rfl (by decide) _ _ _ rfl (ho1.alloc _) ⟨w1.heap.size, 0, none⟩ 2 2 [.int .u8 ((dg (p / 16)).toNat : Int), .int .u8 ((dg (p % 16)).toNat : Int)] rfl rfl (new_adds _ _ _) (by simp [Value.oneCell']) (by show l.length + 4 + 2 ≤ maxLen; unfold maxLen; omega) (by show (l.length + 4 + 2) * 1 ≤ _; omega) (by rw [World.size_alloc]; omega) (fun v2 w2 ho2 hg2 _ => ?_)
    have hk2 : Kp B m7 w2 := hk1.trans ((kp_below ((Below.refl _ _).alloc (Nat.le_refl _) _) hs1).trans (kp_grown (ho1.alloc _) (show (w1.alloc _).grownBy w2 v1.ownBlock from hg2) (by rw [World.size_alloc]; omega)))
    have HE : Hid (w2.ownsRow B 5 1 v2 (l ++ ([92, 117, 48, 48] ++ [dg (p / 16), dg (p % 16)])).length (bcells (l ++ ([92, 117, 48, 48] ++ [dg (p / 16), dg (p % 16)]))) ∧ Kp B w w2) := Lib.hid ⟨hex_row l _ _ ho2, (kp_below HB.out HBW.out).trans hk2⟩
    clear hg2 ho2 hk2 hk1 ho1 hs1
    refine hK.out _ _ trivial (fun hHeld => ?_)
    clear hK K hHeld
    try simp only [Act.put, List.setIfInBounds_toArray, List.set_cons_zero, List.set_cons_succ]
    refine wpAnyH_take (i := 10) (oi := ⟨some 4, _, _, _, _, _⟩) (v := ?_) rfl (by kernel_rfl) (by kernel_rfl) (by kernel_rfl) (fun _ _ _ h => h) (Or.inl ⟨by rfl, ?_⟩) trivial ?_
    rotate_left
    · (intro W hSW; go_simp; first | done | with_reducible rfl)
    simp only [Act.put, List.setIfInBounds_toArray, List.set_cons_zero, List.set_cons_succ]
    refine wpAnyH_done (by kernel_rfl) ?_ _
    refine NoPanic.normal ?_
    go_wp2_with fail
    go_ret
    exact ⟨_, rfl, HE.out.1, HE.out.2⟩
  · refine AllReadyH.cons (o := ⟨some 43, _, _, _, _, _⟩) rfl (fun K hK => ?_) AllReadyH.nil
    go_simp
    refine hK.out _ _ trivial (fun hHeld => ?_)
    clear hK K hHeld
    try simp only [Act.put, List.setIfInBounds_toArray, List.set_cons_zero, List.set_cons_succ]
    refine wpAnyH_ready (rs := [1]) (by kernel_rfl) (by simp) ?_
    refine AllReadyH.cons (o := ⟨some 36, _, _, _, _, _⟩) rfl (fun K hK => ?_) AllReadyH.nil
    rw [if_pos (by kernel_rfl)]
    refine wp_append_str (P := Tryd.prog) _ _ 35 9 rfl B 5 i0 Tryd.underlying35 Tryd.underlying9 hi hz0 hz1 hz2 _ _ _ rfl (h7d.alloc (.cells #[.int .u8 ((dg (p / 16)).toNat : Int), .int .u8 ((dg (p % 16)).toNat : Int)] 5)) ⟨#[92, 117, 48, 48]⟩ rfl (by show l.length + 4 ≤ maxLen; unfold maxLen; omega) (by show l.length + 4 ≤ _; omega) (Nat.le_trans HS.out (by show m7.heap.size ≤ (m7.alloc _).heap.size; rw [World.size_alloc]; omega)) (fun v1 w1 ho1 hg1 => ?_)
    have hg1' : (m7.drew.alloc (.cells #[.int .u8 ((dg (p / 16)).toNat : Int), .int .u8 ((dg (p % 16)).toNat : Int)] 5)).grownBy w1 v.ownBlock := hg1
    clear hg1
    have hka : Kp B m7 (m7.drew.alloc (.cells #[.int .u8 ((dg (p / 16)).toNat : Int), .int .u8 ((dg (p % 16)).toNat : Int)] 5)) := (kp_drew B m7).trans (kp_below ((Below.refl _ _).alloc (Nat.le_refl _) _) HS.out)
    have hk1 : Kp B m7 w1 := hka.trans (kp_grown (h7d.alloc _) hg1' (Nat.le_trans HS.out (by show m7.heap.size ≤ (m7.alloc _).heap.size; rw [World.size_alloc]; omega)))
    have hs1 : B ≤ w1.heap.size := Nat.le_trans HS.out hk1.size
    have hnews : ∀ j u, ([.int .u8 ((dg (p / 16)).toNat : Int), .int .u8 ((dg (p % 16)).toNat : Int)] : List Value)[j]? = some u → w1.cell? ((⟨m7.heap.size, 0, none⟩ : Addr).add j) = some u := by
      intro j u hj
      have hx := new_adds m7 [.int .u8 ((dg (p / 16)).toNat : Int), .int .u8 ((dg (p % 16)).toNat : Int)] 5 j u hj
      rw [Addr.add_lit, Nat.zero_add] at hx ⊢
      exact (cell_blockQ (hg1'.block m7.heap.size (by show m7.heap.size < (m7.alloc _).heap.size; rw [World.size_alloc]; omega) (own_farQ h7d _ (.inr (Nat.le_refl _)))) j).trans hx
    clear hg1' hka
    refine hK.out _ _ trivial (fun hHeld => ?_)
    clear hK K hHeld
    try simp only [Act.put, List.setIfInBounds_toArray, List.set_cons_zero, List.set_cons_succ]
    refine wpAnyH_ready (rs := [9]) (by kernel_rfl) (by simp) ?_
    refine AllReadyH.cons (o := ⟨some 44, _, _, _, _, _⟩) rfl (fun K hK => ?_) AllReadyH.nil
    rw [if_pos (by kernel_rfl)]
    refine wp_append_own (P := Tryd.prog) _ _ _ 35 rfl B 5 i0 (.int .u8 0) 1 1 Tryd.underlying35 hi hz0 hz1 hz2 rfl (by decide) _ _ _ rfl ho1 ⟨m7.heap.size, 0, none⟩ 2 2 [.int .u8 ((dg (p / 16)).toNat : Int), .int .u8 ((dg (p % 16)).toNat : Int)] rfl rfl hnews (by simp [Value.oneCell']) (by show l.length + 4 + 2 ≤ maxLen; unfold maxLen; omega) (by show (l.length + 4 + 2) * 1 ≤ _; omega) hs1 (fun v2 w2 ho2 hg2 _ => ?_)
    have hk2 : Kp B m7 w2 := hk1.trans (kp_grown ho1 (show w1.grownBy w2 v1.ownBlock from hg2) hs1)
    have HE : Hid (w2.ownsRow B 5 1 v2 (l ++ ([92, 117, 48, 48] ++ [dg (p / 16), dg (p % 16)])).length (bcells (l ++ ([92, 117, 48, 48] ++ [dg (p / 16), dg (p % 16)]))) ∧ Kp B w w2) := Lib.hid ⟨hex_row l _ _ ho2, (kp_below HB.out HBW.out).trans hk2⟩
    clear hg2 ho2 hk2 hk1 ho1 hs1 hnews
    refine hK.out _ _ trivial (fun hHeld => ?_)
    clear hK K hHeld
    try simp only [Act.put, List.setIfInBounds_toArray, List.set_cons_zero, List.set_cons_succ]
    refine wpAnyH_take (i := 10) (oi := ⟨some 4, _, _, _, _, _⟩) (v := ?_) rfl (by kernel_rfl) (by kernel_rfl) (by kernel_rfl) (fun _ _ _ h => h) (Or.inl ⟨by rfl, ?_⟩) trivial ?_
    rotate_left
    · (intro W hSW; go_simp; first | done | with_reducible rfl)
    simp only [Act.put, List.setIfInBounds_toArray, List.set_cons_zero, List.set_cons_succ]
    refine wpAnyH_done (by kernel_rfl) ?_ _
    refine NoPanic.normal ?_
    go_wp2_with fail
    go_ret
    exact ⟨_, rfl, HE.out.1, HE.out.2⟩
theorem lookD_letters (p : Nat) (h : p ≠ 34 ∧ p ≠ 92 ∧ p ≠ 8 ∧ p ≠ 9 ∧ p ≠ 10 ∧ p ≠ 12 ∧ p ≠ 13) : lookD lettersM (p : Int) = none := by
  unfold lettersM
  simp only [lookD]
  repeat' split
  all_goals first | omega | rfl
theorem appendQuoted_any (B : Nat) (v : Value) (l : List UInt8) (p : Nat) (hp : isPt (p : Int) = true) (w : World) (hown : w.ownsRow B 5 1 v l.length (bcells l)) (hlen : l.length ≤ 90000000) (hB : B ≤ w.heap.size) : Calls Tryd.prog 67 #[v, .int .i32 (p : Int)] w (AppEnd B l (qP p) w) := by
  unfold qP
  by_cases h34 : p = 34
  · subst h34; exact quoted_34 B v l w hown hlen hB
  by_cases h92 : p = 92
  · subst h92; exact quoted_92 B v l w hown hlen hB
  by_cases h8 : p = 8
  · subst h8; exact quoted_8 B v l w hown hlen hB
  by_cases h9 : p = 9
  · subst h9; exact quoted_9 B v l w hown hlen hB
  by_cases h10 : p = 10
  · subst h10; exact quoted_10 B v l w hown hlen hB
  by_cases h12 : p = 12
  · subst h12; exact quoted_12 B v l w hown hlen hB
  by_cases h13 : p = 13
  · subst h13; exact quoted_13 B v l w hown hlen hB
  rw [if_neg h34, if_neg h92, if_neg h8, if_neg h9, if_neg h10, if_neg h12, if_neg h13]
  by_cases h32 : p < 32
  · rw [if_pos h32]
    exact quoted_hex B v l p h32 (lookD_letters p ⟨h34, h92, h8, h9, h10, h12, h13⟩) w hown hlen hB
  · rw [if_neg h32]
    exact quoted_plain B v l p hp (by omega) h34 h92 w hown (by omega) hB
end Go.Proofs.YtmkjoonbjmieoaaDoor
