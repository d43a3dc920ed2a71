/-
  json's listed and value, of a reader that lies in memory: the value that the tokens begin with, or false; nothing that was there turns but the reader. No condition but the reader's.
-/
import Derived.Test.YtmkjoonbjmieoaaDoorQEntry
namespace Go.Proofs.YtmkjoonbjmieoaaDoor
open Go.RowKit

theorem one_value {F : Nat} (HV : VOK F) (N R O Mb : Nat) : ∀ f, f < F → ∀ (ts : List Tok) (tw : Bool) (ks : List (List UInt8)) (w : World), 2 * ts.length < f → St false N R O Mb w ts tw ks →
    Calls Tryd.prog 15 #[.pointer (some ⟨R, 0, none⟩)] w (OneEnd false N R O Mb w (po f false ks ts tw)) := by
  intro f hf ts tw ks w hb h
  have hx : ∀ W k, XS false R O Mb W k ↔ k = R := fun W k => by unfold XS; simp
  have hlt := h.1.lt
  have hks := h.2.2.1 rfl
  have hbd := h.1.tb.1
  subst hks
  have hpe : po f false [] ts tw = (pv f ts tw).map fun r => (r.1, [], r.2.1, r.2.2) := rfl
  rw [hpe]
  refine (HV f hf R ts tw w hb h.1).mono ?_
  intro e w' he
  cases hp : pv f ts tw with
  | none =>
    rw [hp] at he
    obtain ⟨k, s, A, n, c, B, m, d, he, hfr⟩ := he
    show OneEnd false N R O Mb w none e w'
    exact ⟨k, s, A, n, c, B, m, d, he, hfr.mono (fun k _ hk => (hx w k).2 hk), fun h => (by cases h)⟩
  | some r =>
    obtain ⟨j, ts', tw'⟩ := r
    rw [hp] at he
    obtain ⟨v, he, hj, hr, hfr⟩ := he
    have hlen := pv_len _ _ _ _ _ _ hp
    show OneEnd false N R O Mb w (some (j, [], ts', tw')) e w'
    exact ⟨v, he, JIn.keep (fun _ _ _ => rfl) (fun k hk _ => ⟨hk, fun hh => by have := (hx w' k).1 hh; omega⟩) _ _ hj, ⟨hr, fun h => (by cases h), fun _ => rfl, by simp only [List.length_nil]; omega⟩, hfr.mono (fun k _ hk => (hx w k).2 hk), fun k _ hh => (hx w k).2 ((hx w' k).1 hh)⟩
/-- A value whose Kind is known, the rest as it is laid. -/
def JB (W : World) (N : Nat) (z : Int) : Prop := W.heap[N]? = some (.cells #[.int .i64 z, .string ⟨#[]⟩, .slice none 0 0, .slice none 0 0] 26 (0, 0))
theorem jb_cells {W : World} {N : Nat} {z : Int} (h : JB W N z) : W.cell? ⟨N, 0, none⟩ = some (.int .i64 z) ∧ W.cell? ⟨N, 1, none⟩ = some (.string ⟨#[]⟩) ∧ W.cell? ⟨N, 2, none⟩ = some (.slice none 0 0) ∧ W.cell? ⟨N, 3, none⟩ = some (.slice none 0 0) ∧ W.frozen? ⟨N, 0, none⟩ = false ∧ W.frozen? ⟨N, 1, none⟩ = false ∧ W.frozen? ⟨N, 2, none⟩ = false ∧ W.frozen? ⟨N, 3, none⟩ = false ∧ N < W.heap.size := by
  have hlt := (Array.getElem?_eq_some_iff.1 h).1
  unfold JB at h
  refine ⟨?_, ?_, ?_, ?_, ?_, ?_, ?_, ?_, hlt⟩
  all_goals first | (unfold World.cell?; simp only [h]; rfl) | (unfold World.frozen?; simp only [h]; rfl)
/-- What a mark and what follows it are. -/
def lres (f : Nat) (x : List UInt8) (ts : List Tok) (tw : Bool) : Option (J × List Tok × Bool) :=
  if x = [91] then (plR f false [] ts tw).map fun r => (.mk 5 [] [] r.1, r.2.2.1, r.2.2.2)
  else if x = [123] then (plR f true [] ts tw).map fun r => (.mk 6 [] r.2.1 r.1, r.2.2.1, r.2.2.2)
  else none
set_option maxRecDepth 100000 in
set_option maxHeartbeats 1000000 in
theorem listed_arr {F : Nat} (HV : VOK F) (f : Nat) (hfF : f ≤ F) (R : Nat) (ts : List Tok) (tw : Bool) (hb : 2 * ts.length + 1 < f) (w : World) (h : RSt w R ts tw) :
    Calls Tryd.prog 30 #[.pointer (some ⟨R, 0, none⟩), .string (txt [91])] w (VEnd R w (lres f [91] ts tw)) := by
  have e1 : ((txt [91]).toList == [91]) = true := by rw [txt_list]; rfl
  have HI := Lib.hid (fun w h => items_value 0 R 0 0 F (Lib.hid (one_value HV 0 R 0 0)) ⟨#[93]⟩ rfl f hfF ts tw [] hb w h)
  have HL : Hid (lres f [91] ts tw = (plR f false [] ts tw).map fun r => (.mk 5 [] [] r.1, r.2.2.1, r.2.2.2)) := Lib.hid rfl
  have hlt := h.lt
  have hx : ∀ W k, XS false R 0 0 W k ↔ k = R := fun W k => by unfold XS; simp
  have HS : Hid (∀ w', Below w.heap.size w w' → St false 0 R 0 0 w' ts tw []) := Lib.hid (fun w' hb => ⟨h.below hb, fun h => (by cases h), fun _ => rfl, by have := h.tb.1; simpa using this⟩)
  generalize txt [91] = X at *
  clear h
  go_enter Tryd.func30, Tryd.ntmps30
  go_wp2_with fail
  have HA0 : Hid (JB (w.alloc (.cells #[.int .i64 5, .string ⟨#[]⟩, .slice none 0 0, .slice none 0 0] 26)) w.heap.size 5) := Lib.hid (alloc_top w _ _)
  have HB0 := Lib.hid (alloc_below w (.cells #[.int .i64 5, .string ⟨#[]⟩, .slice none 0 0, .slice none 0 0] 26))
  have HS0 := Lib.hid (HS.out _ HB0.out)
  generalize w.alloc (.cells #[.int .i64 5, .string ⟨#[]⟩, .slice none 0 0, .slice none 0 0] 26) = w0 at *
  have h0l := (jb_cells HA0.out).2.2.2.2.2.2.2.2
  have h00 := HB0.out.size
  cases hp : plR f false [] ts tw with
  | none =>
    have HC : Hid (Calls Tryd.prog 49 #[.pointer (some ⟨R, 0, none⟩), .string ⟨#[93]⟩, .func (.func 15) #[.pointer (some ⟨R, 0, none⟩)] #[]] w0 fun e w' => e = .returned (.tuple #[.slice none 0 0, .bool false]) ∧ Fr (XS false R 0 0 w0) w0 w' ∧ OK1 false 0 w') := Lib.hid (by
      have := HI.out w0 HS0.out
      rw [hp] at this
      exact this)
    have HN : Hid (lres f [91] ts tw = none) := Lib.hid (by rw [HL.out, hp]; rfl)
    clear hp HI HS HS0
    refine HC.out.mono ?_
    rintro e w3 ⟨rfl, hf, _⟩
    have HA3 : Hid (JB w3 w.heap.size 5) := Lib.hid ((hf.block _ h0l (fun hh => by have := (hx w0 _).1 hh; omega)).trans HA0.out)
    have HF3 : Hid (Fr (· = R) w w3) := Lib.hid ((Fr.of_below HB0.out).chain hf (fun k _ hk => (hx w0 k).1 hk))
    obtain ⟨c0, c1, c2, c3, f0, f1, f2, f3, hN⟩ := jb_cells HA3.out
    clear hf
    go_wp2_with fail
    rw [HN.out]
    refine ret_cell2 (p := 4) (u := 5) rfl _ rfl _ (load_jv (jz_set4 (jz_set HA3.out _) _ _ _ _)) ⟨_, _, _, _, _, _, _, _, rfl, ?_⟩
    exact (HF3.out.setCell (.inr (Nat.le_refl _)) _).set4 (Nat.le_refl _) _ _ _ _
  | some r =>
    obtain ⟨l, ks', ts', tw'⟩ := r
    have HC : Hid (Calls Tryd.prog 49 #[.pointer (some ⟨R, 0, none⟩), .string ⟨#[93]⟩, .func (.func 15) #[.pointer (some ⟨R, 0, none⟩)] #[]] w0 fun e w' => ItemsEnd false 0 R 0 0 w0 (some (l, ks', ts', tw')) e w') := Lib.hid (by
      have := HI.out w0 HS0.out
      rw [hp] at this
      exact this)
    have HN : Hid (lres f [91] ts tw = some (.mk 5 [] [] l, ts', tw')) := Lib.hid (by rw [HL.out, hp]; rfl)
    clear hp HI HS HS0
    refine HC.out.mono ?_
    rintro e w3 ⟨ia, ic, rfl, hit, hst, hf, _⟩
    have HA3 : Hid (JB w3 w.heap.size 5) := Lib.hid ((hf.block _ h0l (fun hh => by have := (hx w0 _).1 hh; omega)).trans HA0.out)
    have HF3 : Hid (Fr (· = R) w w3) := Lib.hid ((Fr.of_below HB0.out).chain hf (fun k _ hk => (hx w0 k).1 hk))
    obtain ⟨c0, c1, c2, c3, f0, f1, f2, f3, hN⟩ := jb_cells HA3.out
    have HIT := Lib.hid hit
    have HST := Lib.hid hst
    clear hf hit hst
    go_wp2_with fail
    rw [HN.out]
    refine ret_cell2 (p := 4) (u := 5) rfl _ rfl _ (load_jv (jz_set4 (jz_set HA3.out _) _ _ _ _)) ?_
    have hset : ∀ k : Nat, k ≠ w.heap.size → (((((w3.setCell ⟨w.heap.size, 3, none⟩ (.slice ia l.length ic)).setCell ⟨w.heap.size, 0, none⟩ (.int .i64 5)).setCell ⟨w.heap.size, 1, none⟩ (.string ⟨#[]⟩)).setCell ⟨w.heap.size, 2, none⟩ (.slice none 0 0)).setCell ⟨w.heap.size, 3, none⟩ (.slice ia l.length ic)).heap[k]? = w3.heap[k]? := fun k hk => by
      rw [heap_setCell_other _ ⟨w.heap.size, 3, none⟩ k _ hk, heap_setCell_other _ ⟨w.heap.size, 2, none⟩ k _ hk, heap_setCell_other _ ⟨w.heap.size, 1, none⟩ k _ hk, heap_setCell_other _ ⟨w.heap.size, 0, none⟩ k _ hk, heap_setCell_other _ ⟨w.heap.size, 3, none⟩ k _ hk]
    have hFin := (HF3.out.setCell (.inr (Nat.le_refl _)) (.slice ia l.length ic) (i := 3)).set4 (Nat.le_refl _) (.int .i64 5) (.string ⟨#[]⟩) (.slice none 0 0) (.slice ia l.length ic)
    generalize (((((w3.setCell ⟨w.heap.size, 3, none⟩ (.slice ia l.length ic)).setCell ⟨w.heap.size, 0, none⟩ (.int .i64 5)).setCell ⟨w.heap.size, 1, none⟩ (.string ⟨#[]⟩)).setCell ⟨w.heap.size, 2, none⟩ (.slice none 0 0)).setCell ⟨w.heap.size, 3, none⟩ (.slice ia l.length ic)) = wf at *
    have h0g : w.heap.size < w0.heap.size := h0l
    refine ⟨_, rfl, ?_, HST.out.1.keep (fun k hk => hset k (by omega)), hFin⟩
    rw [JIn]
    refine ⟨none, 0, ia, ic, rfl, fun h => absurd h (by simp), fun hp => ?_⟩
    obtain ⟨b, hA, hb2, hl⟩ := HIT.out hp
    exact ⟨b, 0, hA, by show w.heap.size ≤ b; omega, LIn.keep (fun k hk _ => hset k (by have := hk.1; omega)) (fun k hk _ => by have := hk.1; omega) b hb2 l 0 hl⟩
theorem kin_of {W : World} {base : Nat} {v : Value} {ks : List (List UInt8)} (h : W.ownsRow base 9 1 v ks.length (kcells ks)) : ∃ A c, v = .slice A ks.length c ∧ KIn W (fun k => base ≤ k) A ks := by
  rcases h.2 with ⟨rfl, h0⟩ | ⟨g, cap, cur, rfl, hb, hg, _, _, _, ht⟩
  · exact ⟨none, 0, by rw [h0], fun hp => by omega⟩
  · refine ⟨_, cap, rfl, fun _ => ⟨g, 0, rfl, hb, fun i x hx => ?_⟩⟩
    have hk : (kcells ks)[i]? = some (.string (txt x)) := by unfold kcells; rw [List.getElem?_map, hx]; rfl
    rw [Nat.zero_add, cell_at hg, ← Array.getElem?_toList]
    rw [← ht, List.getElem?_take] at hk
    split at hk
    · exact hk
    · cases hk
theorem obj_start {R : Nat} {ts : List Tok} {tw : Bool} {w : World} (h : RSt w R ts tw) (z : Array Value) (S : TypeId) :
    St true (w.heap.size + 1) R (w.heap.size + 1 + 1) (w.heap.size + 1) (((w.alloc (.cells z S)).alloc (.map #[] 0)).alloc (.cells #[.pointer (some ⟨R, 0, none⟩), .slice none 0 0, .map (some (w.heap.size + 1))] 91)) ts tw [] ∧
    Below w.heap.size w (((w.alloc (.cells z S)).alloc (.map #[] 0)).alloc (.cells #[.pointer (some ⟨R, 0, none⟩), .slice none 0 0, .map (some (w.heap.size + 1))] 91)) ∧
    (((w.alloc (.cells z S)).alloc (.map #[] 0)).alloc (.cells #[.pointer (some ⟨R, 0, none⟩), .slice none 0 0, .map (some (w.heap.size + 1))] 91)).heap[w.heap.size]? = some (.cells z S (0, 0)) ∧
    (((w.alloc (.cells z S)).alloc (.map #[] 0)).alloc (.cells #[.pointer (some ⟨R, 0, none⟩), .slice none 0 0, .map (some (w.heap.size + 1))] 91)).heap.size = w.heap.size + 1 + 1 + 1 := by
  have hlt := h.lt
  have s1 : (w.alloc (.cells z S)).heap.size = w.heap.size + 1 := World.size_alloc ..
  have s2 : ((w.alloc (.cells z S)).alloc (.map #[] 0)).heap.size = w.heap.size + 1 + 1 := by rw [World.size_alloc, s1]
  have hb : Below w.heap.size w (((w.alloc (.cells z S)).alloc (.map #[] 0)).alloc (.cells #[.pointer (some ⟨R, 0, none⟩), .slice none 0 0, .map (some (w.heap.size + 1))] 91)) :=
    ((alloc_below w _).trans ((alloc_below _ _).mono (by omega))).trans ((alloc_below _ _).mono (by omega))
  refine ⟨⟨h.below hb, fun _ => ⟨.slice none 0 0, ?_, World.ownsRow_nil _ _ _ _, ?_, by omega, Nat.le_refl _, by omega, by simp [Value.ownBlock], by simp [Value.ownBlock], by omega⟩, fun h => (by cases h), by have := h.tb.1; simpa using this⟩, hb, heap_alloc_old (heap_alloc_old (alloc_top w z S)), by rw [World.size_alloc, s2]⟩
  · have := alloc_top ((w.alloc (.cells z S)).alloc (.map #[] 0)) #[.pointer (some ⟨R, 0, none⟩), .slice none 0 0, .map (some (w.heap.size + 1))] 91
    rw [s2] at this
    exact this
  · have hk := KSet.made (w.alloc (.cells z S))
    rw [s1] at hk
    exact hk.keep ((alloc_below _ _).block _ (by rw [s2]; omega))
set_option maxRecDepth 100000 in
set_option maxHeartbeats 1000000 in
theorem listed_obj {F : Nat} (HV : VOK F) (f : Nat) (hfF : f ≤ F) (R : Nat) (ts : List Tok) (tw : Bool) (hb : 2 * ts.length + 1 < f) (w : World) (h : RSt w R ts tw) :
    Calls Tryd.prog 30 #[.pointer (some ⟨R, 0, none⟩), .string (txt [123])] w (VEnd R w (lres f [123] ts tw)) := by
  have e0 : ((txt [123]).toList == [91]) = false := by rw [txt_list]; rfl
  have e1 : ((txt [123]).toList == [123]) = true := by rw [txt_list]; rfl
  have hlt := h.lt
  have hmm := @run_makeMap Tryd.prog
  have HI := Lib.hid (fun w' h => items_entry (w.heap.size + 1) R (w.heap.size + 1 + 1) (w.heap.size + 1) F (Lib.hid (fun f hf ts tw ks w hb h => entry_any _ _ _ _ F HV f hf ts tw ks w hb h)) ⟨#[125]⟩ rfl f hfF ts tw [] hb w' h)
  have HL : Hid (lres f [123] ts tw = (plR f true [] ts tw).map fun r => (.mk 6 [] r.2.1 r.1, r.2.2.1, r.2.2.2)) := Lib.hid rfl
  have HST0 := Lib.hid (obj_start h #[.int .i64 6, .string ⟨#[]⟩, .slice none 0 0, .slice none 0 0] 26)
  generalize txt [123] = X at *
  clear h
  go_enter Tryd.func30, Tryd.ntmps30
  go_wp2_with fail
  obtain ⟨hst0, hb0, hj0, hsz0⟩ := HST0.out
  have HS0 := Lib.hid hst0
  have HB0 := Lib.hid hb0
  have HA0 : Hid (JB _ w.heap.size 6) := Lib.hid hj0
  clear HST0 hst0 hb0 hj0
  generalize (((w.alloc (.cells #[.int .i64 6, .string ⟨#[]⟩, .slice none 0 0, .slice none 0 0] 26)).alloc (.map #[] 0)).alloc (.cells #[.pointer (some ⟨R, 0, none⟩), .slice none 0 0, .map (some (w.heap.size + 1))] 91)) = w0 at *
  have hx0 : ∀ k, XS true R (w.heap.size + 1 + 1) (w.heap.size + 1) w0 k → k = R ∨ w.heap.size < k := fun k hh => by
    rcases hh with hh | ⟨_, hh | hh | hh⟩
    · exact .inl hh
    · exact .inr (by omega)
    · exact .inr (by omega)
    · obtain ⟨v, hO, hv, _⟩ := HS0.out.2.1 rfl
      have := (World.ownsRow.lt hv k ((KB.of hO).1 hh)).1
      exact .inr (by omega)
  cases hp : plR f true [] ts tw with
  | none =>
    have HC : Hid (Calls Tryd.prog 49 #[.pointer (some ⟨R, 0, none⟩), .string ⟨#[125]⟩, .func (.func 50) #[.pointer (some ⟨w.heap.size + 1 + 1, 0, none⟩)] #[]] w0 fun e w' => e = .returned (.tuple #[.slice none 0 0, .bool false]) ∧ Fr (XS true R (w.heap.size + 1 + 1) (w.heap.size + 1) w0) w0 w' ∧ OK1 true (w.heap.size + 1 + 1) w') := Lib.hid (by
      have := HI.out w0 HS0.out
      rw [hp] at this
      exact this)
    have HN : Hid (lres f [123] ts tw = none) := Lib.hid (by rw [HL.out, hp]; rfl)
    clear hp HI HS0
    refine HC.out.mono ?_
    rintro e w3 ⟨rfl, hf, hok⟩
    have HA3 : Hid (JB w3 w.heap.size 6) := Lib.hid ((hf.block _ (by omega) (fun hh => by rcases hx0 _ hh with h | h <;> omega)).trans HA0.out)
    have HF3 : Hid (Fr (· = R) w w3) := Lib.hid ((Fr.of_below HB0.out).chain hf (fun k hk hh => by rcases hx0 _ hh with h | h; exact h; omega))
    obtain ⟨oA, on, oc, o1⟩ := hok rfl
    obtain ⟨c0, c1, c2, c3, f0, f1, f2, f3, hN⟩ := jb_cells HA3.out
    clear hf hok
    go_wp2_with fail
    rw [HN.out]
    refine ret_cell2 (p := 4) (u := 5) rfl _ rfl _ (load_jv (jz_set4 (jz_set (jz_set HA3.out _) _) _ _ _ _)) ⟨_, _, _, _, _, _, _, _, rfl, ?_⟩
    exact ((HF3.out.setCell (.inr (Nat.le_refl _)) _).setCell (.inr (Nat.le_refl _)) _).set4 (Nat.le_refl _) _ _ _ _
  | some r =>
    obtain ⟨l, ks', ts', tw'⟩ := r
    have HC : Hid (Calls Tryd.prog 49 #[.pointer (some ⟨R, 0, none⟩), .string ⟨#[125]⟩, .func (.func 50) #[.pointer (some ⟨w.heap.size + 1 + 1, 0, none⟩)] #[]] w0 fun e w' => ItemsEnd true (w.heap.size + 1) R (w.heap.size + 1 + 1) (w.heap.size + 1) w0 (some (l, ks', ts', tw')) e w') := Lib.hid (by
      have := HI.out w0 HS0.out
      rw [hp] at this
      exact this)
    have HN : Hid (lres f [123] ts tw = some (.mk 6 [] ks' l, ts', tw')) := Lib.hid (by rw [HL.out, hp]; rfl)
    clear hp HI HS0
    refine HC.out.mono ?_
    rintro e w3 ⟨ia, ic, rfl, hit, hst, hf, _⟩
    have HA3 : Hid (JB w3 w.heap.size 6) := Lib.hid ((hf.block _ (by omega) (fun hh => by rcases hx0 _ hh with h | h <;> omega)).trans HA0.out)
    have HF3 : Hid (Fr (· = R) w w3) := Lib.hid ((Fr.of_below HB0.out).chain hf (fun k hk hh => by rcases hx0 _ hh with h | h; exact h; omega))
    obtain ⟨v3, hO3, hown3, _⟩ := hst.2.1 rfl
    obtain ⟨kA, kc, rfl, hkin⟩ := kin_of hown3
    obtain ⟨_, o1, _, _, _⟩ := obj_cells hO3
    obtain ⟨c0, c1, c2, c3, f0, f1, f2, f3, hN⟩ := jb_cells HA3.out
    have HIT := Lib.hid hit
    have HST := Lib.hid hst.1
    have HKI := Lib.hid hkin
    clear hf hit hst hO3 hown3 hkin
    go_wp2_with fail
    rw [HN.out]
    refine ret_cell2 (p := 4) (u := 5) rfl _ rfl _ (load_jv (jz_set4 (jz_set (jz_set HA3.out _) _) _ _ _ _)) ?_
    have hset : ∀ k : Nat, k ≠ w.heap.size → ((((((w3.setCell ⟨w.heap.size, 3, none⟩ (.slice ia l.length ic)).setCell ⟨w.heap.size, 2, none⟩ (.slice kA ks'.length kc)).setCell ⟨w.heap.size, 0, none⟩ (.int .i64 6)).setCell ⟨w.heap.size, 1, none⟩ (.string ⟨#[]⟩)).setCell ⟨w.heap.size, 2, none⟩ (.slice kA ks'.length kc)).setCell ⟨w.heap.size, 3, none⟩ (.slice ia l.length ic)).heap[k]? = w3.heap[k]? := fun k hk => by
      rw [heap_setCell_other _ ⟨w.heap.size, 3, none⟩ k _ hk, heap_setCell_other _ ⟨w.heap.size, 2, none⟩ k _ hk, heap_setCell_other _ ⟨w.heap.size, 1, none⟩ k _ hk, heap_setCell_other _ ⟨w.heap.size, 0, none⟩ k _ hk, heap_setCell_other _ ⟨w.heap.size, 2, none⟩ k _ hk, heap_setCell_other _ ⟨w.heap.size, 3, none⟩ k _ hk]
    have hFin := ((HF3.out.setCell (.inr (Nat.le_refl _)) (.slice ia l.length ic) (i := 3)).setCell (.inr (Nat.le_refl _)) (.slice kA ks'.length kc) (i := 2)).set4 (Nat.le_refl _) (.int .i64 6) (.string ⟨#[]⟩) (.slice kA ks'.length kc) (.slice ia l.length ic)
    generalize ((((((w3.setCell ⟨w.heap.size, 3, none⟩ (.slice ia l.length ic)).setCell ⟨w.heap.size, 2, none⟩ (.slice kA ks'.length kc)).setCell ⟨w.heap.size, 0, none⟩ (.int .i64 6)).setCell ⟨w.heap.size, 1, none⟩ (.string ⟨#[]⟩)).setCell ⟨w.heap.size, 2, none⟩ (.slice kA ks'.length kc)).setCell ⟨w.heap.size, 3, none⟩ (.slice ia l.length ic)) = wf at *
    refine ⟨_, rfl, ?_, HST.out.keep (fun k hk => hset k (by omega)), hFin⟩
    rw [JIn]
    refine ⟨kA, kc, ia, ic, rfl, HKI.out.keep (fun k hk _ => hset k (by omega)) (fun k hk _ => by omega), fun hp => ?_⟩
    obtain ⟨b, hA, hb2, hl⟩ := HIT.out hp
    exact ⟨b, 0, hA, by show w.heap.size ≤ b; omega, LIn.keep (fun k hk _ => hset k (by have := hk.1; omega)) (fun k hk _ => by have := hk.1; omega) b hb2 l 0 hl⟩
set_option maxRecDepth 100000 in
theorem listed_no (f : Nat) (R : Nat) (x : List UInt8) (h1 : x ≠ [91]) (h2 : x ≠ [123]) (ts : List Tok) (tw : Bool) (w : World) :
    Calls Tryd.prog 30 #[.pointer (some ⟨R, 0, none⟩), .string (txt x)] w (VEnd R w (lres f x ts tw)) := by
  have e0 : ((txt x).toList == [91]) = false := by rw [txt_list]; simpa using h1
  have e1 : ((txt x).toList == [123]) = false := by rw [txt_list]; simpa using h2
  have HN : Hid (lres f x ts tw = none) := Lib.hid (by unfold lres; rw [if_neg h1, if_neg h2])
  generalize txt x = X at *
  clear h1 h2
  go_enter Tryd.func30, Tryd.ntmps30
  go_wp2
  rw [HN.out]
  refine ret_cell2 (p := 4) (u := 5) rfl _ rfl _ (load_jv (T := 26) (alloc_top _ _ _)) ⟨_, _, _, _, _, _, _, _, rfl, ?_⟩
  exact Fr.of_below (alloc_below _ _)
theorem listed_any {F : Nat} (HV : VOK F) (f : Nat) (hfF : f ≤ F) (R : Nat) (x : List UInt8) (ts : List Tok) (tw : Bool) (hb : 2 * ts.length + 1 < f) (w : World) (h : RSt w R ts tw) :
    Calls Tryd.prog 30 #[.pointer (some ⟨R, 0, none⟩), .string (txt x)] w (VEnd R w (lres f x ts tw)) := by
  by_cases h1 : x = [91]
  · subst h1; exact listed_arr HV f hfF R ts tw hb w h
  · by_cases h2 : x = [123]
    · subst h2; exact listed_obj HV f hfF R ts tw hb w h
    · exact listed_no f R x h1 h2 ts tw w
theorem pv_mark (f : Nat) (x : List UInt8) (a b : Nat) (ts : List Tok) (tw : Bool) : pv (f + 1) ((1, x, a, b) :: ts) tw = lres f x ts tw := by
  rw [pv, if_neg (by simp), if_neg (by simp), if_neg (by simp), if_pos rfl]
  unfold lres plR
  show (if x = [91] then _ else if x = [123] then _ else none) = _
  by_cases h1 : x = [91]
  · rw [if_pos h1, if_pos h1]
    show (if isMk 93 ts = true then _ else _) = (if isMk 93 ts = true then _ else _ : Option _).map _
    split <;> rfl
  · rw [if_neg h1, if_neg h1]
    by_cases h2 : x = [123]
    · rw [if_pos h2, if_pos h2]
      show (if isMk 125 ts = true then _ else _) = (if isMk 125 ts = true then _ else _ : Option _).map _
      split <;> rfl
    · rw [if_neg h2, if_neg h2]
theorem jin_leaf (W : World) (P : Nat → Prop) (k : Int) (x : List UInt8) : JIn W P (.mk k x [] []) (.agg #[.int .i64 k, .string (txt x), .slice none 0 0, .slice none 0 0]) := by
  rw [JIn]
  exact ⟨none, 0, none, 0, rfl, fun h => absurd h (by simp), fun h => absurd h (by simp)⟩
theorem set4_other (W : World) (N : Nat) (a b c d : Value) : ∀ k : Nat, k ≠ N → ((((W.setCell ⟨N, 0, none⟩ a).setCell ⟨N, 1, none⟩ b).setCell ⟨N, 2, none⟩ c).setCell ⟨N, 3, none⟩ d).heap[k]? = W.heap[k]? := fun k hk => by
  rw [heap_setCell_other _ ⟨N, 3, none⟩ k _ hk, heap_setCell_other _ ⟨N, 2, none⟩ k _ hk, heap_setCell_other _ ⟨N, 1, none⟩ k _ hk, heap_setCell_other _ ⟨N, 0, none⟩ k _ hk]
theorem leaf_end {w w1 : World} {R : Nat} {ts : List Tok} {tw : Bool} (HA : JZ w1 w.heap.size) (HR : RSt w1 R ts tw) (HF : Fr (fun k => k = R) w w1) (hlt : R < w.heap.size) (a b : Value) (o : Obj) :
    (((((w1.setCell ⟨w.heap.size, 0, none⟩ a).setCell ⟨w.heap.size, 1, none⟩ b).setCell ⟨w.heap.size, 2, none⟩ (.slice none 0 0)).setCell ⟨w.heap.size, 3, none⟩ (.slice none 0 0)).alloc o).heap[w.heap.size]? = some (.cells #[a, b, .slice none 0 0, .slice none 0 0] 26 (0, 0)) ∧
    RSt (((((w1.setCell ⟨w.heap.size, 0, none⟩ a).setCell ⟨w.heap.size, 1, none⟩ b).setCell ⟨w.heap.size, 2, none⟩ (.slice none 0 0)).setCell ⟨w.heap.size, 3, none⟩ (.slice none 0 0)).alloc o) R ts tw ∧
    Fr (fun k => k = R) w (((((w1.setCell ⟨w.heap.size, 0, none⟩ a).setCell ⟨w.heap.size, 1, none⟩ b).setCell ⟨w.heap.size, 2, none⟩ (.slice none 0 0)).setCell ⟨w.heap.size, 3, none⟩ (.slice none 0 0)).alloc o) := by
  have hset := set4_other w1 w.heap.size a b (.slice none 0 0) (.slice none 0 0)
  refine ⟨heap_alloc_old (jz_set4 HA _ _ _ _), ?_, (HF.set4 (Nat.le_refl _) _ _ _ _).alloc _⟩
  have h1 : RSt ((((w1.setCell ⟨w.heap.size, 0, none⟩ a).setCell ⟨w.heap.size, 1, none⟩ b).setCell ⟨w.heap.size, 2, none⟩ (.slice none 0 0)).setCell ⟨w.heap.size, 3, none⟩ (.slice none 0 0)) R ts tw := HR.keep (fun k hk => hset k (by omega))
  exact h1.below (alloc_below _ _)
set_option maxRecDepth 100000 in
set_option maxHeartbeats 1000000 in
theorem value_step {F : Nat} (HV : VOK F) (f : Nat) (hfF : f ≤ F) (R : Nat) (ts : List Tok) (tw : Bool) (w : World) (hb : 2 * ts.length < f + 1) (h : RSt w R ts tw) :
    Calls Tryd.prog 15 #[.pointer (some ⟨R, 0, none⟩)] w (VEnd R w (pv (f + 1) ts tw)) := by
  have hlt := h.lt
  have HR0 := Lib.hid (h.below (alloc_below w (.cells #[.int .i64 0, .string ⟨#[]⟩, .slice none 0 0, .slice none 0 0] 26)))
  have HA0 := Lib.hid (jz_new w)
  have HB0 := Lib.hid (alloc_below w (.cells #[.int .i64 0, .string ⟨#[]⟩, .slice none 0 0, .slice none 0 0] 26))
  cases ts with
  | nil =>
    have HT := Lib.hid (fun w h => take_none R tw w h)
    unfold tokA zeroT at HT
    have HN : Hid (pv (f + 1) [] tw = none) := Lib.hid (by rw [pv])
    clear h
    go_enter Tryd.func15, Tryd.ntmps15
    go_wp2_with fail
    generalize w.alloc (.cells #[.int .i64 0, .string ⟨#[]⟩, .slice none 0 0, .slice none 0 0] 26) = w0 at *
    refine (HT.out _ HR0.out).mono ?_
    rintro e w1 ⟨rfl, hbl⟩
    have HA1 : Hid (JZ w1 w.heap.size) := Lib.hid (heap_keep hbl HA0.out)
    have HB1 := Lib.hid (HB0.out.trans (hbl.mono HB0.out.size))
    obtain ⟨c0, c1, c2, c3, f0, f1, f2, f3, hN⟩ := jz_cells HA1.out
    clear hbl
    go_wp2_with fail
    rw [HN.out]
    refine ret_cell2 (p := 2) (u := 3) rfl _ rfl _ (load_jv (heap_alloc_old (jz_set4 HA1.out _ _ _ _))) ⟨_, _, _, _, _, _, _, _, rfl, ?_⟩
    exact ((Fr.of_below HB1.out).set4 (Nat.le_refl _) _ _ _ _).alloc _
  | cons t ts =>
    have HT := Lib.hid (fun w h => take_some R t ts tw w h)
    obtain ⟨q, x, a, b⟩ := t
    unfold tokA at HT
    rw [List.length_cons] at hb
    have hwN : w.heap.size ≠ R := by omega
    have hz := World.size_alloc w (.cells #[.int .i64 0, .string ⟨#[]⟩, .slice none 0 0, .slice none 0 0] 26)
    clear h
    by_cases q2 : q = 2
    · subst q2
      have HN : Hid (pv (f + 1) ((2, x, a, b) :: ts) tw = some (.mk (wordKind x) [] [] [], ts, tw)) := Lib.hid (by rw [pv, if_pos rfl])
      have HK := Lib.hid (fun w => kindOf_any x w)
      generalize wordKind x = K at *
      go_enter Tryd.func15, Tryd.ntmps15
      go_wp2_with fail
      generalize w.alloc (.cells #[.int .i64 0, .string ⟨#[]⟩, .slice none 0 0, .slice none 0 0] 26) = w0 at *
      refine (HT.out _ HR0.out).mono ?_
      rintro e w1 ⟨rfl, hr, hf⟩
      have HA1 : Hid (JZ w1 w.heap.size) := Lib.hid (HA0.out.keep (hf.block _ (by omega) hwN))
      have HF1 := Lib.hid ((Fr.of_below (X := fun k => k = R) HB0.out).trans hf)
      have HR1 := Lib.hid hr
      have hsz := hf.size
      obtain ⟨c0, c1, c2, c3, f0, f1, f2, f3, hN⟩ := jz_cells HA1.out
      clear hr hf
      go_wp2_with fail
      refine (HK.out _).mono ?_
      rintro e w' ⟨rfl, rfl⟩
      go_wp2_with fail
      rw [HN.out]
      obtain ⟨g1, g2, g3⟩ := leaf_end HA1.out HR1.out HF1.out hlt (.int .i64 K) (.string ⟨#[]⟩) (.cells #[.int .i64 ((2 : Nat) : Int), .string (txt x), .int .i64 (a : Int), .int .i64 (b : Int)] 61)
      exact ret_cell2 (p := 2) (u := 3) rfl _ rfl _ (load_jv g1) ⟨_, rfl, jin_leaf _ _ K [], g2, g3⟩
    by_cases q3 : q = 3
    · subst q3
      have HN : Hid (pv (f + 1) ((3, x, a, b) :: ts) tw = some (.mk 3 x [] [], ts, tw)) := Lib.hid (by rw [pv, if_neg (by simp), if_pos rfl])
      go_enter Tryd.func15, Tryd.ntmps15
      go_wp2_with fail
      generalize w.alloc (.cells #[.int .i64 0, .string ⟨#[]⟩, .slice none 0 0, .slice none 0 0] 26) = w0 at *
      refine (HT.out _ HR0.out).mono ?_
      rintro e w1 ⟨rfl, hr, hf⟩
      have HA1 : Hid (JZ w1 w.heap.size) := Lib.hid (HA0.out.keep (hf.block _ (by omega) hwN))
      have HF1 := Lib.hid ((Fr.of_below (X := fun k => k = R) HB0.out).trans hf)
      have HR1 := Lib.hid hr
      have hsz := hf.size
      obtain ⟨c0, c1, c2, c3, f0, f1, f2, f3, hN⟩ := jz_cells HA1.out
      clear hr hf
      go_wp2_with fail
      rw [HN.out]
      obtain ⟨g1, g2, g3⟩ := leaf_end HA1.out HR1.out HF1.out hlt (.int .i64 3) (.string (txt x)) (.cells #[.int .i64 ((3 : Nat) : Int), .string (txt x), .int .i64 (a : Int), .int .i64 (b : Int)] 61)
      exact ret_cell2 (p := 2) (u := 3) rfl _ rfl _ (load_jv g1) ⟨_, rfl, jin_leaf _ _ 3 x, g2, g3⟩
    by_cases q4 : q = 4
    · subst q4
      have HN : Hid (pv (f + 1) ((4, x, a, b) :: ts) tw = some (.mk 4 x [] [], ts, tw)) := Lib.hid (by rw [pv, if_neg (by simp), if_neg (by simp), if_pos rfl])
      go_enter Tryd.func15, Tryd.ntmps15
      go_wp2_with fail
      generalize w.alloc (.cells #[.int .i64 0, .string ⟨#[]⟩, .slice none 0 0, .slice none 0 0] 26) = w0 at *
      refine (HT.out _ HR0.out).mono ?_
      rintro e w1 ⟨rfl, hr, hf⟩
      have HA1 : Hid (JZ w1 w.heap.size) := Lib.hid (HA0.out.keep (hf.block _ (by omega) hwN))
      have HF1 := Lib.hid ((Fr.of_below (X := fun k => k = R) HB0.out).trans hf)
      have HR1 := Lib.hid hr
      have hsz := hf.size
      obtain ⟨c0, c1, c2, c3, f0, f1, f2, f3, hN⟩ := jz_cells HA1.out
      clear hr hf
      go_wp2_with fail
      rw [HN.out]
      obtain ⟨g1, g2, g3⟩ := leaf_end HA1.out HR1.out HF1.out hlt (.int .i64 4) (.string (txt x)) (.cells #[.int .i64 ((4 : Nat) : Int), .string (txt x), .int .i64 (a : Int), .int .i64 (b : Int)] 61)
      exact ret_cell2 (p := 2) (u := 3) rfl _ rfl _ (load_jv g1) ⟨_, rfl, jin_leaf _ _ 4 x, g2, g3⟩
    by_cases q1 : q = 1
    · subst q1
      have HN : Hid (pv (f + 1) ((1, x, a, b) :: ts) tw = lres f x ts tw) := Lib.hid (pv_mark f x a b ts tw)
      have HLI := Lib.hid (fun w h => listed_any HV f hfF R x ts tw (by omega) w h)
      go_enter Tryd.func15, Tryd.ntmps15
      go_wp2_with fail
      generalize w.alloc (.cells #[.int .i64 0, .string ⟨#[]⟩, .slice none 0 0, .slice none 0 0] 26) = w0 at *
      refine (HT.out _ HR0.out).mono ?_
      rintro e w1 ⟨rfl, hr, hf⟩
      have HA1 : Hid (JZ w1 w.heap.size) := Lib.hid (HA0.out.keep (hf.block _ (by omega) hwN))
      have HF1 := Lib.hid ((Fr.of_below (X := fun k => k = R) HB0.out).trans hf)
      have HR1 := Lib.hid hr
      have hsz := hf.size
      obtain ⟨c0, c1, c2, c3, f0, f1, f2, f3, hN⟩ := jz_cells HA1.out
      clear hr hf
      go_wp2_with fail
      have HR2 := Lib.hid (HR1.out.below (alloc_below w1 (.cells #[.int .i64 ((1 : Nat) : Int), .string (txt x), .int .i64 (a : Int), .int .i64 (b : Int)] 61)))
      have hsz2 := World.size_alloc w1 (.cells #[.int .i64 ((1 : Nat) : Int), .string (txt x), .int .i64 (a : Int), .int .i64 (b : Int)] 61)
      have HLW := Lib.hid (HLI.out _ HR2.out)
      clear HLI c0 c1 c2 c3 f0 f1 f2 f3
      cases hl : lres f x ts tw with
      | none =>
        have HLN : Hid (Calls Tryd.prog 30 #[.pointer (some ⟨R, 0, none⟩), .string (txt x)] (w1.alloc (.cells #[.int .i64 ((1 : Nat) : Int), .string (txt x), .int .i64 (a : Int), .int .i64 (b : Int)] 61)) fun e w' => ∃ k s A n c B m d, e = .returned (.tuple #[.agg #[.int .i64 k, .string s, .slice A n c, .slice B m d], .bool false]) ∧ Fr (· = R) (w1.alloc (.cells #[.int .i64 ((1 : Nat) : Int), .string (txt x), .int .i64 (a : Int), .int .i64 (b : Int)] 61)) w') := Lib.hid (by
          have := HLW.out
          rw [hl] at this
          exact this)
        have HNN : Hid (pv (f + 1) ((1, x, a, b) :: ts) tw = none) := Lib.hid (HN.out.trans hl)
        clear HLW hl
        refine HLN.out.mono ?_
        rintro e w2 ⟨ek, es, eA, en, ec, eB, em, ed, rfl, hf2⟩
        have HA2 : Hid (JZ w2 w.heap.size) := Lib.hid ((show JZ (w1.alloc _) _ from heap_alloc_old HA1.out).keep (hf2.block _ (by omega) hwN))
        have HF2 := Lib.hid ((HF1.out.alloc _).trans hf2)
        obtain ⟨c0, c1, c2, c3, f0, f1, f2, f3, hN2⟩ := jz_cells HA2.out
        clear hf2
        go_wp2_with fail
        rw [HNN.out]
        refine ret_cell2 (p := 2) (u := 3) rfl _ rfl _ (load_jv (jz_set4 HA2.out _ _ _ _)) ⟨_, _, _, _, _, _, _, _, rfl, ?_⟩
        exact HF2.out.set4 (Nat.le_refl _) _ _ _ _
      | some r =>
        obtain ⟨j, ts', tw'⟩ := r
        have HLN : Hid (Calls Tryd.prog 30 #[.pointer (some ⟨R, 0, none⟩), .string (txt x)] (w1.alloc (.cells #[.int .i64 ((1 : Nat) : Int), .string (txt x), .int .i64 (a : Int), .int .i64 (b : Int)] 61)) fun e w' => VEnd R (w1.alloc (.cells #[.int .i64 ((1 : Nat) : Int), .string (txt x), .int .i64 (a : Int), .int .i64 (b : Int)] 61)) (some (j, ts', tw')) e w') := Lib.hid (by
          have := HLW.out
          rw [hl] at this
          exact this)
        have HNN : Hid (pv (f + 1) ((1, x, a, b) :: ts) tw = some (j, ts', tw')) := Lib.hid (HN.out.trans hl)
        clear HLW hl
        refine HLN.out.mono ?_
        rintro e w2 ⟨vj, rfl, hj, hr2, hf2⟩
        obtain ⟨jk, js, jA, jn, jc, jB, jm, jd, rfl⟩ := jv_form hj
        have HA2 : Hid (JZ w2 w.heap.size) := Lib.hid ((show JZ (w1.alloc _) _ from heap_alloc_old HA1.out).keep (hf2.block _ (by omega) hwN))
        have HF2 := Lib.hid ((HF1.out.alloc _).trans hf2)
        have HJ2 := Lib.hid hj
        have HR3 := Lib.hid hr2
        obtain ⟨c0, c1, c2, c3, f0, f1, f2, f3, hN2⟩ := jz_cells HA2.out
        clear hf2 hj hr2
        go_wp2_with fail
        rw [HNN.out]
        have hset := set4_other w2 w.heap.size (.int .i64 jk) (.string js) (.slice jA jn jc) (.slice jB jm jd)
        exact ret_cell2 (p := 2) (u := 3) rfl _ rfl _ (load_jv (jz_set4 HA2.out _ _ _ _)) ⟨_, rfl, JIn.keep (fun k hk _ => hset k (by omega)) (fun k hk _ => by omega) _ _ HJ2.out, HR3.out.keep (fun k hk => hset k (by omega)), HF2.out.set4 (Nat.le_refl _) _ _ _ _⟩
    · have HN : Hid (pv (f + 1) ((q, x, a, b) :: ts) tw = none) := Lib.hid (by rw [pv, if_neg q2, if_neg q3, if_neg q4, if_neg q1])
      have z2 : ((q : Int) == 2) = false := by simp only [beq_eq_false_iff_ne, ne_eq]; omega
      have z3 : ((q : Int) == 3) = false := by simp only [beq_eq_false_iff_ne, ne_eq]; omega
      have z4 : ((q : Int) == 4) = false := by simp only [beq_eq_false_iff_ne, ne_eq]; omega
      have z1 : ((q : Int) == 1) = false := by simp only [beq_eq_false_iff_ne, ne_eq]; omega
      clear q1 q2 q3 q4
      go_enter Tryd.func15, Tryd.ntmps15
      go_wp2_with fail
      generalize w.alloc (.cells #[.int .i64 0, .string ⟨#[]⟩, .slice none 0 0, .slice none 0 0] 26) = w0 at *
      refine (HT.out _ HR0.out).mono ?_
      rintro e w1 ⟨rfl, hr, hf⟩
      have HA1 : Hid (JZ w1 w.heap.size) := Lib.hid (HA0.out.keep (hf.block _ (by omega) hwN))
      have HF1 := Lib.hid ((Fr.of_below (X := fun k => k = R) HB0.out).trans hf)
      have HR1 := Lib.hid hr
      have hsz := hf.size
      obtain ⟨c0, c1, c2, c3, f0, f1, f2, f3, hN⟩ := jz_cells HA1.out
      clear hr hf
      go_wp2_with fail
      rw [HN.out]
      refine ret_cell2 (p := 2) (u := 3) rfl _ rfl _ (load_jv (heap_alloc_old (jz_set4 HA1.out _ _ _ _))) ⟨_, _, _, _, _, _, _, _, rfl, ?_⟩
      exact (HF1.out.set4 (Nat.le_refl _) _ _ _ _).alloc _
/-- ████ A reader reads the value that its tokens begin with. -/
theorem vok : ∀ F, VOK F
  | 0 => fun f hf => by omega
  | F + 1 => fun f hf R ts tw w hb h => by
    by_cases hfF : f < F
    · exact vok F f hfF R ts tw w hb h
    · obtain rfl : f = F := by omega
      cases f with
      | zero => omega
      | succ f => exact value_step (vok (f + 1)) f (by omega) R ts tw w hb h
end Go.Proofs.YtmkjoonbjmieoaaDoor
