/-
  emendlaw07's cut, few, of and some: a text cut; splices in new memory. No memory that was there turns. No condition but those that each theorem says.
-/
import Derived.Test.YtlgjlfljohapfaaERefMoved
import Derived.OwnWalk
namespace Go.Proofs.Ytlgjlfljohapfaa
open Go.RowKit

theorem slice_form {w : World} {base : Nat} {e : TypeId} {size : Nat} {v : Value} {n : Nat} {xs : List Value} (h : w.ownsRow base e size v n xs) : ∃ A c, v = .slice A n c := by
  rcases h.2 with ⟨rfl, h0⟩ | ⟨g, cap, cur, rfl, _⟩
  · subst h0; exact ⟨_, _, rfl⟩
  · exact ⟨_, _, rfl⟩
theorem new_add (w : World) (l : List Value) (t : TypeId) : ∀ j v, l[j]? = some v → (w.alloc (.cells l.toArray t)).cell? ((⟨w.heap.size, 0, none⟩ : Addr).add j) = some v := by
  intro j v hv
  rw [Addr.add_lit, Nat.zero_add, cell_at (alloc_top w _ _)]
  simpa using hv
theorem new_add2 (w : World) (o : Obj) (l : List Value) (t : TypeId) : ∀ j v, l[j]? = some v → ((w.alloc o).alloc (.cells l.toArray t)).cell? ((⟨w.heap.size + 1, 0, none⟩ : Addr).add j) = some v := by
  have := new_add (w.alloc o) l t
  rw [World.size_alloc] at this
  exact this
theorem splInfo : (Try.prog.info? 62).map (fun i => (i.zero, i.size, i.bytes)) = some (some (.agg #[.int .i64 0, .int .i64 0, .string ⟨#[]⟩]), 3, 32) := by kernel_rfl
def spc (x : Spl) : List Value := [.int .i64 x.f, .int .i64 x.t, .string x.s]
def scs (L : List Spl) : List Value := L.flatMap spc
theorem scs_snoc (L : List Spl) (x : Spl) : scs (L ++ [x]) = scs L ++ spc x := by simp [scs]
theorem scs_at : ∀ (ps : List Spl) (i : Nat) (p : Spl) (f : Nat), ps[i]? = some p → f < 3 → (scs ps)[i * 3 + f]? = (spc p)[f]?
  | [], i, p, f, h, _ => by simp at h
  | q :: ps, 0, p, f, h, hf => by
    obtain rfl : q = p := by simpa using h
    show (spc q ++ scs ps)[0 * 3 + f]? = _
    rw [Nat.zero_mul, Nat.zero_add, List.getElem?_append_left (by simpa [spc] using hf)]
  | q :: ps, i + 1, p, f, h, hf => by
    have := scs_at ps i p f (by simpa using h) hf
    show (spc q ++ scs ps)[(i + 1) * 3 + f]? = _
    rw [List.getElem?_append_right (by simp [spc]; omega), show (i + 1) * 3 + f - (spc q).length = i * 3 + f by simp [spc]; omega, this]
/-- Splices in memory of a call's own. -/
def SOwn (W : World) (B : Nat) (v : Value) (L : List Spl) : Prop := W.ownsRow B 62 3 v L.length (scs L)
theorem SOwn.reads {W : World} {B : Nat} {v : Value} {L : List Spl} (h : SOwn W B v L) : ∃ A cap, v = .slice A L.length cap ∧ SR W A L := by
  rcases h.2 with ⟨rfl, h0⟩ | ⟨g, cap, cur, rfl, _, hg, _, _, _, ht⟩
  · exact ⟨none, 0, by rw [h0], fun hp => by omega⟩
  · refine ⟨_, cap, rfl, fun _ => ⟨g, 0, rfl, fun i p hp => ?_⟩⟩
    have hi : i < L.length := (List.getElem?_eq_some_iff.1 hp).1
    have key : ∀ f x, f < 3 → (spc p)[f]? = some x → W.cell? ⟨g, 0 + i * 3 + f, none⟩ = some x := by
      intro f x hf hx
      rw [cell_at hg, ← Array.getElem?_toList, Nat.zero_add]
      have h1 := scs_at L i p f hp hf
      rw [hx, ← ht, List.getElem?_take, if_pos (by omega)] at h1
      exact h1
    exact ⟨key 0 _ (by omega) rfl, key 1 _ (by omega) rfl, key 2 _ (by omega) rfl⟩
theorem SOwn.keep {W W' : World} {B : Nat} {v : Value} {L : List Spl} (h : SOwn W B v L) (hb : Below W.heap.size W W') : SOwn W' B v L := by
  refine ⟨h.1, ?_⟩
  rcases h.2 with h0 | ⟨g, cap, cur, rfl, hB, hg, r⟩
  · exact .inl h0
  · exact .inr ⟨g, cap, cur, rfl, hB, heap_keep hb hg, r⟩
theorem scs_len (L : List Spl) : (scs L).length = L.length * 3 := by
  induction L with
  | nil => rfl
  | cons x L ih => rw [show scs (x :: L) = spc x ++ scs L from rfl, List.length_append, ih, List.length_cons]; simp [spc]; omega
theorem sown_new {B : Nat} {L : List Spl} (W : World) (hB : B ≤ W.heap.size) (hL : L.length ≤ maxLen) : SOwn (W.alloc (.cells (scs L).toArray 62)) B (.slice (some ⟨W.heap.size, 0, none⟩) L.length L.length) L :=
  ⟨scs_len L, .inr ⟨W.heap.size, L.length, _, rfl, hB, alloc_top W _ _, Nat.le_refl _, hL, by simp [scs_len], by simp [scs_len, List.take_of_length_le]⟩⟩
/-- A text cut at a length. -/
def cutS (k : Nat) (s : ByteArray) : ByteArray := if s.size ≤ k then s else s.extract 0 k
theorem cutS_le (k : Nat) (s : ByteArray) : (cutS k s).size ≤ k := by
  unfold cutS
  split
  · assumption
  · rw [ByteArray.size_extract]; omega
def fewL (L : List Spl) : List Spl := (L.take 30).map fun x => { x with s := cutS 300 x.s }
theorem fewL_len (L : List Spl) : (fewL L).length ≤ 30 := by unfold fewL; rw [List.length_map, List.length_take]; omega
theorem fewL_at (L : List Spl) (i : Nat) (h : i < 30) (x : Spl) (hx : L[i]? = some x) : fewL (L.take (i + 1)) = fewL (L.take i) ++ [{ x with s := cutS 300 x.s }] := by
  obtain ⟨hi, rfl⟩ := List.getElem?_eq_some_iff.1 hx
  unfold fewL
  rw [List.take_take, List.take_take, Nat.min_eq_right (by omega), Nat.min_eq_right (by omega), List.take_succ_eq_append_getElem hi, List.map_append]
  rfl
set_option maxHeartbeats 1000000 in
theorem cut_any (s : ByteArray) (hs : s.size ≤ maxLen) (w : World) : Calls Try.prog 12 #[.string s] w fun e w' => e = .returned (.string (cutS 1500 s)) ∧ w = w' := by
  unfold maxLen at hs
  by_cases h : s.size ≤ 1500
  · have e : cutS 1500 s = s := if_pos h
    rw [e]
    clear e
    go_enter Try.func12, Try.ntmps12
    go_wp2_with fail
    go_ret
    exact ⟨rfl, rfl⟩
  · have e : cutS 1500 s = s.extract 0 1500 := if_neg h
    rw [e]
    clear e
    go_enter Try.func12, Try.ntmps12
    go_wp2_with fail
    go_ret
    exact ⟨rfl, rfl⟩
/-- What few hands back. -/
def FewEnd (w : World) (L : List Spl) (e : Ending) (w' : World) : Prop := ∃ v, e = .returned v ∧ SOwn w' w.heap.size v L ∧ Below w.heap.size w w'
set_option maxRecDepth 100000 in
set_option maxHeartbeats 2000000 in
theorem few_any (A : Option Addr) (L : List Spl) (c : Nat) (hZ : ∀ x ∈ L, x.s.size ≤ maxLen) (w : World) (hS : SR w A L) :
    Calls Try.prog 13 #[.slice A L.length c] w (FewEnd w (fewL L)) := by
  have HS := Lib.hid hS
  have HZ := Lib.hid hZ
  clear hS hZ
  obtain ⟨i0, hi0, hz0, hz1, hz2⟩ := info_parts splInfo
  obtain ⟨R, hR⟩ : ∃ R, fewL L = R := ⟨_, rfl⟩
  rw [hR]
  have HR := Lib.hid hR
  clear hR
  unfold FewEnd
  go_enter Try.func13, Try.ntmps13
  go_wp2_with fail
  go_loopw [3, 4] (fun v k wr => ∃ (i : Nat) (v0 : Value), v0 = v ∧ k = .int .i64 (i : Int) ∧ i ≤ L.length ∧ i ≤ 30 ∧ Hid (wr.ownsRow w.heap.size 62 3 v0 i (scs (fewL (L.take i)))) ∧ Hid (Below w.heap.size w wr)) (fun _ k _ => L.length - (intOf k).toNat)
  case atStart => exact ⟨0, _, rfl, rfl, Nat.zero_le _, Nat.zero_le _, Lib.hid (World.ownsRow_nil _ _ _ _), Lib.hid (Below.refl _ _)⟩
  case round =>
    obtain ⟨i, v0, rfl, rfl, hi, hi3, hown, hb⟩ := hrel
    obtain ⟨p0, cap0, hv0⟩ := slice_form hown.out
    subst hv0
    by_cases hlt : i < L.length ∧ i < 30
    · obtain ⟨hlt, h30⟩ := hlt
      obtain ⟨x, hx⟩ : ∃ x, L[i]? = some x := ⟨_, List.getElem?_eq_getElem hlt⟩
      obtain ⟨b, o, rfl, d0, d1, d2⟩ := HS.out.at hx
      have hsz := HZ.out x (List.mem_of_getElem? hx)
      unfold maxLen at hsz
      have hbw := cell_lt d0
      have c0 := cell_keep2 hb.out d0 hbw
      have c1 := cell_keep2 hb.out d1 hbw
      have c2 := cell_keep2 hb.out d2 hbw
      have q : decide ((i : Int) < (L.length : Int)) = true := by simpa using hlt
      have q3 : (i : Int) < 30 := by omega
      have HA := Lib.hid (fewL_at L i h30 x hx)
      have HB1 := Lib.hid hb.out.size
      clear hx d0 d1 d2 hbw
      obtain ⟨s2, hs2⟩ : ∃ s2, cutS 300 x.s = s2 := ⟨_, rfl⟩
      rw [hs2] at HA
      by_cases h3 : x.s.size ≤ 300
      · have e : cutS 300 x.s = x.s := if_pos h3
        rw [e] at hs2
        subst hs2
        clear e
        go_wp2_with (at_builtin; refine wpList_append_own _ rfl _ _ 22 rfl w.heap.size 62 i0 (.agg #[.int .i64 0, .int .i64 0, .string ⟨#[]⟩]) 3 32 Try.underlying22 hi0 hz0 hz1 hz2 rfl (by decide) _ _ _ rfl ((hown.out.alloc _).alloc _) ⟨wr.heap.size + 1, 0, none⟩ 1 1 [.int .i64 x.f, .int .i64 x.t, .string (x.s)] rfl rfl (new_add2 _ _ _ _) ?c2 ?c3 ?c4 ?c5 ?_)
        case c2 => simp [Value.oneCell']
        case c3 => unfold maxLen; omega
        case c4 => omega
        case c5 => rw [World.size_alloc, World.size_alloc]; have := HB1.out; omega
        intro v2 w2 hown2 hgr2 hne2
        have HO2 : Hid (w2.ownsRow w.heap.size 62 3 v2 (i + 1) (scs (fewL (L.take (i + 1))))) := Lib.hid (by rw [HA.out, scs_snoc]; exact hown2)
        have HB2 : Hid (Below w.heap.size w w2) := Lib.hid ((((hb.out.alloc HB1.out _).alloc (by rw [World.size_alloc]; have := HB1.out; omega) _).grown hgr2 (by rw [World.size_alloc, World.size_alloc]; have := HB1.out; omega) (fun j ej => (World.ownsRow.lt hown.out j ej).1)))
        clear hown2 hgr2 hne2 hown hb HA
        go_wp2_with fail
        go_roundw
        case rel => exact ⟨i + 1, _, rfl, by go_num, by omega, by omega, HO2, HB2⟩
        case measure => simp [intOf]; omega
      · have e : cutS 300 x.s = x.s.extract 0 300 := if_neg h3
        rw [e] at hs2
        subst hs2
        clear e
        go_wp2_with (at_builtin; refine wpList_append_own _ rfl _ _ 22 rfl w.heap.size 62 i0 (.agg #[.int .i64 0, .int .i64 0, .string ⟨#[]⟩]) 3 32 Try.underlying22 hi0 hz0 hz1 hz2 rfl (by decide) _ _ _ rfl ((hown.out.alloc _).alloc _) ⟨wr.heap.size + 1, 0, none⟩ 1 1 [.int .i64 x.f, .int .i64 x.t, .string (x.s.extract 0 300)] rfl rfl (new_add2 _ _ _ _) ?c2 ?c3 ?c4 ?c5 ?_)
        case c2 => simp [Value.oneCell']
        case c3 => unfold maxLen; omega
        case c4 => omega
        case c5 => rw [World.size_alloc, World.size_alloc]; have := HB1.out; omega
        intro v2 w2 hown2 hgr2 hne2
        have HO2 : Hid (w2.ownsRow w.heap.size 62 3 v2 (i + 1) (scs (fewL (L.take (i + 1))))) := Lib.hid (by rw [HA.out, scs_snoc]; exact hown2)
        have HB2 : Hid (Below w.heap.size w w2) := Lib.hid ((((hb.out.alloc HB1.out _).alloc (by rw [World.size_alloc]; have := HB1.out; omega) _).grown hgr2 (by rw [World.size_alloc, World.size_alloc]; have := HB1.out; omega) (fun j ej => (World.ownsRow.lt hown.out j ej).1)))
        clear hown2 hgr2 hne2 hown hb HA
        go_wp2_with fail
        go_roundw
        case rel => exact ⟨i + 1, _, rfl, by go_num, by omega, by omega, HO2, HB2⟩
        case measure => simp [intOf]; omega
    · have hout : fewL (L.take i) = R := by
        rw [← HR.out]
        unfold fewL
        by_cases h30 : i < 30
        · rw [List.take_of_length_le (i := i) (by omega)]
        · rw [List.take_take, show min 30 i = 30 by omega]
      have hlen : R.length = i := by
        rw [← hout]
        unfold fewL
        rw [List.length_map, List.length_take, List.length_take]
        omega
      have HO2 : Hid (SOwn wr w.heap.size (.slice p0 i cap0) R) := Lib.hid (by unfold SOwn; rw [hlen, ← hout]; exact hown.out)
      clear hout hlen hown HR
      by_cases hlt2 : i < L.length
      · have q : decide ((i : Int) < (L.length : Int)) = true := by simpa using hlt2
        have q3 : ¬ (i : Int) < 30 := by omega
        clear hlt
        go_wp2_with fail
        go_ret
        exact ⟨_, rfl, HO2.out, hb.out⟩
      · have q : decide ((i : Int) < (L.length : Int)) = false := by simp; omega
        clear hlt
        go_wp2_with fail
        go_ret
        exact ⟨_, rfl, HO2.out, hb.out⟩
theorem of_any (f t : Int) (s : ByteArray) (w : World) : Calls Try.prog 32 #[.int .i64 f, .int .i64 t, .string s] w fun e w' => e = .returned (.agg #[.int .i64 f, .int .i64 t, .string s]) ∧ w' = w.alloc (.cells #[.int .i64 f, .int .i64 t, .string s] 62) := by
  go_enter Try.func32, Try.ntmps32
  go_wp2_with fail
  exact bodyPost_ret (v := .agg #[.int .i64 f, .int .i64 t, .string s]) (by simp [results, Try.results32, go_sem]) rfl ⟨rfl, rfl⟩
def someL : List Spl := [⟨1, 3, ⟨#[88]⟩⟩, ⟨3, 3, ⟨#[89]⟩⟩, ⟨3, 3, ⟨#[90]⟩⟩]
set_option maxHeartbeats 1000000 in
theorem some_any (w : World) : Calls Try.prog 31 #[] w (FewEnd w someL) := by
  unfold FewEnd
  go_enter Try.func31, Try.ntmps31
  go_wp2_with fail
  refine (of_any _ _ _ _).mono ?_
  rintro e w1 ⟨rfl, rfl⟩
  go_wp2_with fail
  refine (of_any _ _ _ _).mono ?_
  rintro e w1 ⟨rfl, rfl⟩
  go_wp2_with fail
  refine (of_any _ _ _ _).mono ?_
  rintro e w1 ⟨rfl, rfl⟩
  go_wp2_with fail
  go_ret
  have h := sown_new (B := w.heap.size) (L := someL) (((w.alloc (.cells #[.int .i64 1, .int .i64 3, .string ⟨#[88]⟩] 62)).alloc (.cells #[.int .i64 3, .int .i64 3, .string ⟨#[89]⟩] 62)).alloc (.cells #[.int .i64 3, .int .i64 3, .string ⟨#[90]⟩] 62)) (by simp only [World.size_alloc]; omega) (by decide)
  simp only [World.size_alloc] at h
  refine ⟨_, rfl, h, ?_⟩
  exact ((((Below.refl _ _).alloc (Nat.le_refl _) _).alloc (by simp) _).alloc (by simp; omega) _).alloc (by simp; omega) _
end Go.Proofs.Ytlgjlfljohapfaa
