/-
  emendref02.Pieces AT EVERY TEXT of at most 1000000 bytes: a slice in new memory that reads as the text's pieces; no memory that was there turns. Condition: the text's length.
-/
import Derived.Test.YtnmbclkpncjebaaRefDec
namespace Go.Proofs.Ytnmbclkpncjebaa
open Go.RowKit

theorem Try.info74 : (Try.prog.info? 74).map (fun i => (i.zero, i.size, i.bytes)) = some (some (.agg #[.int .i64 0, .int .i64 0, .int .i64 0, .bool false]), 4, 32) := by kernel_rfl
def pcell (p : Nat × Nat × Nat × Bool) : List Value := [.int .i64 (p.1 : Int), .int .i64 (p.2.1 : Int), .int .i64 (p.2.2.1 : Int), .bool p.2.2.2]
def pcells (l : List (Nat × Nat × Nat × Bool)) : List Value := l.flatMap pcell
theorem pcells_snoc (l : List (Nat × Nat × Nat × Bool)) (p : Nat × Nat × Nat × Bool) : pcells (l ++ [p]) = pcells l ++ pcell p := by simp [pcells]
theorem ownsRow_keep {W W' : World} {base : Nat} {e : TypeId} {size : Nat} {v : Value} {n : Nat} {xs : List Value} (h : W.ownsRow base e size v n xs) (hb : Below W.heap.size W W') : W'.ownsRow base e size v n xs := by
  refine ⟨h.1, ?_⟩
  rcases h.2 with hn | ⟨g, cap, cur, hv, hbg, hg, rest⟩
  · exact .inl hn
  · exact .inr ⟨g, cap, cur, hv, hbg, heap_keep hb hg, rest⟩
theorem slice_form {w : World} {base : Nat} {e : TypeId} {size : Nat} {v : Value} {n : Nat} {xs : List Value} (h : w.ownsRow base e size v n xs) : ∃ A c, v = .slice A n c := by
  rcases h.2 with ⟨rfl, h0⟩ | ⟨g, cap, cur, rfl, _⟩
  · subst h0; exact ⟨_, _, rfl⟩
  · exact ⟨_, _, rfl⟩
theorem new_add (w : World) (l : List Value) (t : TypeId) : ∀ j v, l[j]? = some v → (w.alloc (.cells l.toArray t)).cell? ((⟨w.heap.size, 0, none⟩ : Addr).add j) = some v := by
  intro j v h
  rw [Addr.add_lit, Nat.zero_add]
  exact new_cells w l t j v h
theorem new_add2 (w : World) (o : Obj) (l : List Value) (t : TypeId) : ∀ j v, l[j]? = some v → ((w.alloc o).alloc (.cells l.toArray t)).cell? ((⟨w.heap.size + 1, 0, none⟩ : Addr).add j) = some v := by
  intro j v h
  have := new_add (w.alloc o) l t j v h
  rwa [World.size_alloc] at this
/-- What Pieces hands back. -/
def PiecesEnd (s : ByteArray) (w : World) (e : Ending) (w' : World) : Prop := ∃ v, e = .returned v ∧ w'.ownsRow w.heap.size 74 4 v (pieces s.data.toList 0).length (pcells (pieces s.data.toList 0)) ∧ Below w.heap.size w w'
set_option maxRecDepth 100000 in
set_option maxHeartbeats 1000000 in
theorem pieces_any (s : ByteArray) (hs : s.size ≤ 1000000) (w : World) : Calls Try.prog 43 #[.string s] w (PiecesEnd s w) := by
  obtain ⟨i0, hi, hz0, hz1, hz2⟩ := info_parts Try.info74
  go_enter Try.func43, Try.ntmps43
  go_wp2_with fail
  go_loopw [3, 4] (fun v u wr => ∃ (pos n : Nat) (l : List (Nat × Nat × Nat × Bool)), pos ≤ s.size ∧ n ≤ pos ∧ u = .int .i64 pos ∧ Hid (l.length = n) ∧ wr.ownsRow w.heap.size 74 4 v n (pcells l) ∧ Hid (Below w.heap.size w wr) ∧ Hid (l ++ pieces (rest s pos) pos = pieces s.data.toList 0)) (fun _ u _ => s.size - (intOf u).toNat)
  case atStart => exact ⟨0, 0, [], Nat.zero_le _, Nat.le_refl _, rfl, Lib.hid rfl, World.ownsRow_nil _ _ _ _, Lib.hid (Below.refl _ _), Lib.hid (by rw [rest_zero]; rfl)⟩
  case round =>
    obtain ⟨pos, n, l, hp, hn, rfl, hlen, hown, hb, hl⟩ := hrel
    by_cases hlt : pos < s.size
    · have hw := rest_wd s pos hlt
      have hw4 := wd_le4 (rest s pos)
      have hg := pt_ge (rest s pos)
      have hle := pt_le (rest s pos)
      have HC : Hid (l ++ (pos, pos + wd (rest s pos), un (rest s pos), decide (0 ≤ pt (rest s pos))) :: pieces (rest s (pos + wd (rest s pos))) (pos + wd (rest s pos)) = pieces s.data.toList 0) := Lib.hid (by rw [← hl.out, pieces_cons _ _ (rest_ne s pos hlt), rest_next])
      have HD := Lib.hid (refDec_in s pos hlt hs wr)
      have e1 : (dec (rest s pos)).1 = pt (rest s pos) := rfl
      have e2 : (dec (rest s pos)).2 = wd (rest s pos) := rfl
      rw [e1, e2] at HD
      have HUN : Hid (un (rest s pos) = if 65535 < pt (rest s pos) then 2 else 1) := Lib.hid rfl
      clear e1 e2 hl
      generalize wd (rest s pos) = k at *
      generalize pt (rest s pos) = p at *
      generalize un (rest s pos) = u at *
      have HO := Lib.hid hown
      clear hown
      go_wp2_with fail
      refine HD.out.mono ?_
      rintro e w1 ⟨rfl, hb1⟩
      have hown1 := ownsRow_keep HO.out hb1
      have HB1 := Lib.hid (hb.out.trans (hb1.mono hb.out.size))
      clear hb1 HO HD
      by_cases hbig : 65535 < p
      · have hu : u = 2 := by rw [HUN.out, if_pos hbig]
        have HU := Lib.hid hu
        clear hu HUN
        go_wp2_with (at_builtin; refine wpList_append_own _ rfl _ _ 71 rfl w.heap.size 74 i0 (.agg #[.int .i64 0, .int .i64 0, .int .i64 0, .bool false]) 4 32 Try.underlying71 hi hz0 hz1 hz2 rfl (by decide) _ _ _ rfl ((hown1.alloc _).alloc _) ⟨w1.heap.size + 1, 0, none⟩ 1 1 [.int .i64 (pos : Int), .int .i64 ((pos : Int) + (k : Int)), .int .i64 2, .bool (decide (0 ≤ p))] rfl rfl ?c1 ?c2 ?c3 ?c4 ?c5 ?_)
        case c1 => exact new_add2 _ _ _ _
        case c2 => simp [Value.oneCell']
        case c3 => unfold maxLen; omega
        case c4 => omega
        case c5 => simp only [World.size_alloc]; have := HB1.out.size; omega
        intro v' w2 hown' hgrow hne
        have HB2 : Hid (Below w.heap.size w w2) := Lib.hid (((HB1.out.alloc HB1.out.size _).alloc (by rw [World.size_alloc]; have := HB1.out.size; omega) _).grown hgrow (by simp only [World.size_alloc]; have := HB1.out.size; omega) (fun j ej => (World.ownsRow.lt hown1 j ej).1))
        have hr : pcells l ++ [Value.int .i64 (pos : Int), .int .i64 ((pos : Int) + (k : Int)), .int .i64 2, .bool (decide (0 ≤ p))] = pcells (l ++ [(pos, pos + k, u, decide (0 ≤ p))]) := by
          rw [pcells_snoc, HU.out]
          rfl
        rw [hr] at hown'
        have HO2 := Lib.hid hown'
        clear hr hown' hgrow hne hown1
        go_wp2
        refine ⟨⟨pos + k, n + 1, l ++ [(pos, pos + k, u, decide (0 ≤ p))], by omega, by omega, by go_num, Lib.hid (by rw [List.length_append, hlen.out]; rfl), HO2.out, HB2, Lib.hid (by rw [List.append_assoc]; exact HC.out)⟩, ?_⟩
        simp [RowKit.intOf]; omega
      · have hu : u = 1 := by rw [HUN.out, if_neg hbig]
        have HU := Lib.hid hu
        clear hu HUN
        go_wp2_with (at_builtin; refine wpList_append_own _ rfl _ _ 71 rfl w.heap.size 74 i0 (.agg #[.int .i64 0, .int .i64 0, .int .i64 0, .bool false]) 4 32 Try.underlying71 hi hz0 hz1 hz2 rfl (by decide) _ _ _ rfl ((hown1.alloc _).alloc _) ⟨w1.heap.size + 1, 0, none⟩ 1 1 [.int .i64 (pos : Int), .int .i64 ((pos : Int) + (k : Int)), .int .i64 1, .bool (decide (0 ≤ p))] rfl rfl ?d1 ?d2 ?d3 ?d4 ?d5 ?_)
        case d1 => exact new_add2 _ _ _ _
        case d2 => simp [Value.oneCell']
        case d3 => unfold maxLen; omega
        case d4 => omega
        case d5 => simp only [World.size_alloc]; have := HB1.out.size; omega
        intro v' w2 hown' hgrow hne
        have HB2 : Hid (Below w.heap.size w w2) := Lib.hid (((HB1.out.alloc HB1.out.size _).alloc (by rw [World.size_alloc]; have := HB1.out.size; omega) _).grown hgrow (by simp only [World.size_alloc]; have := HB1.out.size; omega) (fun j ej => (World.ownsRow.lt hown1 j ej).1))
        have hr : pcells l ++ [Value.int .i64 (pos : Int), .int .i64 ((pos : Int) + (k : Int)), .int .i64 1, .bool (decide (0 ≤ p))] = pcells (l ++ [(pos, pos + k, u, decide (0 ≤ p))]) := by
          rw [pcells_snoc, HU.out]
          rfl
        rw [hr] at hown'
        have HO2 := Lib.hid hown'
        clear hr hown' hgrow hne hown1
        go_wp2
        refine ⟨⟨pos + k, n + 1, l ++ [(pos, pos + k, u, decide (0 ≤ p))], by omega, by omega, by go_num, Lib.hid (by rw [List.length_append, hlen.out]; rfl), HO2.out, HB2, Lib.hid (by rw [List.append_assoc]; exact HC.out)⟩, ?_⟩
        simp [RowKit.intOf]; omega
    · go_wp2
      obtain ⟨A, c, rfl⟩ := slice_form hown
      go_ret
      have e : l = pieces s.data.toList 0 := by rw [← hl.out, rest_end s pos hlt, pieces_nil, List.append_nil]
      exact ⟨_, rfl, by rw [← e, hlen.out]; exact hown, hb.out⟩
end Go.Proofs.Ytnmbclkpncjebaa
